/- Other names for the same blocks. -/
import Derived.Test.YtekmmeikkafpmaaGreatC1
set_option linter.unusedSimpArgs false
set_option linter.unusedVariables false
namespace Go.Proofs.YtekmmeikkafpmaaGreat
namespace Abs
open Go.RowKit
abbrev Sg := Nat → Option (Nat × Nat)
def sg : List (Nat × Nat × Nat) → Sg
  | [], _ => none
  | p :: l, n => cond (Nat.beq n p.1) (some p.2) (sg l n)
mutual
def ren (σ : Sg) : AV → Option AV
  | .ptr n off => match σ n with
    | some (p, o) => some (.ptr p (o + off))
    | none => none
  | .slice n off len cap esz ex => match σ n with
    | some (p, o) => cond (Nat.beq o 0 || ex) (some (.slice p (o + off) len cap esz ex)) none
    | none => cond (Nat.beq len 0 && Nat.beq cap 0 && ex) (some (.slice n off len cap esz ex)) none
  | .map r => match σ r with
    | some (p, _) => some (.map p)
    | none => none
  | .fn f a c => match renL σ a, renL σ c with
    | some a', some c' => some (.fn f a' c')
    | _, _ => none
  | .yield l => match σ l with
    | some (p, _) => some (.yield p)
    | none => none
  | .agg cs => match renL σ cs with
    | some cs' => some (.agg cs')
    | none => none
  | .tuple cs => match renL σ cs with
    | some cs' => some (.tuple cs')
    | none => none
  | .int k n => some (.int k n)
  | .bool b => some (.bool b)
  | .str s => some (.str s)
  | .nilp => some .nilp
  | .nils => some .nils
  | .nilm => some .nilm
  | .nilf => some .nilf
  | .nili => some .nili
def renL (σ : Sg) : List AV → Option (List AV)
  | [] => some []
  | a :: l => match ren σ a, renL σ l with
    | some b, some l' => some (b :: l')
    | _, _ => none
end
def shiftB (o : Nat) (k : Blk) : Blk := ⟨k.b, k.o + o, k.C - o⟩
def Lk (σ : Sg) (m1 m2 : NM) : Prop := ∀ n p o, σ n = some (p, o) → m1 n = (m2 p).map (shiftB o)
section
variable {σ : Sg} {m1 m2 : NM}
theorem free_iff {m : NM} {n off esz : Nat} {v : Value} : VR m (.slice n off 0 0 esz true) v ↔ ∃ A, v = .slice (some A) 0 0 := by
  constructor
  · intro h
    obtain ⟨A, c, rfl, _, _, h3, _⟩ := h.slice_some
    exact ⟨A, by rw [h3 rfl]⟩
  · intro h
    simp only [VR]
    exact .inl ⟨trivial, trivial, trivial, h⟩
mutual
theorem ren_iff (hl : Lk σ m1 m2) : (a b : AV) → ren σ a = some b → ∀ v, VR m1 a v ↔ VR m2 b v
  | .ptr n off, b, h => fun v => by
    simp only [ren] at h
    split at h <;> cases h
    rename_i p o hs
    have e := hl n p o hs
    simp only [VR, e]
    cases m2 p with
    | none => simp
    | some k => simp only [Option.map_some, Option.some.injEq]; constructor
                · rintro ⟨_, rfl, rfl⟩; exact ⟨k, rfl, by simp [shiftB, Nat.add_assoc]⟩
                · rintro ⟨_, rfl, rfl⟩; exact ⟨_, rfl, by simp [shiftB, Nat.add_assoc]⟩
  | .slice n off len cap esz ex, b, h => fun v => by
    simp only [ren] at h
    split at h
    rotate_left
    · simp only [Bool.cond_eq_ite, Bool.and_eq_true, Nat.beq_eq] at h
      split at h <;> cases h
      rename_i hz
      obtain ⟨⟨rfl, rfl⟩, rfl⟩ := hz
      exact free_iff.trans free_iff.symm
    rename_i p o hs
    simp only [Bool.cond_eq_ite, Bool.or_eq_true, Nat.beq_eq] at h
    split at h <;> cases h
    rename_i hex
    have e := hl n p o hs
    simp only [VR, e]
    refine or_congr Iff.rfl ?_
    cases m2 p with
    | none => simp
    | some k =>
      simp only [Option.map_some, Option.some.injEq]
      constructor
      · rintro ⟨_, off', c, sp, rfl, h1, h2, h3, h4, h5, h6, h7⟩
        refine ⟨k, off', c, sp, rfl, h1, h2, h3, h4, ?_, fun e => ?_, h7⟩
        · rcases h5 with h | h
          · exact .inl h
          · right; simp only [shiftB] at h; omega
        · have := h6 e
          simp only [shiftB] at this
          rcases hex with hx | hx
          · subst hx; simpa using this
          · rw [hx] at e; cases e
      · rintro ⟨_, off', c, sp, rfl, h1, h2, h3, h4, h5, h6, h7⟩
        refine ⟨_, off', c, sp, rfl, h1, h2, h3, h4, ?_, fun e => ?_, h7⟩
        · rcases h5 with h | h
          · exact .inl h
          · right; simp only [shiftB]; omega
        · have := h6 e
          simp only [shiftB]
          omega
  | .map r, b, h => fun v => by
    simp only [ren] at h
    split at h <;> cases h
    rename_i p o hs
    have e := hl r p o hs
    simp only [VR, e]
    cases m2 p with
    | none => simp
    | some k => simp only [Option.map_some, Option.some.injEq]; constructor
                · rintro ⟨_, rfl, rfl⟩; exact ⟨k, rfl, rfl⟩
                · rintro ⟨_, rfl, rfl⟩; exact ⟨_, rfl, rfl⟩
  | .yield r, b, h => fun v => by
    simp only [ren] at h
    split at h <;> cases h
    rename_i p o hs
    have e := hl r p o hs
    simp only [VR, e]
    cases m2 p with
    | none => simp
    | some k => simp only [Option.map_some, Option.some.injEq]; constructor
                · rintro ⟨_, rfl, rfl⟩; exact ⟨k, rfl, rfl⟩
                · rintro ⟨_, rfl, rfl⟩; exact ⟨_, rfl, rfl⟩
  | .fn f a c, b, h => fun v => by
    simp only [ren] at h
    split at h <;> cases h
    rename_i a' c' h1 h2
    have i1 := renL_iff hl a a' h1
    have i2 := renL_iff hl c c' h2
    simp only [VR]
    constructor
    · rintro ⟨xs, ys, e, g1, g2⟩; exact ⟨xs, ys, e, (i1 _).1 g1, (i2 _).1 g2⟩
    · rintro ⟨xs, ys, e, g1, g2⟩; exact ⟨xs, ys, e, (i1 _).2 g1, (i2 _).2 g2⟩
  | .agg cs, b, h => fun v => by
    simp only [ren] at h
    split at h <;> cases h
    rename_i cs' h1
    have i1 := renL_iff hl cs cs' h1
    simp only [VR]
    constructor
    · rintro ⟨xs, e, g1⟩; exact ⟨xs, e, (i1 _).1 g1⟩
    · rintro ⟨xs, e, g1⟩; exact ⟨xs, e, (i1 _).2 g1⟩
  | .tuple cs, b, h => fun v => by
    simp only [ren] at h
    split at h <;> cases h
    rename_i cs' h1
    have i1 := renL_iff hl cs cs' h1
    simp only [VR]
    constructor
    · rintro ⟨xs, e, g1⟩; exact ⟨xs, e, (i1 _).1 g1⟩
    · rintro ⟨xs, e, g1⟩; exact ⟨xs, e, (i1 _).2 g1⟩
  | .int k n, b, h => fun v => by simp only [ren, Option.some.injEq] at h; subst h; simp only [VR]
  | .bool _, b, h => fun v => by simp only [ren, Option.some.injEq] at h; subst h; simp only [VR]
  | .str _, b, h => fun v => by simp only [ren, Option.some.injEq] at h; subst h; simp only [VR]
  | .nilp, b, h => fun v => by simp only [ren, Option.some.injEq] at h; subst h; simp only [VR]
  | .nils, b, h => fun v => by simp only [ren, Option.some.injEq] at h; subst h; simp only [VR]
  | .nilm, b, h => fun v => by simp only [ren, Option.some.injEq] at h; subst h; simp only [VR]
  | .nilf, b, h => fun v => by simp only [ren, Option.some.injEq] at h; subst h; simp only [VR]
  | .nili, b, h => fun v => by simp only [ren, Option.some.injEq] at h; subst h; simp only [VR]
theorem renL_iff (hl : Lk σ m1 m2) : (a b : List AV) → renL σ a = some b → ∀ v, VRs m1 a v ↔ VRs m2 b v
  | [], b, h => fun v => by simp only [renL, Option.some.injEq] at h; subst h; simp only [VRs]
  | a :: l, b, h => fun v => by
    simp only [renL] at h
    split at h <;> cases h
    rename_i b' l' h1 h2
    have i1 := ren_iff hl a b' h1
    have i2 := renL_iff hl l l' h2
    simp only [VRs]
    constructor
    · rintro ⟨x, t, e, g1, g2⟩; exact ⟨x, t, e, (i1 _).1 g1, (i2 _).1 g2⟩
    · rintro ⟨x, t, e, g1, g2⟩; exact ⟨x, t, e, (i1 _).2 g1, (i2 _).2 g2⟩
end
end
def plain : AV → Bool
  | .int _ _ | .bool _ | .str _ | .nilp | .nils | .nilm | .nilf | .nili => true
  | _ => false
theorem ren_plain {σ : Sg} {a : AV} (h : plain a = true) : ren σ a = some a := by cases a <;> first | rfl | cases h
theorem renL_plain {σ : Sg} : ∀ {l : List AV}, l.all plain = true → renL σ l = some l
  | [], _ => rfl
  | a :: l, h => by
    simp only [List.all_cons, Bool.and_eq_true] at h
    simp only [renL, ren_plain h.1, renL_plain h.2]

def renT (σ : Sg) : Tr AV → Option (Tr AV)
  | .nil => some .nil
  | .node v l r => match (match v with
      | none => some none
      | some a => match ren σ a with
        | some b => some (some b)
        | none => none), renT σ l, renT σ r with
    | some v', some l', some r' => some (.node v' l' r')
    | _, _, _ => none
theorem renT_get {σ : Sg} : ∀ {t t' : Tr AV}, renT σ t = some t' → ∀ k, match t.get k with
    | none => t'.get k = none
    | some a => ∃ b, ren σ a = some b ∧ t'.get k = some b
  | .nil, t', h, k => by simp only [renT, Option.some.injEq] at h; subst h; rfl
  | .node v l r, t', h, k => by
    simp only [renT] at h
    split at h <;> cases h
    rename_i v' l' r' h1 h2 h3
    have i1 := renT_get h2
    have i2 := renT_get h3
    simp only [Tr.get, Bool.cond_eq_ite, Nat.beq_eq]
    by_cases hk : k = 0
    · simp only [if_pos hk]
      cases v with
      | none => cases h1; rfl
      | some a =>
        simp only at h1
        split at h1 <;> cases h1
        rename_i b hb
        exact ⟨b, hb, rfl⟩
    · simp only [if_neg hk]
      by_cases hp : k % 2 = 1
      · simp only [if_pos hp]; exact i1 _
      · simp only [if_neg hp]; exact i2 _
theorem renT_tr {σ : Sg} {m1 m2 : NM} (hl : Lk σ m1 m2) {n : Nat} {t t' : Tr AV} (h : renT σ t = some t') {a : Array Value} : TR m1 n t a ↔ TR m2 n t' a := by
  have key : ∀ k, VU m1 (t.get k) (a.getD k undef) ↔ VU m2 (t'.get k) (a.getD k undef) := by
    intro k
    have := renT_get h k
    cases hk : t.get k with
    | none => rw [hk] at this; simp only at this; rw [this]; exact Iff.rfl
    | some x =>
      rw [hk] at this
      obtain ⟨b, h1, h2⟩ := this
      rw [h2]
      exact ren_iff hl x b h1 _
  exact ⟨fun ⟨h1, h2⟩ => ⟨h1, fun k => (key k).1 (h2 k)⟩, fun ⟨h1, h2⟩ => ⟨h1, fun k => (key k).2 (h2 k)⟩⟩
def renE (σ : Sg) : List (AV × AV × Nat) → Option (List (AV × AV × Nat))
  | [] => some []
  | e :: es => match ren σ e.1, ren σ e.2.1, renE σ es with
    | some k, some v, some l => some ((k, v, e.2.2) :: l)
    | _, _, _ => none
theorem renE_iff {σ : Sg} {m1 m2 : NM} (hl : Lk σ m1 m2) : ∀ {es es' : List (AV × AV × Nat)}, renE σ es = some es' → ∀ l, ERs m1 es l ↔ ERs m2 es' l
  | [], es', h, l => by simp only [renE, Option.some.injEq] at h; subst h; exact Iff.rfl
  | e :: es, es', h, l => by
    simp only [renE] at h
    split at h <;> cases h
    rename_i k v l' h1 h2 h3
    have i3 := renE_iff hl h3
    simp only [ERs]
    constructor
    · rintro ⟨x, t, e, g1, g2, g3, g4⟩; exact ⟨x, t, e, (ren_iff hl _ _ h1 _).1 g1, (ren_iff hl _ _ h2 _).1 g2, g3, (i3 _).1 g4⟩
    · rintro ⟨x, t, e, g1, g2, g3, g4⟩; exact ⟨x, t, e, (ren_iff hl _ _ h1 _).2 g1, (ren_iff hl _ _ h2 _).2 g2, g3, (i3 _).2 g4⟩
def renO (σ : Sg) : AObj → Option AObj
  | .cells w cs => match renL σ cs with
    | some cs' => some (.cells w cs')
    | none => none
  | .map es c => match renE σ es with
    | some es' => some (.map es' c)
    | none => none
  | .loop L => match renT σ L.tmps, σ L.defers with
    | some T', some (p, _) => some (.loop ⟨L.state, L.pending, L.n, T', L.params, L.assign, L.body, p⟩)
    | _, _ => none
  | .dfr b => some (.dfr b)
  | .iter r since seen last => match r with
    | none => some (.iter none since seen last)
    | some r => match σ r with
      | some (p, _) => some (.iter (some p) since seen last)
      | none => none
  | .lent _ _ => none
theorem renO_solo {σ : Sg} {a b : AObj} (h : renO σ a = some b) : a.solo = true ∧ b.solo = true := by
  cases a <;> simp only [renO] at h
  · split at h <;> cases h; exact ⟨rfl, rfl⟩
  · split at h <;> cases h; exact ⟨rfl, rfl⟩
  · split at h <;> cases h; exact ⟨rfl, rfl⟩
  · cases h; exact ⟨rfl, rfl⟩
  · split at h
    · cases h; exact ⟨rfl, rfl⟩
    · split at h <;> cases h; exact ⟨rfl, rfl⟩
  · cases h
theorem renO_writable {σ : Sg} {a b : AObj} (h : renO σ a = some b) : b.writable = a.writable := by
  cases a <;> simp only [renO] at h
  · split at h <;> cases h; rfl
  · split at h <;> cases h; rfl
  · split at h <;> cases h; rfl
  · cases h; rfl
  · split at h
    · cases h; rfl
    · split at h <;> cases h; rfl
  · cases h
theorem renO_kin {σ : Sg} {a b : AObj} (h : renO σ a = some b) : Kin a b := ⟨(renO_writable h).symm, fun L0 e => by
  subst e
  simp only [renO] at h
  split at h <;> cases h
  exact ⟨_, rfl, rfl, rfl⟩⟩
theorem renO_ok {σ : Sg} {a b : AObj} (h : renO σ a = some b) (k : ObOk a) : ObOk b := by
  cases a <;> simp only [renO] at h
  · split at h <;> cases h; trivial
  · split at h <;> cases h; trivial
  · split at h <;> cases h; exact k
  · cases h; trivial
  · split at h
    · cases h; trivial
    · split at h <;> cases h; trivial
  · cases h
theorem renO_iff {σ : Sg} {m1 m2 : NM} (hl : Lk σ m1 m2) {a b : AObj} (h : renO σ a = some b) (k : Blk) (o : Obj) : OR m1 k a o ↔ OR m2 k b o := by
  cases a with
  | lent r cs => cases h
  | cells w cs =>
    simp only [renO] at h
    split at h <;> cases h
    rename_i cs' h1
    have i1 := renL_iff hl cs cs' h1
    simp only [OR]
    constructor
    · rintro ⟨c, e, fz, pre, vs, rest, g1, g2, g3, g4, g5⟩; exact ⟨c, e, fz, pre, vs, rest, g1, g2, g3, (i1 _).1 g4, g5⟩
    · rintro ⟨c, e, fz, pre, vs, rest, g1, g2, g3, g4, g5⟩; exact ⟨c, e, fz, pre, vs, rest, g1, g2, g3, (i1 _).2 g4, g5⟩
  | map es c =>
    simp only [renO] at h
    split at h <;> cases h
    rename_i es' h1
    have i1 := renE_iff hl h1
    simp only [OR]
    constructor
    · rintro ⟨l, g1, g2⟩; exact ⟨l, g1, (i1 _).1 g2⟩
    · rintro ⟨l, g1, g2⟩; exact ⟨l, g1, (i1 _).2 g2⟩
  | loop L =>
    simp only [renO] at h
    split at h <;> cases h
    rename_i T' p o' h1 h2
    have i1 := fun a => renT_tr hl (n := L.n) (a := a) h1
    have e := hl _ _ _ h2
    simp only [OR]
    constructor
    · rintro ⟨r, g1, g2, g3, g4, g5, g6, g7, kd, g8, g9⟩
      rw [e] at g8
      cases hp : m2 p with
      | none => rw [hp] at g8; cases g8
      | some k2 => rw [hp] at g8; cases g8; exact ⟨r, g1, g2, g3, g4, g5, g6, (i1 _).1 g7, k2, rfl, g9⟩
    · rintro ⟨r, g1, g2, g3, g4, g5, g6, g7, kd, g8, g9⟩
      exact ⟨r, g1, g2, g3, g4, g5, g6, (i1 _).2 g7, shiftB o' kd, by rw [e, g8]; rfl, g9⟩
  | dfr b => simp only [renO, Option.some.injEq] at h; subst h; exact Iff.rfl
  | iter r since seen last =>
    simp only [renO] at h
    split at h
    · cases h; exact Iff.rfl
    · split at h <;> cases h
      rename_i p o' h2
      have e := hl _ _ _ h2
      simp only [OR]
      constructor
      · rintro ⟨g0, kr, g1, g2⟩
        rw [e] at g1
        cases hp : m2 p with
        | none => rw [hp] at g1; cases g1
        | some k2 => rw [hp] at g1; cases g1; exact ⟨g0, k2, rfl, g2⟩
      · rintro ⟨g0, kr, g1, g2⟩
        exact ⟨g0, shiftB o' kr, by rw [e, g1]; rfl, g2⟩
end Abs
end Go.Proofs.YtekmmeikkafpmaaGreat

namespace Go.Proofs.YtekmmeikkafpmaaGreat
namespace Abs
open Go.RowKit
section
variable {P : Program}
theorem hget {t : Tr AObj} {w : Nat} (n : Nat) : (⟨t, [], w⟩ : Hp).get n = t.get n := by simp [Hp.get, hid]
def Tr.sup {α : Type} : Tr α → Nat
  | .nil => 0
  | .node v l r => max (match v with | some _ => 1 | none => 0) (max (match l.sup with | 0 => 0 | s + 1 => 2 * s + 2) (match r.sup with | 0 => 0 | s + 1 => 2 * s + 3))
theorem Tr.get_lt_sup {α : Type} : ∀ {t : Tr α} {k : Nat} {a : α}, t.get k = some a → k < t.sup
  | .nil, k, a, h => by cases h
  | .node v l r, k, a, h => by
    simp only [Tr.get, Bool.cond_eq_ite, Nat.beq_eq] at h
    simp only [Tr.sup]
    by_cases hk : k = 0
    · simp only [if_pos hk] at h; subst h hk; simp only; omega
    · simp only [if_neg hk] at h
      by_cases hp : k % 2 = 1
      · simp only [if_pos hp] at h
        have := Tr.get_lt_sup h
        cases hs : l.sup with
        | zero => omega
        | succ s => simp only; omega
      · simp only [if_neg hp] at h
        have := Tr.get_lt_sup h
        cases hs : r.sup with
        | zero => omega
        | succ s => simp only; omega
def okO : AObj → Bool
  | .loop L => codeOk L.assign && (codeOk L.body && (match L.pending with | none => true | some c => codeOk c))
  | _ => true
theorem okO_ok {o : AObj} (h : okO o = true) : ObOk o := by
  cases o with
  | loop L =>
    simp only [okO, Bool.and_eq_true] at h
    refine ⟨h.1, h.2.1, fun c hc => ?_⟩
    rw [hc] at h
    exact h.2.2
  | _ => trivial
def Tr.allB {α : Type} (p : α → Bool) : Tr α → Bool
  | .nil => true
  | .node v l r => (match v with | some a => p a | none => true) && (l.allB p && r.allB p)
theorem Tr.allB_get {α : Type} {p : α → Bool} : ∀ {t : Tr α} {k : Nat} {a : α}, t.allB p = true → t.get k = some a → p a = true
  | .nil, k, a, _, h => by cases h
  | .node v l r, k, a, hb, h => by
    simp only [Tr.allB, Bool.and_eq_true] at hb
    simp only [Tr.get, Bool.cond_eq_ite, Nat.beq_eq] at h
    by_cases hk : k = 0
    · simp only [if_pos hk] at h; subst h; exact hb.1
    · simp only [if_neg hk] at h
      by_cases hp : k % 2 = 1
      · simp only [if_pos hp] at h; exact Tr.allB_get hb.2.1 h
      · simp only [if_neg hp] at h; exact Tr.allB_get hb.2.2 h
theorem wf_of {t : Tr AObj} {nx : Nat} (h1 : Nat.ble t.sup nx = true) (h2 : t.allB okO = true) : Wf ⟨t, [], 0⟩ nx :=
  ⟨fun n hn => by
    cases h : t.get n with
    | none => rfl
    | some a => have := Tr.get_lt_sup h; have := Nat.le_of_ble_eq_true h1; omega, fun p hp => (by cases hp), fun n ob h => okO_ok (Tr.allB_get h2 h)⟩

def EmbE (σ : Sg) (Hc H : Hp) (x : Nat × Nat × Nat) : Prop := ∃ ob ob', Hc.get x.1 = some ob ∧ H.get x.2.1 = some ob' ∧
  (x.2.2 = 0 ∧ renO σ ob = some ob' ∨ ∃ cs w big, ob = .cells false cs ∧ ob' = .cells w big ∧ x.2.2 + cs.length ≤ big.length ∧ renL σ cs = some ((big.drop x.2.2).take cs.length))
def EmbL (σ : Sg) (Hc H : Hp) : List (Nat × Nat × Nat) → Prop
  | [] => True
  | x :: l => EmbE σ Hc H x ∧ EmbL σ Hc H l
theorem embL_mem {σ : Sg} {Hc H : Hp} : ∀ {l : List (Nat × Nat × Nat)} {x : Nat × Nat × Nat}, EmbL σ Hc H l → x ∈ l → EmbE σ Hc H x
  | [], _, _, h => by cases h
  | y :: l, x, ⟨h1, h2⟩, h => by
    rcases List.mem_cons.1 h with rfl | h
    · exact h1
    · exact embL_mem h2 h
theorem embL_solo {σ : Sg} {Hc H : Hp} {l : List (Nat × Nat × Nat)} {x : Nat × Nat × Nat} (hE : EmbL σ Hc H l) (h : x ∈ l) {ob : AObj} (hg : H.get x.2.1 = some ob) : ob.solo = true := by
  obtain ⟨ob1, ob', h1, h2, h3⟩ := embL_mem hE h
  rw [hg] at h2; cases h2
  rcases h3 with ⟨_, h⟩ | ⟨cs, w, big, _, rfl, _⟩
  · exact (renO_solo h).2
  · rfl
theorem sg_mem : ∀ {L : List (Nat × Nat × Nat)} {n : Nat} {p : Nat × Nat}, sg L n = some p → (n, p) ∈ L
  | [], _, _, h => by cases h
  | x :: l, n, p, h => by
    simp only [sg, Bool.cond_eq_ite, Nat.beq_eq] at h
    split at h
    · rename_i e; cases h; subst e; exact List.mem_cons_self
    · exact List.mem_cons_of_mem _ (sg_mem h)
theorem sg_some : ∀ {L : List (Nat × Nat × Nat)} {n : Nat}, n ∈ L.map (·.1) → ∃ p, sg L n = some p
  | [], _, h => by cases h
  | x :: l, n, h => by
    simp only [sg, Bool.cond_eq_ite, Nat.beq_eq]
    split
    · exact ⟨_, rfl⟩
    · rename_i hne
      rcases List.mem_cons.1 h with h | h
      · exact absurd h hne
      · exact sg_some h
def disB (Hc : Hp) (L : List (Nat × Nat × Nat)) : Bool := L.all fun x => match Hc.get x.1 with
  | some ob => cond ob.writable (L.all fun y => cond (Nat.beq y.1 x.1) true (!(Nat.beq y.2.1 x.2.1))) true
  | none => true
def upTo : Nat → Nat → List Nat
  | _, 0 => []
  | a, n + 1 => a :: upTo (a + 1) n
theorem mem_upTo : ∀ {n a x : Nat}, x ∈ upTo a n ↔ a ≤ x ∧ x < a + n
  | 0, a, x => by simp [upTo]
  | n + 1, a, x => by simp only [upTo, List.mem_cons, mem_upTo]; omega
def PlOk (Hc : Hp) : List Nat → Prop
  | [] => True
  | i :: l => (∃ w cs, Hc.get i = some (.cells w cs) ∧ cs.all plain = true) ∧ PlOk Hc l
theorem plOk_ren {Hc : Hp} {σ : Sg} : ∀ {pl : List Nat} {i : Nat} {ob : AObj}, PlOk Hc pl → pl.any (Nat.beq i) = true → Hc.get i = some ob → renO σ ob = some ob
  | [], _, _, _, h, _ => by cases h
  | j :: l, i, ob, ⟨⟨w, cs, h1, h2⟩, h3⟩, h, hg => by
    simp only [List.any_cons, Bool.or_eq_true] at h
    rcases h with h | h
    · have := Nat.eq_of_beq_eq_true h
      subst this
      rw [h1] at hg; cases hg
      simp only [renO, renL_plain h2]
    · exact plOk_ren h3 h hg

def mOf (L : List (Nat × Nat × Nat)) (m : NM) : NM := fun n => match sg L n with
  | some (p, o) => (m p).map (shiftB o)
  | none => none
theorem mOf_lk {L : List (Nat × Nat × Nat)} {m : NM} : Lk (sg L) (mOf L m) m := fun n p o h => by simp only [mOf, h]
theorem mOf_some {L : List (Nat × Nat × Nat)} {m : NM} {n : Nat} {k : Blk} (h : mOf L m n = some k) : ∃ p o k0, sg L n = some (p, o) ∧ m p = some k0 ∧ k = shiftB o k0 := by
  unfold mOf at h
  split at h
  · rename_i p o hs
    cases hp : m p with
    | none => rw [hp] at h; cases h
    | some k0 => rw [hp] at h; cases h; exact ⟨p, o, k0, hs, hp, rfl⟩
  · cases h
theorem rel_emb {L : List (Nat × Nat × Nat)} {Hc H : Hp} {nxc : Nat} {m : NM} {W : World} (hW : Wf Hc nxc) (hk : L.map (·.1) = upTo 0 nxc) (hE : EmbL (sg L) Hc H L) (hD : disB Hc L = true) (hR : Rel m H W) : Rel (mOf L m) Hc W := by
  have at_ : ∀ {n : Nat} {ob : AObj}, Hc.get n = some ob → ∃ p o k0 ob' r, sg L n = some (p, o) ∧ (n, p, o) ∈ L ∧ m p = some k0 ∧ H.get p = some ob' ∧ W.heap[k0.b]? = some r ∧ OR m k0 ob' r ∧
      (o = 0 ∧ renO (sg L) ob = some ob' ∨ ∃ cs w big, ob = .cells false cs ∧ ob' = .cells w big ∧ o + cs.length ≤ big.length ∧ renL (sg L) cs = some ((big.drop o).take cs.length)) := by
    intro n ob hg
    have hlt := hW.lt hg
    obtain ⟨⟨p, o⟩, hs⟩ := sg_some (L := L) (n := n) (by rw [hk, mem_upTo]; omega)
    have hmem := sg_mem hs
    obtain ⟨ob1, ob', h1, h2, h3⟩ := embL_mem hE hmem
    simp only at h1 h2 h3
    rw [hg] at h1; cases h1
    obtain ⟨k0, r, g1, g2, g3⟩ := hR.obj p ob' h2
    exact ⟨p, o, k0, ob', r, hs, hmem, g1, h2, g2, g3, h3⟩
  constructor
  · intro n ob hg
    obtain ⟨p, o, k0, ob', r, hs, _, hm, _, hr, hO, hc⟩ := at_ hg
    refine ⟨shiftB o k0, r, by simp only [mOf, hs, hm, Option.map_some], hr, ?_⟩
    rcases hc with ⟨rfl, hren⟩ | ⟨cs, w, big, rfl, rfl, hlen, hren⟩
    · exact (renO_iff mOf_lk hren _ _).2 hO
    · obtain ⟨c, e, fz, pre, vs, rest, g1, g2, g3, g4, g5⟩ := hO
      have hl := g4.length
      refine ⟨c, e, fz, pre ++ vs.take o, (vs.drop o).take cs.length, (vs.drop o).drop cs.length ++ rest, g1, ?_, ?_, ?_, by simp⟩
      · rw [g2]
        simp only [List.append_assoc]
        congr 1
        rw [← List.append_assoc ((vs.drop o).take _), List.take_append_drop, ← List.append_assoc, List.take_append_drop]
      · simp only [List.length_append, List.length_take, shiftB]; omega
      · exact (renL_iff mOf_lk cs _ hren _).2 ((g4.drop o).take _)
  · intro i j oi oj ki kj gi gj mi mj hw hb
    obtain ⟨p, o, k0, ob', r, hs, hmem, hm, hp, _, _, hc⟩ := at_ gi
    obtain ⟨p2, o2, k2, ob2, r2, hs2, hmem2, hm2, hp2, _, _, _⟩ := at_ gj
    simp only [mOf, hs, hm, Option.map_some, Option.some.injEq] at mi
    simp only [mOf, hs2, hm2, Option.map_some, Option.some.injEq] at mj
    subst mi mj
    simp only [shiftB] at hb
    have hw' : ob'.writable = true := by
      rcases hc with ⟨_, hren⟩ | ⟨cs, w, big, rfl, rfl, _, _⟩
      · rw [renO_writable hren]; exact hw
      · cases hw
    have hpp := (hR.inj p p2 ob' ob2 k0 k2 hp hp2 hm hm2 hw' hb).eq (embL_solo hE hmem hp)
    subst hpp
    refine .inl ?_
    unfold disB at hD
    rw [List.all_eq_true] at hD
    have := hD _ hmem
    simp only [gi, hw, cond_true, List.all_eq_true] at this
    have := this _ hmem2
    simp only at this
    cases hji : Nat.beq j i with
    | true => exact (Nat.eq_of_beq_eq_true hji).symm
    | false => rw [hji] at this; simp at this

end
end Abs
end Go.Proofs.YtekmmeikkafpmaaGreat

namespace Go.Proofs.YtekmmeikkafpmaaGreat
namespace Abs
open Go.RowKit
section
variable {P : Program}
def objs : List (Nat × AObj) → Tr AObj
  | [] => .nil
  | p :: l => (objs l).set p.1 p.2
abbrev hp (l : List (Nat × AObj)) : Hp := ⟨objs l, [], 0⟩

def sgK (b : Nat) (K : List (Nat × Nat × Nat)) : Sg := fun n => cond (n.blt b) (some (n, 0)) (sg K n)
def kB (b nx2 : Nat) (K : List (Nat × Nat × Nat)) : Bool := K.all fun x => b.ble x.1 && (b.ble x.2.1 && (x.2.1.blt nx2 && (Nat.beq x.2.2 0 &&
  K.all fun y => cond (Nat.beq x.2.1 y.2.1) (Nat.beq x.1 y.1) (!(Nat.beq x.1 y.1)))))
def buildT (σ : Sg) (pl : List Nat) (t : Tr AObj) : List (Nat × Nat) → Option (Tr AObj)
  | [] => some .nil
  | p :: l => match t.get p.1 with
    | none => buildT σ pl t l
    | some ob => match cond (pl.any (Nat.beq p.1)) (some ob) (renO σ ob), buildT σ pl t l with
      | some ob', some t' => some (t'.set p.2 ob')
      | _, _ => none
def buildL (σ : Sg) (E : Env) : List Nat → Option (List (Nat × AV))
  | [] => some []
  | s :: l => match E s, buildL σ E l with
    | some v, some l' => match ren σ v with
      | some v' => some ((s, v') :: l')
      | none => none
    | _, _ => none
def renD (σ : Sg) : List ADef → Option (List ADef)
  | [] => some []
  | .mark r :: l => match σ r, renD σ l with
    | some (p, _), some l' => some (.mark p :: l')
    | _, _ => none
  | .fn f cap args :: l => match renL σ cap, renL σ args, renD σ l with
    | some c', some a', some l' => some (.fn f c' a' :: l')
    | _, _, _ => none
theorem buildT_get {σ : Sg} {pl : List Nat} {t : Tr AObj} (hpl : PlOk ⟨t, [], 0⟩ pl) : ∀ {l : List (Nat × Nat)} {t' : Tr AObj}, buildT σ pl t l = some t' → ∀ n ob', t'.get n = some ob' → ∃ p ∈ l, p.2 = n ∧ ∃ ob, t.get p.1 = some ob ∧ renO σ ob = some ob'
  | [], t', h, n, ob', hg => by simp only [buildT, Option.some.injEq] at h; subst h; cases hg
  | p :: l, t', h, n, ob', hg => by
    simp only [buildT] at h
    cases hp : t.get p.1 with
    | none =>
      rw [hp] at h
      obtain ⟨q, h1, h2⟩ := buildT_get hpl h n ob' hg
      exact ⟨q, List.mem_cons_of_mem _ h1, h2⟩
    | some ob =>
      rw [hp] at h
      simp only at h
      split at h <;> cases h
      rename_i ob1 t1 h1 h2
      rw [Tr.get_set] at hg
      split at hg
      · rename_i e
        cases hg
        refine ⟨p, List.mem_cons_self, e.symm, ob, hp, ?_⟩
        cases hb : pl.any (Nat.beq p.1) with
        | false => rw [hb] at h1; exact h1
        | true =>
          rw [hb] at h1
          simp only [cond_true, Option.some.injEq] at h1
          subst h1
          exact plOk_ren hpl hb (by rw [hget]; exact hp)
      · obtain ⟨q, g1, g2⟩ := buildT_get hpl h2 n ob' hg
        exact ⟨q, List.mem_cons_of_mem _ g1, g2⟩
theorem renD_dr {σ : Sg} {m1 m2 : NM} (hl : Lk σ m1 m2) : ∀ {ds ds' : List ADef} {l : List Deferred}, renD σ ds = some ds' → DR m1 ds l → DR m2 ds' l
  | [], ds', l, h, k => by simp only [renD, Option.some.injEq] at h; subst h; exact k
  | .mark r :: ds, ds', l, h, k => by
    simp only [renD] at h
    split at h <;> cases h
    rename_i p o l' h1 h2
    obtain ⟨b, t, g1, rfl, g2⟩ := k
    have e := hl _ _ _ h1
    rw [g1] at e
    cases hp : m2 p with
    | none => rw [hp] at e; cases e
    | some k2 => rw [hp] at e; cases e; exact ⟨k2, t, hp, rfl, renD_dr hl h2 g2⟩
  | .fn f cap args :: ds, ds', l, h, k => by
    simp only [renD] at h
    split at h <;> cases h
    rename_i c' a' l' h1 h2 h3
    obtain ⟨xs, ys, t, rfl, g1, g2, g3⟩ := k
    exact ⟨xs, ys, t, rfl, (renL_iff hl _ _ h1 _).1 g1, (renL_iff hl _ _ h2 _).1 g2, renD_dr hl h3 g3⟩
theorem buildL_get {σ : Sg} {E : Env} : ∀ {S : List Nat} {L2 : List (Nat × AV)}, buildL σ E S = some L2 → ∀ s v', lk L2 noE s = some v' → ∃ v, E s = some v ∧ ren σ v = some v'
  | [], L2, h, s, v', hg => by simp only [buildL, Option.some.injEq] at h; subst h; cases hg
  | s0 :: S, L2, h, s, v', hg => by
    simp only [buildL] at h
    split at h <;> try (cases h; done)
    rename_i v l' h1 h2
    split at h <;> cases h
    rename_i v2 h3
    simp only [lk, Env.set, Bool.cond_eq_ite, Nat.beq_eq] at hg
    split at hg
    · rename_i e; subst e; cases hg; exact ⟨v, h1, h3⟩
    · exact buildL_get h2 s v' hg
def shiftS (b : Nat) (K : List (Nat × Nat × Nat)) (pl S : List Nat) (E : Env) (ds : List ADef) (t : Tr AObj) : Option (List (Nat × AV) × List ADef × Tr AObj) :=
  match buildL (sgK b K) E S, renD (sgK b K) ds, buildT (sgK b K) pl t ((upTo 0 b).map (fun i => (i, i)) ++ K.map (fun x => (x.1, x.2.1))) with
  | some L2, some ds2, some t2 => some (L2, ds2, t2)
  | _, _, _ => none
def rdB (b : Nat) (K : List (Nat × Nat × Nat)) : Option Nat → Bool
  | none => true
  | some l => match sgK b K l with
    | some (p, o) => Nat.beq p l && Nat.beq o 0
    | none => false
theorem stt_shift {B : Ent} {n : Nat} {rd : Option Nat} {F : Fence} {T : Tr AV} {ds ds2 : List ADef} {t t2 : Tr AObj} {nx nx2 : Nat} {m : NM} {W : World} {a : Act} {K : List (Nat × Nat × Nat)} {pl S : List Nat} {L2 : List (Nat × AV)}
    (hk : kB B.nx nx2 K = true) (hn : B.nx ≤ nx2) (hpl : PlOk ⟨t, [], 0⟩ pl) (hrd : rdB B.nx K rd = true) (h : shiftS B.nx K pl S T.get ds t = some (L2, ds2, t2)) (A : Stt B n rd F T ds ⟨t, [], 0⟩ nx m W a) :
    ∃ m2, Stt B n rd F (trOf L2) ds2 ⟨t2, [], 0⟩ nx2 m2 W a := by
  unfold shiftS at h
  split at h <;> cases h
  rename_i h1 h2 h3
  have kmem : ∀ {x : Nat × Nat × Nat}, x ∈ K → B.nx ≤ x.1 ∧ B.nx ≤ x.2.1 ∧ x.2.1 < nx2 ∧ x.2.2 = 0 ∧ ∀ y ∈ K, (x.2.1 = y.2.1 ↔ x.1 = y.1) := by
    intro x hx
    unfold kB at hk
    rw [List.all_eq_true] at hk
    have := hk x hx
    simp only [Bool.and_eq_true, Nat.ble_eq, Nat.blt_eq, Nat.beq_eq, List.all_eq_true] at this
    refine ⟨this.1, this.2.1, this.2.2.1, this.2.2.2.1, fun y hy => ?_⟩
    have := this.2.2.2.2 y hy
    simp only [Bool.cond_eq_ite, Nat.beq_eq] at this
    split at this
    · rename_i e; rw [Nat.beq_eq] at this; exact ⟨fun _ => this, fun _ => e⟩
    · rename_i e
      simp only [Bool.not_eq_true'] at this
      constructor
      · intro e2; exact absurd e2 e
      · intro e2; rw [e2] at this; simp at this
  let m2 : NM := fun n => if n < B.nx then m n else match K.find? (fun x => Nat.beq x.2.1 n) with
    | some x => m x.1
    | none => none
  have find : ∀ {x : Nat × Nat × Nat}, x ∈ K → m2 x.2.1 = m x.1 := by
    intro x hx
    obtain ⟨g1, g2, g3, g4, g5⟩ := kmem hx
    have e : ¬ x.2.1 < B.nx := by omega
    simp only [m2, if_neg e]
    cases hf : K.find? (fun y => Nat.beq y.2.1 x.2.1) with
    | none =>
      have := List.find?_eq_none.1 hf x hx
      simp at this
    | some y =>
      have hy := List.mem_of_find?_eq_some hf
      have hp := List.find?_some hf
      have hp := Nat.eq_of_beq_eq_true hp
      simp only
      rw [(g5 y hy).1 hp.symm]
  have hlk : Lk (sgK B.nx K) m m2 := by
    intro n p o hs
    simp only [sgK, Bool.cond_eq_ite, Nat.blt_eq] at hs
    split at hs
    · rename_i hlt; cases hs
      simp only [m2, if_pos hlt]
      cases m n <;> rfl
    · have hm := sg_mem hs
      obtain ⟨_, _, _, g4, _⟩ := kmem hm
      simp only at g4
      subst g4
      have := find hm
      simp only at this
      rw [this]
      cases m n <;> rfl
  have entry : ∀ n ob', t2.get n = some ob' → ∃ old ob, t.get old = some ob ∧ renO (sgK B.nx K) ob = some ob' ∧ m2 n = m old ∧ (old < B.nx ∧ n = old ∨ (old, n, 0) ∈ K) := by
    intro n ob' hg
    obtain ⟨p, hp, e, ob, g1, g2⟩ := buildT_get hpl h3 n ob' hg
    rcases List.mem_append.1 hp with hp | hp
    · obtain ⟨i, hi, rfl⟩ := List.mem_map.1 hp
      rw [mem_upTo] at hi
      simp only at e g1
      subst e
      exact ⟨i, ob, g1, g2, by simp only [m2, if_pos (show i < B.nx by omega)], .inl ⟨by omega, rfl⟩⟩
    · obtain ⟨x, hx, rfl⟩ := List.mem_map.1 hp
      simp only at e g1
      subst e
      obtain ⟨_, _, _, g4, _⟩ := kmem hx
      refine ⟨x.1, ob, g1, g2, find hx, .inr ?_⟩
      rw [← g4]; exact hx
  have I := A.inn
  refine ⟨m2, ⟨?_, ?_, renD_dr hlk h2 A.defers, ?_⟩⟩
  · exact {
      erel := I.erel
      eq := fun n a => by simp only [m2, if_pos a]; exact I.eq n a
      new := fun n k a b => by
        simp only [m2, if_neg (show ¬ n < B.nx by omega)] at b
        split at b
        · rename_i x hf
          exact I.new x.1 k (kmem (List.mem_of_find?_eq_some hf)).1 b
        · cases b
      top := fun n a => by
        simp only [m2, if_neg (show ¬ n < B.nx by omega)]
        split
        · rename_i x hf
          have := (kmem (List.mem_of_find?_eq_some hf)).2.2.1
          have hp := List.find?_some hf
          have hp := Nat.eq_of_beq_eq_true hp
          omega
        · rfl
      rel := by
        constructor
        · intro n ob' hg
          rw [hget] at hg
          obtain ⟨old, ob, g1, g2, g3, _⟩ := entry n ob' hg
          obtain ⟨k, r, q1, q2, q3⟩ := I.rel.obj old ob (by rw [hget]; exact g1)
          exact ⟨k, r, g3.trans q1, q2, (renO_iff hlk g2 _ _).1 q3⟩
        · intro i j oi oj ki kj gi gj mi mj hw hb
          rw [hget] at gi gj
          obtain ⟨o1, ob1, a1, a2, a3, a4⟩ := entry i oi gi
          obtain ⟨o2, ob2, b1, b2, b3, b4⟩ := entry j oj gj
          have := I.rel.inj o1 o2 ob1 ob2 ki kj (by rw [hget]; exact a1) (by rw [hget]; exact b1) (a3.symm.trans mi) (b3.symm.trans mj) (by rw [← renO_writable a2]; exact hw) hb
          replace this := this.eq (renO_solo a2).1
          subst this
          refine .inl ?_
          rcases a4 with ⟨c1, rfl⟩ | c1
          · rcases b4 with ⟨_, rfl⟩ | d1
            · rfl
            · have := (kmem d1).1; simp only at this; omega
          · rcases b4 with ⟨d1, rfl⟩ | d1
            · have := (kmem c1).1; simp only at this; omega
            · exact ((kmem c1).2.2.2.2 _ d1).2 rfl
      frame := I.frame
      os := I.os
      tape := I.tape
      output := I.output
      size := I.size
      ap := {
        le := hn
        bad := I.ap.bad
        wr := Nat.zero_le _
        same := fun n _ h => by simp only at h; omega
        old := fun n o a b => by
          obtain ⟨old, ob, g1, g2, _, g4⟩ := entry n o b
          rcases g4 with ⟨_, rfl⟩ | g4
          · obtain ⟨o0, q1, q2⟩ := I.ap.old n ob a g1
            exact ⟨o0, q1, q2.trans (renO_kin g2)⟩
          · have := (kmem g4).2.1; simp only at this; omega
        wf := ⟨fun n hn2 => by
            cases hg : t2.get n with
            | none => rfl
            | some o =>
              obtain ⟨old, ob, g1, g2, _, g4⟩ := entry n o hg
              rcases g4 with ⟨_, rfl⟩ | g4
              · omega
              · have := (kmem g4).2.2.1; simp only at this; omega,
          fun p hp => (by cases hp), fun n o hg => by
            obtain ⟨old, ob, g1, g2, _, g4⟩ := entry n o hg
            exact renO_ok g2 (I.ap.wf.ok old ob g1)⟩ } }
  · refine ⟨A.tmps.1, fun s => ?_⟩
    have e : (trOf L2).get s = lk L2 noE s := by rw [trOf_get]
    rw [e]
    cases hx : lk L2 noE s with
    | none => trivial
    | some v' =>
      obtain ⟨v, g1, g2⟩ := buildL_get h1 s v' hx
      have := A.tmps.2 s
      rw [g1] at this
      exact (ren_iff hlk v v' g2 _).1 this
  · have hf := A.fr
    cases rd with
    | none => exact hf
    | some l =>
      obtain ⟨k, g1, g2⟩ := hf
      simp only [rdB] at hrd
      split at hrd
      · rename_i p o hs
        simp only [Bool.and_eq_true, Nat.beq_eq] at hrd
        obtain ⟨rfl, rfl⟩ := hrd
        have := hlk _ _ _ hs
        rw [g1] at this
        cases hp : m2 p with
        | none => rw [hp] at this; cases this
        | some k2 => rw [hp] at this; cases this; exact ⟨k2, hp, g2⟩
      · cases hrd

end
end Abs
end Go.Proofs.YtekmmeikkafpmaaGreat
