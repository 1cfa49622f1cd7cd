/- Other names for the same blocks. -/
import Derived.Test.YtanmiffgmiikfaaGreatC1
set_option linter.unusedSimpArgs false
set_option linter.unusedVariables false
namespace Go.Proofs.YtanmiffgmiikfaaGreat
namespace Abs
open Go.RowKit
abbrev Sg := Nat → Option (Nat × Nat)
def sg : List (Nat × Nat × Nat) → Sg
  | [], _ => none
  | p :: l, n => cond (Nat.beq n p.1) (some p.2) (sg l n)
mutual
def ren (σ : Sg) : AV → Option AV
  | .ptr n off => match σ n with
    | some (p, o) => some (.ptr p (o + off))
    | none => none
  | .slice n off len cap esz ex => match σ n with
    | some (p, o) => cond (Nat.beq o 0 || ex) (some (.slice p (o + off) len cap esz ex)) none
    | none => cond (Nat.beq len 0 && Nat.beq cap 0 && ex) (some (.slice n off len cap esz ex)) none
  | .map r => match σ r with
    | some (p, _) => some (.map p)
    | none => none
  | .fn f a c => match renL σ a, renL σ c with
    | some a', some c' => some (.fn f a' c')
    | _, _ => none
  | .yield l => match σ l with
    | some (p, _) => some (.yield p)
    | none => none
  | .agg cs => match renL σ cs with
    | some cs' => some (.agg cs')
    | none => none
  | .tuple cs => match renL σ cs with
    | some cs' => some (.tuple cs')
    | none => none
  | .int k n => some (.int k n)
  | .bool b => some (.bool b)
  | .str s => some (.str s)
  | .nilp => some .nilp
  | .nils => some .nils
  | .nilm => some .nilm
  | .nilf => some .nilf
  | .nili => some .nili
def renL (σ : Sg) : List AV → Option (List AV)
  | [] => some []
  | a :: l => match ren σ a, renL σ l with
    | some b, some l' => some (b :: l')
    | _, _ => none
end
def shiftB (o : Nat) (k : Blk) : Blk := ⟨k.b, k.o + o, k.C - o⟩
def Lk (σ : Sg) (m1 m2 : NM) : Prop := ∀ n p o, σ n = some (p, o) → m1 n = (m2 p).map (shiftB o)
section
variable {σ : Sg} {m1 m2 : NM}
theorem free_iff {m : NM} {n off esz : Nat} {v : Value} : VR m (.slice n off 0 0 esz true) v ↔ ∃ A, v = .slice (some A) 0 0 := by
  constructor
  · intro h
    obtain ⟨A, c, rfl, _, _, h3, _⟩ := h.slice_some
    exact ⟨A, by rw [h3 rfl]⟩
  · intro h
    simp only [VR]
    exact .inl ⟨trivial, trivial, trivial, h⟩
mutual
theorem ren_iff (hl : Lk σ m1 m2) : (a b : AV) → ren σ a = some b → ∀ v, VR m1 a v ↔ VR m2 b v
  | .ptr n off, b, h => fun v => by
    simp only [ren] at h
    split at h <;> cases h
    rename_i p o hs
    have e := hl n p o hs
    simp only [VR, e]
    cases m2 p with
    | none => simp
    | some k => simp only [Option.map_some, Option.some.injEq]; constructor
                · rintro ⟨_, rfl, rfl⟩; exact ⟨k, rfl, by simp [shiftB, Nat.add_assoc]⟩
                · rintro ⟨_, rfl, rfl⟩; exact ⟨_, rfl, by simp [shiftB, Nat.add_assoc]⟩
  | .slice n off len cap esz ex, b, h => fun v => by
    simp only [ren] at h
    split at h
    rotate_left
    · simp only [Bool.cond_eq_ite, Bool.and_eq_true, Nat.beq_eq] at h
      split at h <;> cases h
      rename_i hz
      obtain ⟨⟨rfl, rfl⟩, rfl⟩ := hz
      exact free_iff.trans free_iff.symm
    rename_i p o hs
    simp only [Bool.cond_eq_ite, Bool.or_eq_true, Nat.beq_eq] at h
    split at h <;> cases h
    rename_i hex
    have e := hl n p o hs
    simp only [VR, e]
    refine or_congr Iff.rfl ?_
    cases m2 p with
    | none => simp
    | some k =>
      simp only [Option.map_some, Option.some.injEq]
      constructor
      · rintro ⟨_, off', c, sp, rfl, h1, h2, h3, h4, h5, h6, h7⟩
        refine ⟨k, off', c, sp, rfl, h1, h2, h3, h4, ?_, fun e => ?_, h7⟩
        · rcases h5 with h | h
          · exact .inl h
          · right; simp only [shiftB] at h; omega
        · have := h6 e
          simp only [shiftB] at this
          rcases hex with hx | hx
          · subst hx; simpa using this
          · rw [hx] at e; cases e
      · rintro ⟨_, off', c, sp, rfl, h1, h2, h3, h4, h5, h6, h7⟩
        refine ⟨_, off', c, sp, rfl, h1, h2, h3, h4, ?_, fun e => ?_, h7⟩
        · rcases h5 with h | h
          · exact .inl h
          · right; simp only [shiftB]; omega
        · have := h6 e
          simp only [shiftB]
          omega
  | .map r, b, h => fun v => by
    simp only [ren] at h
    split at h <;> cases h
    rename_i p o hs
    have e := hl r p o hs
    simp only [VR, e]
    cases m2 p with
    | none => simp
    | some k => simp only [Option.map_some, Option.some.injEq]; constructor
                · rintro ⟨_, rfl, rfl⟩; exact ⟨k, rfl, rfl⟩
                · rintro ⟨_, rfl, rfl⟩; exact ⟨_, rfl, rfl⟩
  | .yield r, b, h => fun v => by
    simp only [ren] at h
    split at h <;> cases h
    rename_i p o hs
    have e := hl r p o hs
    simp only [VR, e]
    cases m2 p with
    | none => simp
    | some k => simp only [Option.map_some, Option.some.injEq]; constructor
                · rintro ⟨_, rfl, rfl⟩; exact ⟨k, rfl, rfl⟩
                · rintro ⟨_, rfl, rfl⟩; exact ⟨_, rfl, rfl⟩
  | .fn f a c, b, h => fun v => by
    simp only [ren] at h
    split at h <;> cases h
    rename_i a' c' h1 h2
    have i1 := renL_iff hl a a' h1
    have i2 := renL_iff hl c c' h2
    simp only [VR]
    constructor
    · rintro ⟨xs, ys, e, g1, g2⟩; exact ⟨xs, ys, e, (i1 _).1 g1, (i2 _).1 g2⟩
    · rintro ⟨xs, ys, e, g1, g2⟩; exact ⟨xs, ys, e, (i1 _).2 g1, (i2 _).2 g2⟩
  | .agg cs, b, h => fun v => by
    simp only [ren] at h
    split at h <;> cases h
    rename_i cs' h1
    have i1 := renL_iff hl cs cs' h1
    simp only [VR]
    constructor
    · rintro ⟨xs, e, g1⟩; exact ⟨xs, e, (i1 _).1 g1⟩
    · rintro ⟨xs, e, g1⟩; exact ⟨xs, e, (i1 _).2 g1⟩
  | .tuple cs, b, h => fun v => by
    simp only [ren] at h
    split at h <;> cases h
    rename_i cs' h1
    have i1 := renL_iff hl cs cs' h1
    simp only [VR]
    constructor
    · rintro ⟨xs, e, g1⟩; exact ⟨xs, e, (i1 _).1 g1⟩
    · rintro ⟨xs, e, g1⟩; exact ⟨xs, e, (i1 _).2 g1⟩
  | .int k n, b, h => fun v => by simp only [ren, Option.some.injEq] at h; subst h; simp only [VR]
  | .bool _, b, h => fun v => by simp only [ren, Option.some.injEq] at h; subst h; simp only [VR]
  | .str _, b, h => fun v => by simp only [ren, Option.some.injEq] at h; subst h; simp only [VR]
  | .nilp, b, h => fun v => by simp only [ren, Option.some.injEq] at h; subst h; simp only [VR]
  | .nils, b, h => fun v => by simp only [ren, Option.some.injEq] at h; subst h; simp only [VR]
  | .nilm, b, h => fun v => by simp only [ren, Option.some.injEq] at h; subst h; simp only [VR]
  | .nilf, b, h => fun v => by simp only [ren, Option.some.injEq] at h; subst h; simp only [VR]
  | .nili, b, h => fun v => by simp only [ren, Option.some.injEq] at h; subst h; simp only [VR]
theorem renL_iff (hl : Lk σ m1 m2) : (a b : List AV) → renL σ a = some b → ∀ v, VRs m1 a v ↔ VRs m2 b v
  | [], b, h => fun v => by simp only [renL, Option.some.injEq] at h; subst h; simp only [VRs]
  | a :: l, b, h => fun v => by
    simp only [renL] at h
    split at h <;> cases h
    rename_i b' l' h1 h2
    have i1 := ren_iff hl a b' h1
    have i2 := renL_iff hl l l' h2
    simp only [VRs]
    constructor
    · rintro ⟨x, t, e, g1, g2⟩; exact ⟨x, t, e, (i1 _).1 g1, (i2 _).1 g2⟩
    · rintro ⟨x, t, e, g1, g2⟩; exact ⟨x, t, e, (i1 _).2 g1, (i2 _).2 g2⟩
end
end
def plain : AV → Bool
  | .int _ _ | .bool _ | .str _ | .nilp | .nils | .nilm | .nilf | .nili => true
  | _ => false
theorem ren_plain {σ : Sg} {a : AV} (h : plain a = true) : ren σ a = some a := by cases a <;> first | rfl | cases h
theorem renL_plain {σ : Sg} : ∀ {l : List AV}, l.all plain = true → renL σ l = some l
  | [], _ => rfl
  | a :: l, h => by
    simp only [List.all_cons, Bool.and_eq_true] at h
    simp only [renL, ren_plain h.1, renL_plain h.2]

def renT (σ : Sg) : Tr AV → Option (Tr AV)
  | .nil => some .nil
  | .node v l r => match (match v with
      | none => some none
      | some a => match ren σ a with
        | some b => some (some b)
        | none => none), renT σ l, renT σ r with
    | some v', some l', some r' => some (.node v' l' r')
    | _, _, _ => none
theorem renT_get {σ : Sg} : ∀ {t t' : Tr AV}, renT σ t = some t' → ∀ k, match t.get k with
    | none => t'.get k = none
    | some a => ∃ b, ren σ a = some b ∧ t'.get k = some b
  | .nil, t', h, k => by simp only [renT, Option.some.injEq] at h; subst h; rfl
  | .node v l r, t', h, k => by
    simp only [renT] at h
    split at h <;> cases h
    rename_i v' l' r' h1 h2 h3
    have i1 := renT_get h2
    have i2 := renT_get h3
    simp only [Tr.get, Bool.cond_eq_ite, Nat.beq_eq]
    by_cases hk : k = 0
    · simp only [if_pos hk]
      cases v with
      | none => cases h1; rfl
      | some a =>
        simp only at h1
        split at h1 <;> cases h1
        rename_i b hb
        exact ⟨b, hb, rfl⟩
    · simp only [if_neg hk]
      by_cases hp : k % 2 = 1
      · simp only [if_pos hp]; exact i1 _
      · simp only [if_neg hp]; exact i2 _
theorem renT_tr {σ : Sg} {m1 m2 : NM} (hl : Lk σ m1 m2) {n : Nat} {t t' : Tr AV} (h : renT σ t = some t') {a : Array Value} : TR m1 n t a ↔ TR m2 n t' a := by
  have key : ∀ k, VU m1 (t.get k) (a.getD k undef) ↔ VU m2 (t'.get k) (a.getD k undef) := by
    intro k
    have := renT_get h k
    cases hk : t.get k with
    | none => rw [hk] at this; simp only at this; rw [this]; exact Iff.rfl
    | some x =>
      rw [hk] at this
      obtain ⟨b, h1, h2⟩ := this
      rw [h2]
      exact ren_iff hl x b h1 _
  exact ⟨fun ⟨h1, h2⟩ => ⟨h1, fun k => (key k).1 (h2 k)⟩, fun ⟨h1, h2⟩ => ⟨h1, fun k => (key k).2 (h2 k)⟩⟩
def renE (σ : Sg) : List (AV × AV × Nat) → Option (List (AV × AV × Nat))
  | [] => some []
  | e :: es => match ren σ e.1, ren σ e.2.1, renE σ es with
    | some k, some v, some l => some ((k, v, e.2.2) :: l)
    | _, _, _ => none
theorem renE_iff {σ : Sg} {m1 m2 : NM} (hl : Lk σ m1 m2) : ∀ {es es' : List (AV × AV × Nat)}, renE σ es = some es' → ∀ l, ERs m1 es l ↔ ERs m2 es' l
  | [], es', h, l => by simp only [renE, Option.some.injEq] at h; subst h; exact Iff.rfl
  | e :: es, es', h, l => by
    simp only [renE] at h
    split at h <;> cases h
    rename_i k v l' h1 h2 h3
    have i3 := renE_iff hl h3
    simp only [ERs]
    constructor
    · rintro ⟨x, t, e, g1, g2, g3, g4⟩; exact ⟨x, t, e, (ren_iff hl _ _ h1 _).1 g1, (ren_iff hl _ _ h2 _).1 g2, g3, (i3 _).1 g4⟩
    · rintro ⟨x, t, e, g1, g2, g3, g4⟩; exact ⟨x, t, e, (ren_iff hl _ _ h1 _).2 g1, (ren_iff hl _ _ h2 _).2 g2, g3, (i3 _).2 g4⟩
def renO (σ : Sg) : AObj → Option AObj
  | .cells w cs => match renL σ cs with
    | some cs' => some (.cells w cs')
    | none => none
  | .map es c => match renE σ es with
    | some es' => some (.map es' c)
    | none => none
  | .loop L => match renT σ L.tmps, σ L.defers with
    | some T', some (p, _) => some (.loop ⟨L.state, L.pending, L.n, T', L.params, L.assign, L.body, p⟩)
    | _, _ => none
  | .dfr b => some (.dfr b)
  | .iter r since seen last => match r with
    | none => some (.iter none since seen last)
    | some r => match σ r with
      | some (p, _) => some (.iter (some p) since seen last)
      | none => none
  | .lent _ _ => none
theorem renO_solo {σ : Sg} {a b : AObj} (h : renO σ a = some b) : a.solo = true ∧ b.solo = true := by
  cases a <;> simp only [renO] at h
  · split at h <;> cases h; exact ⟨rfl, rfl⟩
  · split at h <;> cases h; exact ⟨rfl, rfl⟩
  · split at h <;> cases h; exact ⟨rfl, rfl⟩
  · cases h; exact ⟨rfl, rfl⟩
  · split at h
    · cases h; exact ⟨rfl, rfl⟩
    · split at h <;> cases h; exact ⟨rfl, rfl⟩
  · cases h
theorem renO_writable {σ : Sg} {a b : AObj} (h : renO σ a = some b) : b.writable = a.writable := by
  cases a <;> simp only [renO] at h
  · split at h <;> cases h; rfl
  · split at h <;> cases h; rfl
  · split at h <;> cases h; rfl
  · cases h; rfl
  · split at h
    · cases h; rfl
    · split at h <;> cases h; rfl
  · cases h
theorem renO_iff {σ : Sg} {m1 m2 : NM} (hl : Lk σ m1 m2) {a b : AObj} (h : renO σ a = some b) (k : Blk) (o : Obj) : OR m1 k a o ↔ OR m2 k b o := by
  cases a with
  | lent r cs => cases h
  | cells w cs =>
    simp only [renO] at h
    split at h <;> cases h
    rename_i cs' h1
    have i1 := renL_iff hl cs cs' h1
    simp only [OR]
    constructor
    · rintro ⟨c, e, fz, pre, vs, rest, g1, g2, g3, g4, g5⟩; exact ⟨c, e, fz, pre, vs, rest, g1, g2, g3, (i1 _).1 g4, g5⟩
    · rintro ⟨c, e, fz, pre, vs, rest, g1, g2, g3, g4, g5⟩; exact ⟨c, e, fz, pre, vs, rest, g1, g2, g3, (i1 _).2 g4, g5⟩
  | map es c =>
    simp only [renO] at h
    split at h <;> cases h
    rename_i es' h1
    have i1 := renE_iff hl h1
    simp only [OR]
    constructor
    · rintro ⟨l, g1, g2⟩; exact ⟨l, g1, (i1 _).1 g2⟩
    · rintro ⟨l, g1, g2⟩; exact ⟨l, g1, (i1 _).2 g2⟩
  | loop L =>
    simp only [renO] at h
    split at h <;> cases h
    rename_i T' p o' h1 h2
    have i1 := fun a => renT_tr hl (n := L.n) (a := a) h1
    have e := hl _ _ _ h2
    simp only [OR]
    constructor
    · rintro ⟨r, g1, g2, g3, g4, g5, g6, g7, kd, g8, g9⟩
      rw [e] at g8
      cases hp : m2 p with
      | none => rw [hp] at g8; cases g8
      | some k2 => rw [hp] at g8; cases g8; exact ⟨r, g1, g2, g3, g4, g5, g6, (i1 _).1 g7, k2, rfl, g9⟩
    · rintro ⟨r, g1, g2, g3, g4, g5, g6, g7, kd, g8, g9⟩
      exact ⟨r, g1, g2, g3, g4, g5, g6, (i1 _).2 g7, shiftB o' kd, by rw [e, g8]; rfl, g9⟩
  | dfr b => simp only [renO, Option.some.injEq] at h; subst h; exact Iff.rfl
  | iter r since seen last =>
    simp only [renO] at h
    split at h
    · cases h; exact Iff.rfl
    · split at h <;> cases h
      rename_i p o' h2
      have e := hl _ _ _ h2
      simp only [OR]
      constructor
      · rintro ⟨g0, kr, g1, g2⟩
        rw [e] at g1
        cases hp : m2 p with
        | none => rw [hp] at g1; cases g1
        | some k2 => rw [hp] at g1; cases g1; exact ⟨g0, k2, rfl, g2⟩
      · rintro ⟨g0, kr, g1, g2⟩
        exact ⟨g0, shiftB o' kr, by rw [e, g1]; rfl, g2⟩
end Abs
end Go.Proofs.YtanmiffgmiikfaaGreat

namespace Go.Proofs.YtanmiffgmiikfaaGreat
namespace Abs
open Go.RowKit
section
variable {P : Program}
theorem hget {t : Tr AObj} {w : Nat} (n : Nat) : (⟨t, [], w⟩ : Hp).get n = t.get n := by simp [Hp.get, hid]
def Tr.sup {α : Type} : Tr α → Nat
  | .nil => 0
  | .node v l r => max (match v with | some _ => 1 | none => 0) (max (match l.sup with | 0 => 0 | s + 1 => 2 * s + 2) (match r.sup with | 0 => 0 | s + 1 => 2 * s + 3))
theorem Tr.get_lt_sup {α : Type} : ∀ {t : Tr α} {k : Nat} {a : α}, t.get k = some a → k < t.sup
  | .nil, k, a, h => by cases h
  | .node v l r, k, a, h => by
    simp only [Tr.get, Bool.cond_eq_ite, Nat.beq_eq] at h
    simp only [Tr.sup]
    by_cases hk : k = 0
    · simp only [if_pos hk] at h; subst h hk; simp only; omega
    · simp only [if_neg hk] at h
      by_cases hp : k % 2 = 1
      · simp only [if_pos hp] at h
        have := Tr.get_lt_sup h
        cases hs : l.sup with
        | zero => omega
        | succ s => simp only; omega
      · simp only [if_neg hp] at h
        have := Tr.get_lt_sup h
        cases hs : r.sup with
        | zero => omega
        | succ s => simp only; omega
def okO : AObj → Bool
  | .loop L => codeOk L.assign && (codeOk L.body && (match L.pending with | none => true | some c => codeOk c))
  | _ => true
theorem okO_ok {o : AObj} (h : okO o = true) : ObOk o := by
  cases o with
  | loop L =>
    simp only [okO, Bool.and_eq_true] at h
    refine ⟨h.1, h.2.1, fun c hc => ?_⟩
    rw [hc] at h
    exact h.2.2
  | _ => trivial
def Tr.allB {α : Type} (p : α → Bool) : Tr α → Bool
  | .nil => true
  | .node v l r => (match v with | some a => p a | none => true) && (l.allB p && r.allB p)
theorem Tr.allB_get {α : Type} {p : α → Bool} : ∀ {t : Tr α} {k : Nat} {a : α}, t.allB p = true → t.get k = some a → p a = true
  | .nil, k, a, _, h => by cases h
  | .node v l r, k, a, hb, h => by
    simp only [Tr.allB, Bool.and_eq_true] at hb
    simp only [Tr.get, Bool.cond_eq_ite, Nat.beq_eq] at h
    by_cases hk : k = 0
    · simp only [if_pos hk] at h; subst h; exact hb.1
    · simp only [if_neg hk] at h
      by_cases hp : k % 2 = 1
      · simp only [if_pos hp] at h; exact Tr.allB_get hb.2.1 h
      · simp only [if_neg hp] at h; exact Tr.allB_get hb.2.2 h
theorem wf_of {t : Tr AObj} {nx : Nat} (h1 : Nat.ble t.sup nx = true) (h2 : t.allB okO = true) : Wf ⟨t, [], 0⟩ nx :=
  ⟨fun n hn => by
    cases h : t.get n with
    | none => rfl
    | some a => have := Tr.get_lt_sup h; have := Nat.le_of_ble_eq_true h1; omega, fun p hp => (by cases hp), fun n ob h => okO_ok (Tr.allB_get h2 h)⟩

def EmbE (σ : Sg) (Hc H : Hp) (x : Nat × Nat × Nat) : Prop := ∃ ob ob', Hc.get x.1 = some ob ∧ H.get x.2.1 = some ob' ∧
  (x.2.2 = 0 ∧ renO σ ob = some ob' ∨ ∃ cs w big, ob = .cells false cs ∧ ob' = .cells w big ∧ x.2.2 + cs.length ≤ big.length ∧ renL σ cs = some ((big.drop x.2.2).take cs.length))
def EmbL (σ : Sg) (Hc H : Hp) : List (Nat × Nat × Nat) → Prop
  | [] => True
  | x :: l => EmbE σ Hc H x ∧ EmbL σ Hc H l
theorem embL_mem {σ : Sg} {Hc H : Hp} : ∀ {l : List (Nat × Nat × Nat)} {x : Nat × Nat × Nat}, EmbL σ Hc H l → x ∈ l → EmbE σ Hc H x
  | [], _, _, h => by cases h
  | y :: l, x, ⟨h1, h2⟩, h => by
    rcases List.mem_cons.1 h with rfl | h
    · exact h1
    · exact embL_mem h2 h
theorem embL_solo {σ : Sg} {Hc H : Hp} {l : List (Nat × Nat × Nat)} {x : Nat × Nat × Nat} (hE : EmbL σ Hc H l) (h : x ∈ l) {ob : AObj} (hg : H.get x.2.1 = some ob) : ob.solo = true := by
  obtain ⟨ob1, ob', h1, h2, h3⟩ := embL_mem hE h
  rw [hg] at h2; cases h2
  rcases h3 with ⟨_, h⟩ | ⟨cs, w, big, _, rfl, _⟩
  · exact (renO_solo h).2
  · rfl
theorem sg_mem : ∀ {L : List (Nat × Nat × Nat)} {n : Nat} {p : Nat × Nat}, sg L n = some p → (n, p) ∈ L
  | [], _, _, h => by cases h
  | x :: l, n, p, h => by
    simp only [sg, Bool.cond_eq_ite, Nat.beq_eq] at h
    split at h
    · rename_i e; cases h; subst e; exact List.mem_cons_self
    · exact List.mem_cons_of_mem _ (sg_mem h)
theorem sg_some : ∀ {L : List (Nat × Nat × Nat)} {n : Nat}, n ∈ L.map (·.1) → ∃ p, sg L n = some p
  | [], _, h => by cases h
  | x :: l, n, h => by
    simp only [sg, Bool.cond_eq_ite, Nat.beq_eq]
    split
    · exact ⟨_, rfl⟩
    · rename_i hne
      rcases List.mem_cons.1 h with h | h
      · exact absurd h hne
      · exact sg_some h
def disB (Hc : Hp) (L : List (Nat × Nat × Nat)) : Bool := L.all fun x => match Hc.get x.1 with
  | some ob => cond ob.writable (L.all fun y => cond (Nat.beq y.1 x.1) true (!(Nat.beq y.2.1 x.2.1))) true
  | none => true
def upTo : Nat → Nat → List Nat
  | _, 0 => []
  | a, n + 1 => a :: upTo (a + 1) n
theorem mem_upTo : ∀ {n a x : Nat}, x ∈ upTo a n ↔ a ≤ x ∧ x < a + n
  | 0, a, x => by simp [upTo]
  | n + 1, a, x => by simp only [upTo, List.mem_cons, mem_upTo]; omega

def mOf (L : List (Nat × Nat × Nat)) (m : NM) : NM := fun n => match sg L n with
  | some (p, o) => (m p).map (shiftB o)
  | none => none
theorem mOf_lk {L : List (Nat × Nat × Nat)} {m : NM} : Lk (sg L) (mOf L m) m := fun n p o h => by simp only [mOf, h]
theorem mOf_some {L : List (Nat × Nat × Nat)} {m : NM} {n : Nat} {k : Blk} (h : mOf L m n = some k) : ∃ p o k0, sg L n = some (p, o) ∧ m p = some k0 ∧ k = shiftB o k0 := by
  unfold mOf at h
  split at h
  · rename_i p o hs
    cases hp : m p with
    | none => rw [hp] at h; cases h
    | some k0 => rw [hp] at h; cases h; exact ⟨p, o, k0, hs, hp, rfl⟩
  · cases h
theorem rel_emb {L : List (Nat × Nat × Nat)} {Hc H : Hp} {nxc : Nat} {m : NM} {W : World} (hW : Wf Hc nxc) (hk : L.map (·.1) = upTo 0 nxc) (hE : EmbL (sg L) Hc H L) (hD : disB Hc L = true) (hR : Rel m H W) : Rel (mOf L m) Hc W := by
  have at_ : ∀ {n : Nat} {ob : AObj}, Hc.get n = some ob → ∃ p o k0 ob' r, sg L n = some (p, o) ∧ (n, p, o) ∈ L ∧ m p = some k0 ∧ H.get p = some ob' ∧ W.heap[k0.b]? = some r ∧ OR m k0 ob' r ∧
      (o = 0 ∧ renO (sg L) ob = some ob' ∨ ∃ cs w big, ob = .cells false cs ∧ ob' = .cells w big ∧ o + cs.length ≤ big.length ∧ renL (sg L) cs = some ((big.drop o).take cs.length)) := by
    intro n ob hg
    have hlt := hW.lt hg
    obtain ⟨⟨p, o⟩, hs⟩ := sg_some (L := L) (n := n) (by rw [hk, mem_upTo]; omega)
    have hmem := sg_mem hs
    obtain ⟨ob1, ob', h1, h2, h3⟩ := embL_mem hE hmem
    simp only at h1 h2 h3
    rw [hg] at h1; cases h1
    obtain ⟨k0, r, g1, g2, g3⟩ := hR.obj p ob' h2
    exact ⟨p, o, k0, ob', r, hs, hmem, g1, h2, g2, g3, h3⟩
  constructor
  · intro n ob hg
    obtain ⟨p, o, k0, ob', r, hs, _, hm, _, hr, hO, hc⟩ := at_ hg
    refine ⟨shiftB o k0, r, by simp only [mOf, hs, hm, Option.map_some], hr, ?_⟩
    rcases hc with ⟨rfl, hren⟩ | ⟨cs, w, big, rfl, rfl, hlen, hren⟩
    · exact (renO_iff mOf_lk hren _ _).2 hO
    · obtain ⟨c, e, fz, pre, vs, rest, g1, g2, g3, g4, g5⟩ := hO
      have hl := g4.length
      refine ⟨c, e, fz, pre ++ vs.take o, (vs.drop o).take cs.length, (vs.drop o).drop cs.length ++ rest, g1, ?_, ?_, ?_, by simp⟩
      · rw [g2]
        simp only [List.append_assoc]
        congr 1
        rw [← List.append_assoc ((vs.drop o).take _), List.take_append_drop, ← List.append_assoc, List.take_append_drop]
      · simp only [List.length_append, List.length_take, shiftB]; omega
      · exact (renL_iff mOf_lk cs _ hren _).2 ((g4.drop o).take _)
  · intro i j oi oj ki kj gi gj mi mj hw hb
    obtain ⟨p, o, k0, ob', r, hs, hmem, hm, hp, _, _, hc⟩ := at_ gi
    obtain ⟨p2, o2, k2, ob2, r2, hs2, hmem2, hm2, hp2, _, _, _⟩ := at_ gj
    simp only [mOf, hs, hm, Option.map_some, Option.some.injEq] at mi
    simp only [mOf, hs2, hm2, Option.map_some, Option.some.injEq] at mj
    subst mi mj
    simp only [shiftB] at hb
    have hw' : ob'.writable = true := by
      rcases hc with ⟨_, hren⟩ | ⟨cs, w, big, rfl, rfl, _, _⟩
      · rw [renO_writable hren]; exact hw
      · cases hw
    have hpp := (hR.inj p p2 ob' ob2 k0 k2 hp hp2 hm hm2 hw' hb).eq (embL_solo hE hmem hp)
    subst hpp
    refine .inl ?_
    unfold disB at hD
    rw [List.all_eq_true] at hD
    have := hD _ hmem
    simp only [gi, hw, cond_true, List.all_eq_true] at this
    have := this _ hmem2
    simp only at this
    cases hji : Nat.beq j i with
    | true => exact (Nat.eq_of_beq_eq_true hji).symm
    | false => rw [hji] at this; simp at this

end
end Abs
end Go.Proofs.YtanmiffgmiikfaaGreat

namespace Go.Proofs.YtanmiffgmiikfaaGreat
namespace Abs
open Go.RowKit
section
variable {P : Program}
def objs : List (Nat × AObj) → Tr AObj
  | [] => .nil
  | p :: l => (objs l).set p.1 p.2
abbrev hp (l : List (Nat × AObj)) : Hp := ⟨objs l, [], 0⟩


end
end Abs
end Go.Proofs.YtanmiffgmiikfaaGreat
