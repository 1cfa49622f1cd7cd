/- Own words for worlds (Kept, Still), the contract of an iterator (Iter), and one law for a range over a function: over any program. -/
import Derived.Test.YthiifonejoejpaaRows
import Derived.WalkKit
import Derived.WalkSpells
import Derived.WalkLawsBesides
import Derived.RangeFuncNested
import Derived.RangeFuncBound
import Derived.RangeFuncCalls
import Derived.RangeFuncLeaves
import Derived.Shelf.Abstract
import Derived.Shelf.RegionOpen
import Derived.OwnWalkIn
import Derived.TacticsInMore
import Derived.LoopNIn
import Derived.LoopIn
import Derived.Lib.Hide
namespace Go.Proofs.Ythiifonejoejpaa
open Go.RowKit

/-- All blocks that lay, but those of M, lie as they lay. -/
structure Kept (M : Nat → Prop) (w w' : World) : Prop where
  os : w'.os = w.os
  tape : w'.tape = w.tape
  output : w'.output = w.output
  size : w.heap.size ≤ w'.heap.size
  block : ∀ k, k < w.heap.size → ¬ M k → w'.heap[k]? = w.heap[k]?

section kept
variable {M M' : Nat → Prop} {a b c w w' : World}
theorem Kept.refl (M : Nat → Prop) (w : World) : Kept M w w := ⟨rfl, rfl, rfl, Nat.le_refl _, fun _ _ _ => rfl⟩
theorem Kept.trans (h : Kept M a b) (k : Kept M b c) : Kept M a c :=
  ⟨k.os.trans h.os, k.tape.trans h.tape, k.output.trans h.output, Nat.le_trans h.size k.size, fun i hi hM => (k.block i (Nat.lt_of_lt_of_le hi h.size) hM).trans (h.block i hi hM)⟩
theorem Kept.mono (h : Kept M w w') (hM : ∀ k, k < w.heap.size → M k → M' k) : Kept M' w w' := ⟨h.os, h.tape, h.output, h.size, fun k hk hn => h.block k hk (fun hm => hn (hM k hk hm))⟩
theorem Kept.of_below {B : Nat} (h : Below B w w') (hB : ∀ k, k < w.heap.size → ¬ M k → k < B) : Kept M w w' := ⟨h.os, h.tape, h.output, h.size, fun k hk hM => h.block k (hB k hk hM)⟩
theorem Kept.grow (h : Below w.heap.size w w') : Kept M w w' := .of_below h fun _ hk _ => hk
theorem Kept.below {B : Nat} (h : Kept M w w') (hM : ∀ k, k < B → ¬ M k) (hB : B ≤ w.heap.size) : Below B w w' := ⟨h.os, h.tape, h.output, h.size, fun k hk => h.block k (by omega) (hM k hk)⟩
theorem Kept.cell (h : Kept M w w') {p : Addr} {v : Value} (hv : w.cell? p = some v) (hM : ¬ M p.block) : w'.cell? p = some v := by
  have hlt : p.block < w.heap.size := by
    unfold World.cell? at hv
    rcases Nat.lt_or_ge p.block w.heap.size with h1 | h1
    · exact h1
    · rw [Array.getElem?_eq_none h1] at hv; simp at hv
  exact (World.cell?_of_block (w := w) (h.block _ hlt hM)).trans hv
theorem Kept.set {p : Addr} (hp : M p.block) (u : Value) : Kept M w (w.setCell p u) :=
  ⟨rfl, rfl, rfl, by simp [World.setCell], fun k _ hM => Below.heap_setCell _ _ _ _ (fun e => hM (by rw [e]; exact hp))⟩
theorem Kept.grown {row : Option Nat} (hg : w.grownBy w' row) (hr : ∀ k, row = some k → k < w.heap.size → M k) : Kept M w w' :=
  ⟨hg.os, hg.tape, hg.output, hg.size, fun k hk hM => hg.block k hk (fun e => hM (hr k e.symm hk))⟩
end kept

/-- A world behind in which only new blocks, and blocks from B on that hold no cells, have turned. -/
structure Still (B : Nat) (w w' : World) : Prop where
  os : w'.os = w.os
  tape : w'.tape = w.tape
  output : w'.output = w.output
  size : w.heap.size ≤ w'.heap.size
  block : ∀ (k : Nat) (o : Obj), w.heap[k]? = some o → (k < B ∨ o.isCells = true) → w'.heap[k]? = some o

section still
variable {B : Nat} {a b c w w' : World}
theorem Still.of_grow (h : Below w.heap.size w w') : Still B w w' := ⟨h.os, h.tape, h.output, h.size, fun k _ hk _ => (h.block k (Array.getElem?_eq_some_iff.1 hk).1).trans hk⟩
theorem Still.refl (B : Nat) (w : World) : Still B w w := ⟨rfl, rfl, rfl, Nat.le_refl _, fun _ _ h _ => h⟩
theorem Still.trans (h : Still B a b) (k : Still B b c) : Still B a c :=
  ⟨k.os.trans h.os, k.tape.trans h.tape, k.output.trans h.output, Nat.le_trans h.size k.size, fun i o hi ho => k.block i o (h.block i o hi ho) ho⟩
theorem Still.putObj {l : Nat} {o o' : Obj} (hl : B ≤ l) (ho : w.heap[l]? = some o) (hc : o.isCells = false) : Still B w (w.putObj l o') :=
  ⟨rfl, rfl, rfl, by simp, fun k o2 hk h2 => by
    by_cases e : k = l
    · subst e
      rw [ho] at hk
      cases hk
      rcases h2 with h2 | h2
      · omega
      · rw [hc] at h2; cases h2
    · exact (World.putObj_heap_other e).trans hk⟩
theorem Still.cell (h : Still B w w') {p : Addr} {v : Value} (hv : w.cell? p = some v) : w'.cell? p = some v := by
  obtain ⟨o, ho, hc⟩ := cells_of_cell hv
  exact (World.cell?_of_block (w := w) ((h.block _ o ho (.inr hc)).trans ho.symm)).trans hv
theorem Still.frozen (h : Still B w w') {p : Addr} {v : Value} (hv : w.cell? p = some v) {t : Bool} (hf : w.frozen? p = t) : w'.frozen? p = t := by
  obtain ⟨o, ho, hc⟩ := cells_of_cell hv
  exact (World.frozen?_of_block (w := w) ((h.block _ o ho (.inr hc)).trans ho.symm)).trans hf
theorem Still.boxed (h : Still B w w') {b : Nat} {t : TypeId} {v : Value} (hv : Boxed w b t v) : Boxed w' b t v := h.block b _ hv (.inr rfl)
theorem Still.below {B' : Nat} (h : Still B w w') (hB : B' ≤ B) (hs : B' ≤ w.heap.size) : Below B' w w' := ⟨h.os, h.tape, h.output, h.size, fun k hk => by
    have hlt : k < w.heap.size := by omega
    have := h.block k _ (Array.getElem?_eq_getElem hlt) (.inl (by omega))
    rw [this, Array.getElem?_eq_getElem hlt]⟩
theorem Still.kept {M : Nat → Prop} (h : Still B w w') (h0 : Kept M a w) (hB : a.heap.size ≤ B) : Kept M a w' :=
  ⟨h.os.trans h0.os, h.tape.trans h0.tape, h.output.trans h0.output, Nat.le_trans h0.size h.size, fun k hk hM =>
    ((h.below (B' := a.heap.size) hB h0.size).block k hk).trans (h0.block k hk hM)⟩
end still

/-- What is known to a range over a function between two rounds: of what has come, of the blocks that the rounds may write since they laid them, of the world. -/
abbrev Known (α : Type) := List α → (Nat → Prop) → World → Prop
/-- It abides new blocks, and turns of blocks from n on that hold no cells (far: whatever turns in blocks from n on). -/
def Grows {α : Type} (far : Bool) (n : Nat) (J : Known α) : Prop := ∀ s G A B, n ≤ A.heap.size → (if far then Below n A B else Still n A B) → J s G A → J s G B
/-- It abides whatever turns in blocks from B on. -/
def Fars {α : Type} (B : Nat) (J : Known α) : Prop := ∀ s G A A', Below B A A' → J s G A → J s G A'
theorem below_far {far : Bool} {n : Nat} {A B : World} (hn : n ≤ A.heap.size) (h : if far then Below n A B else Still n A B) : Below n A B := by
  cases far with
  | true => exact h
  | false => exact Still.below h (Nat.le_refl _) hn
theorem Grows.still {α : Type} {far : Bool} {n : Nat} {J : Known α} (hJ : Grows far n J) {s : List α} {G : Nat → Prop} {A B : World} (hn : n ≤ A.heap.size) (h : J s G A) (hb : Still n A B) : J s G B :=
  hJ s G A B hn (by cases far with | true => exact hb.below (Nat.le_refl _) hn | false => exact hb) h
theorem Grows.grow {α : Type} {far : Bool} {n : Nat} {J : Known α} (hJ : Grows far n J) {s : List α} {G : Nat → Prop} {A B : World} (hn : n ≤ A.heap.size) (h : J s G A) (hb : Below A.heap.size A B) : J s G B :=
  hJ.still hn h (Still.of_grow hb)
/-- It abides new blocks, and turns of blocks from B on that hold no cells. -/
def Stills {α : Type} (B : Nat) (J : Known α) : Prop := ∀ s G A A', Still B A A' → J s G A → J s G A'

/-- It has returned. -/
def SomeRet (e : Ending) : Prop := ∃ v, e = .returned v
/-- G' holds G's blocks, and blocks from n on. -/
def Adds (n : Nat) (G G' : Nat → Prop) (W' : World) : Prop := ∀ k, G' k → (G k ∨ n ≤ k) ∧ k < W'.heap.size
/-- All have come, or the loop has said 'no more'. -/
def IterEnd {α : Type} (n : Nat) (S Sp : List α → Prop) (J Jx : Known α) (W' : World) : Prop :=
  (∃ xs G, S xs ∧ (∀ k, G k → n ≤ k) ∧ J xs G W') ∨ (∃ pre G, Sp pre ∧ (∀ k, G k → n ≤ k) ∧ Jx pre G W')
theorem IterEnd.all {α : Type} {n : Nat} {S Sp : List α → Prop} {J Jx : Known α} {W' : World} {xs : List α} {G : Nat → Prop} (h : S xs) (hG : ∀ k, G k → n ≤ k) (hj : J xs G W') : IterEnd n S Sp J Jx W' := .inl ⟨xs, G, h, hG, hj⟩
theorem IterEnd.part {α : Type} {n : Nat} {S Sp : List α → Prop} {J Jx : Known α} {W' : World} {xs : List α} {G : Nat → Prop} (h : Sp xs) (hG : ∀ k, G k → n ≤ k) (hj : Jx xs G W') : IterEnd n S Sp J Jx W' := .inr ⟨xs, G, h, hG, hj⟩

/-- What a call of yield with x comes to. -/
def Yields {α : Type} (P : Program) (l : Nat) (encs : α → Array Value) (M : Nat → Prop) (J Jx : Known α) (pre : List α) (x : α) (G : Nat → Prop) (W1 : World) : Prop :=
  YieldAt Fence.wide 0 P l (encs x) W1 fun e W' => ∃ G', Adds W1.heap.size G G' W' ∧ Kept (fun k => M k ∨ G k) W1 W' ∧ ((e = .returned (.bool true) ∧ J (pre ++ [x]) G' W') ∨ (e = .returned (.bool false) ∧ Jx (pre ++ [x]) G' W'))

/-- The contract of an iterator's value, called in W at the yield of the loop l: whatever the loop does with what it is handed, turning blocks of M, and such as it laid in earlier rounds, alone. -/
def Iter {α : Type} (P : Program) (far : Bool) (g : Nat) (lb : Array Value) (encs : α → Array Value) (ok : α → World → Prop) (M : Nat → Prop) (S Sp : List α → Prop) (l : Nat) (W : World) : Prop :=
  ∀ (J Jx : Known α), Grows far W.heap.size J → Grows far W.heap.size Jx →
    (∀ pre x G W1, J pre G W1 → (∀ k, G k → W.heap.size ≤ k) → Kept M W W1 → ok x W1 → Sp (pre ++ [x]) → Yields P l encs M J Jx pre x G W1) →
    J [] (fun _ => False) W →
    Calls P g (#[.func (.yield l) #[] #[]] ++ lb) W fun e W' => SomeRet e ∧ Kept M W W' ∧ IterEnd W.heap.size S Sp J Jx W'

/-- How the body of a round may be left. -/
def roundEnd {α : Type} (M : Nat → Prop) (I : Known α) (Ix : Code → Known α) (xs : List α) (G : Nat → Prop) (W : World) : Exit → Act → World → Prop
  | .normal, _, W' => ∃ G', Adds W.heap.size G G' W' ∧ Kept (fun k => M k ∨ G k) W W' ∧ I xs G' W'
  | .ret, _, W' => ∃ G', Adds W.heap.size G G' W' ∧ Kept (fun k => M k ∨ G k) W W' ∧ Ix .ret xs G' W'
  | .exit id, _, W' => ∃ G', Adds W.heap.size G G' W' ∧ Kept (fun k => M k ∨ G k) W W' ∧ Ix (.exit id) xs G' W'
  | .goto t, _, W' => ∃ G', Adds W.heap.size G G' W' ∧ Kept (fun k => M k ∨ G k) W W' ∧ Ix (.goto t) xs G' W'
  | .panic _, _, _ => False
  | .outgrown, _, _ => False
/-- Nothing laid that later rounds write. -/
theorem Adds.same {n : Nat} {G : Nat → Prop} {W W' : World} (h : ∀ k, G k → k < W.heap.size) (hs : W.heap.size ≤ W'.heap.size) : Adds n G G W' := fun k hk => ⟨.inl hk, by have := h k hk; omega⟩

/-- Behind the assignment to the loop's variable: the body, in whatever world differs by book-keeping alone. -/
def thenRound (P : Program) (B l : Nat) (body : Code) (E : World → Exit → Act → World → Prop) (W : World) (a1 : Act) (W1 : World) : Prop :=
  Below W.heap.size W W1 ∧ ∀ W2, Still B W1 W2 → (∃ r, W2.heap[l]? = some (.loop r)) → body.wpIn (Fence.wide.inRound l) 0 P (E W2) a1 W2

theorem Kept.far {M : Nat → Prop} {a A B : World} (h : Kept M a A) (hb : Below a.heap.size A B) : Kept M a B :=
  ⟨hb.os.trans h.os, hb.tape.trans h.tape, hb.output.trans h.output, Nat.le_trans h.size hb.size, fun k hk hM => (hb.block k hk).trans (h.block k hk hM)⟩
theorem Kept.more {M G : Nat → Prop} {a b c : World} (h : Kept M a b) (k : Kept (fun x => M x ∨ G x) b c) (hG : ∀ x, G x → a.heap.size ≤ x) : Kept M a c :=
  ⟨k.os.trans h.os, k.tape.trans h.tape, k.output.trans h.output, Nat.le_trans h.size k.size, fun i hi hM =>
    (k.block i (Nat.lt_of_lt_of_le hi h.size) (fun hm => hm.elim hM (fun hg => by have := hG i hg; omega))).trans (h.block i hi hM)⟩
theorem Still.mono {m n : Nat} {A B : World} (h : Still m A B) (hnm : n ≤ m) : Still n A B := ⟨h.os, h.tape, h.output, h.size, fun k o hk ho => h.block k o hk (ho.imp (fun h => by omega) id)⟩
theorem stillFar {α : Type} {far : Bool} {n m : Nat} {I : Known α} (hI : Stills n I) (hF : far = true → Fars n I) (hnm : n ≤ m) {s : List α} {G : Nat → Prop} {A B : World} (_hA : m ≤ A.heap.size)
    (hb : if far then Below m A B else Still m A B) (h : I s G A) : I s G B := by
  cases far with
  | true => exact hF rfl s G A B (Below.mono hb hnm) h
  | false => exact hI s G A B (Still.mono hb hnm) h

section law
variable {P : Program} {α : Type}
theorem round_law {rec : LoopState → Option Code → Loop} {B l : Nat} {fn : FuncId} {tmps : Array Value} {ps : Array Tmp} {assign body : Code} {df : Nat}
    (hrec : rec = fun st pe => { state := st, pending := pe, fn, tmps, params := ps, assign, body, defers := df })
    {encs : α → Array Value} (hps : ∀ x, (encs x).size = ps.size) {M : Nat → Prop} (hM : ∀ b, M b → b < B) (hBl : B ≤ l)
    {I : Known α} {Ix : Code → Known α} (hI : Stills B I) (hIx : ∀ c, Stills B (Ix c)) {G : Nat → Prop} (hG : ∀ k, G k → l < k)
    (D : World → Prop) (hD : ∀ W W' : World, D W → (∀ k, k < W.heap.size → ¬ M k → ¬ G k → k ≠ l → W'.heap[k]? = W.heap[k]?) → D W')
    {pre : List α} {x : α} {W : World} (hl : W.heap[l]? = some (.loop (rec .ready none))) (hd : D W)
    (hround : assign.wpIn (Fence.wide.inRound l) 0 P (Exit.then (thenRound P B l body (roundEnd M I Ix (pre ++ [x]) G) W) (fun _ _ _ => False)) { tmps := (ps.zip (encs x)).foldl (fun t (p, v) => t.setIfInBounds p v) tmps, defers := [] } W) :
    YieldAt Fence.wide 0 P l (encs x) W fun e W' => ∃ G', Adds W.heap.size G G' W' ∧ Kept (fun b => (M b ∨ b = l) ∨ G b) W W' ∧
      ((e = .returned (.bool true) ∧ (I (pre ++ [x]) G' W' ∧ W'.heap[l]? = some (.loop (rec .ready none)) ∧ D W')) ∨
      (e = .returned (.bool false) ∧ (∃ c, Ix c (pre ++ [x]) G' W' ∧ W'.heap[l]? = some (.loop (rec .done (some c))) ∧ D W'))) := by
  have hy := run_yield (P := P) (args := encs x) hl (by rw [hrec]; exact hps x)
  rw [hrec] at hy
  have hlM : ¬ (M l ∨ G l) := fun h => h.elim (fun h => by have := hM l h; omega) (fun h => by have := hG l h; omega)
  refine ⟨fn, _, assign, body, hy, roundIn_of_wpIn trivial (wpIn_mono hround ?_)⟩
  rintro e a1 W1 hp
  cases e with
  | normal =>
    obtain ⟨hb1, hbody⟩ := hp
    have hlt : l < W.heap.size := (Array.getElem?_eq_some_iff.1 hl).1
    have hl1 : W1.heap[l]? = some (.loop (rec .ready none)) := (hb1.block l hlt).trans hl
    have hl2 : (W1.putObj l (.loop { rec .ready none with state := .busy })).heap[l]? = some (.loop { rec .ready none with state := .busy }) := World.putObj_heap_same (Array.getElem?_eq_some_iff.1 hl1).1
    refine ⟨_, run_beginRound hl1 (by rw [hrec]), wpIn_mono (hbody _ (Still.putObj hBl hl1 rfl) ⟨_, hl2⟩) ?_⟩
    have hsz1 := hb1.size
    have fin : ∀ (jump : Option Code) (W3 : World), Kept (fun k => M k ∨ G k) (W1.putObj l (.loop { rec .ready none with state := .busy })) W3 →
        (Instr.endRound l jump).run P W3 = .ok (.bool jump.isNone) (W3.putObj l (.loop (rec (if jump.isNone then .ready else .done) jump))) ∧
        Still B W3 (W3.putObj l (.loop (rec (if jump.isNone then .ready else .done) jump))) ∧
        (W3.putObj l (.loop (rec (if jump.isNone then .ready else .done) jump))).heap[l]? = some (.loop (rec (if jump.isNone then .ready else .done) jump)) ∧
        D (W3.putObj l (.loop (rec (if jump.isNone then .ready else .done) jump))) ∧
        Kept (fun b => (M b ∨ b = l) ∨ G b) W (W3.putObj l (.loop (rec (if jump.isNone then .ready else .done) jump))) := fun jump W3 hk3 => by
      have hl3 := (hk3.block l (by simpa using (Array.getElem?_eq_some_iff.1 hl1).1) hlM).trans hl2
      have hend := run_endRound (P := P) jump hl3
      rw [hrec] at hend ⊢
      have hsz := hk3.size
      simp only [World.putObj_size] at hsz
      have hsame : ∀ k, k < W.heap.size → ¬ M k → ¬ G k → k ≠ l → (W3.putObj l (.loop (rec (if jump.isNone then .ready else .done) jump))).heap[k]? = W.heap[k]? := fun k hk hkM hkG hkl => by
        rw [World.putObj_heap_other hkl, hk3.block k (by simp; omega) (fun h => h.elim hkM hkG), World.putObj_heap_other hkl, hb1.block k hk]
      refine ⟨hend, Still.putObj hBl hl3 rfl, World.putObj_heap_same (Array.getElem?_eq_some_iff.1 hl3).1, hD W _ hd (by rw [hrec] at hsame; exact hsame), ?_⟩
      refine ⟨hk3.os.trans hb1.os, hk3.tape.trans hb1.tape, hk3.output.trans hb1.output, ?_, fun k hk hkM => ?_⟩
      · simp; omega
      · have := hsame k hk (fun h => hkM (.inl (.inl h))) (fun h => hkM (.inr h)) (fun h => hkM (.inl (.inr h)))
        rw [hrec] at this
        exact this
    have adds : ∀ (G' : Nat → Prop) (W3 : World) (o : Obj), Adds (W1.putObj l (.loop { rec .ready none with state := .busy })).heap.size G G' W3 → Adds W.heap.size G G' (W3.putObj l o) := fun G' W3 o h k hk => by
      obtain ⟨h1, h2⟩ := h k hk
      simp only [World.putObj_size] at h1
      exact ⟨h1.imp id (fun h => by omega), by simpa using h2⟩
    rintro e3 a3 W3 hp3
    cases e3 with
    | normal =>
      obtain ⟨G', ha3, hk3, hi3⟩ := hp3
      obtain ⟨hr, hs, hl4, hd4, hk4⟩ := fin none W3 hk3
      exact ⟨_, _, hr, G', adds _ _ _ ha3, hk4, .inl ⟨rfl, hI _ _ _ _ hs hi3, hl4, hd4⟩⟩
    | ret =>
      obtain ⟨G', ha3, hk3, hi3⟩ := hp3
      obtain ⟨hr, hs, hl4, hd4, hk4⟩ := fin (some .ret) W3 hk3
      exact ⟨_, _, hr, G', adds _ _ _ ha3, hk4, .inr ⟨rfl, .ret, hIx _ _ _ _ _ hs hi3, hl4, hd4⟩⟩
    | exit id =>
      obtain ⟨G', ha3, hk3, hi3⟩ := hp3
      obtain ⟨hr, hs, hl4, hd4, hk4⟩ := fin (some (.exit id)) W3 hk3
      exact ⟨_, _, hr, G', adds _ _ _ ha3, hk4, .inr ⟨rfl, .exit id, hIx _ _ _ _ _ hs hi3, hl4, hd4⟩⟩
    | goto t =>
      obtain ⟨G', ha3, hk3, hi3⟩ := hp3
      obtain ⟨hr, hs, hl4, hd4, hk4⟩ := fin (some (.goto t)) W3 hk3
      exact ⟨_, _, hr, G', adds _ _ _ ha3, hk4, .inr ⟨rfl, .goto t, hIx _ _ _ _ _ hs hi3, hl4, hd4⟩⟩
    | panic ch => exact hp3.elim
    | outgrown => exact hp3.elim
  | exit id => exact hp.elim
  | goto t => exact hp.elim
  | ret => exact hp.elim
  | panic ch => exact hp.elim
  | outgrown => exact hp.elim

/-- A range over a function, outside of every round. -/
theorem range_law {g : Operand} {ps : Array Tmp} {assign body : Code} {Q : Exit → Act → World → Prop} {a : Act} {w : World}
    {gf : Nat} {lb : Array Value} (hg : a.eval g = .func (.func gf) #[] lb) (eg : ∀ args w, (callFunc gf args).run P w = .ok (.enter gf args) w)
    {encs : α → Array Value} {ok : α → World → Prop} {far : Bool} (M : Nat → Prop) {S Sp : List α → Prop} (hM : ∀ b, M b → b < w.heap.size)
    (hit : ∀ W l, Below w.heap.size w W → w.heap.size ≤ l → l < W.heap.size → Iter P far gf lb encs ok (fun b => M b ∨ b = l) S Sp l W) (hps : ∀ x, (encs x).size = ps.size)
    (I : Known α) (Ix : Code → Known α) (hI : Stills w.heap.size I) (hIx : ∀ c, Stills w.heap.size (Ix c)) (hF : far = true → Fars w.heap.size I ∧ ∀ c, Fars w.heap.size (Ix c)) (h0 : I [] (fun _ => False) w)
    (hround : ∀ l pre x G W, w.heap.size ≤ l → (∃ r, W.heap[l]? = some (.loop r)) → Kept M w W → (∀ k, G k → l < k ∧ k < W.heap.size) → I pre G W → ok x W → Sp (pre ++ [x]) →
      assign.wpIn (Fence.wide.inRound l) 0 P (Exit.then (thenRound P w.heap.size l body (roundEnd M I Ix (pre ++ [x]) G) W) (fun _ _ _ => False)) { tmps := (ps.zip (encs x)).foldl (fun t (p, v) => t.setIfInBounds p v) a.tmps, defers := [] } W)
    (hdone : ∀ D xs G W, w.heap.size ≤ D → Kept M w W → S xs → (∀ k, G k → D < k ∧ k < W.heap.size) → I xs G W → W.heap[D]? = some (.deferred (some [])) → Q .normal { a with defers := { target := .collected D, args := #[] } :: a.defers } W)
    (hstop : ∀ D c pre G W, w.heap.size ≤ D → Kept M w W → Sp pre → (∀ k, G k → D < k ∧ k < W.heap.size) → Ix c pre G W → W.heap[D]? = some (.deferred (some [])) → c.wpIn Fence.wide 0 P Q { a with defers := { target := .collected D, args := #[] } :: a.defers } W) :
    (Code.rangeFunc g ps assign body).wpIn Fence.wide 0 P Q a w := by
  refine wpIn_rangeFunc ?_
  intro fn _
  obtain ⟨rec, hrec⟩ : ∃ rec : LoopState → Option Code → Loop, rec = fun st pe => { state := st, pending := pe, fn, tmps := a.tmps, params := ps, assign, body, defers := w.heap.size } := ⟨_, rfl⟩
  obtain ⟨W1, hW1⟩ : ∃ W1, (w.alloc (.deferred (some []))).alloc (.loop (rec .ready none)) = W1 := ⟨_, rfl⟩
  have hL1 : W1.heap[w.heap.size + 1]? = some (.loop (rec .ready none)) := by
    rw [← hW1]; have := World.alloc_heap_new (w.alloc (.deferred (some []))) (.loop (rec .ready none)); rwa [World.size_alloc] at this
  have hK1 : W1.heap[w.heap.size]? = some (.deferred (some [])) := by
    rw [← hW1]; exact (Below.heap_alloc _ _ _ (by simp)).trans (World.alloc_heap_new w _)
  have hb1 : Below w.heap.size w W1 := by rw [← hW1]; exact ((Below.refl _ w).alloc (Nat.le_refl _) _).alloc (by simp) _
  have hlt1 : w.heap.size + 1 < W1.heap.size := (Array.getElem?_eq_some_iff.1 hL1).1
  have hI1 : I [] (fun _ => False) W1 := hI _ _ _ _ (Still.of_grow hb1) h0
  refine ⟨w.heap.size + 1, [{ target := .collected w.heap.size, args := #[] }], W1, { target := .fn (.func gf) lb, args := #[.func (.yield (w.heap.size + 1)) #[] #[]] }, W1, gf,
    #[.func (.yield (w.heap.size + 1)) #[] #[]] ++ lb, W1, ?_, ?_, fun _ _ => trivial, ?_, (fun h => by cases h), ?_⟩
  · rw [← hW1, hrec]; exact run_enterLoop_outer _ _ _ _ _
  · simp only [resolve, hg]
    simp [go_sem]
  · simp [invoke, go_sem, eg]
  refine callsIn_wide.2 ((hit W1 (w.heap.size + 1) hb1 (by omega) hlt1
    (fun pre G W => Kept (fun b => M b ∨ b = w.heap.size + 1) W1 W ∧ I pre G W ∧ W.heap[w.heap.size + 1]? = some (.loop (rec .ready none)) ∧ W.heap[w.heap.size]? = some (.deferred (some [])) ∧ ∀ k, G k → k < W.heap.size)
    (fun pre G W => Kept (fun b => M b ∨ b = w.heap.size + 1) W1 W ∧ (∃ c, Ix c pre G W ∧ W.heap[w.heap.size + 1]? = some (.loop (rec .done (some c))) ∧ W.heap[w.heap.size]? = some (.deferred (some []))) ∧ ∀ k, G k → k < W.heap.size)
    ?_ ?_ ?_ ⟨Kept.refl _ _, hI1, hL1, hK1, fun _ h => h.elim⟩).mono ?_)
  · rintro s G A B hn hb ⟨h1, h2, h3, h4, h5⟩
    have hb1' := below_far hn hb
    exact ⟨h1.far hb1', stillFar hI (fun h => (hF h).1) hb1.size hn hb h2, (hb1'.block _ hlt1).trans h3, (hb1'.block _ (by omega)).trans h4, fun k hk => Nat.lt_of_lt_of_le (h5 k hk) hb1'.size⟩
  · rintro s G A B hn hb ⟨h1, ⟨c, h2, h3, h4⟩, h5⟩
    have hb1' := below_far hn hb
    exact ⟨h1.far hb1', ⟨c, stillFar (hIx c) (fun h => (hF h).2 c) hb1.size hn hb h2, (hb1'.block _ hlt1).trans h3, (hb1'.block _ (by omega)).trans h4⟩, fun k hk => Nat.lt_of_lt_of_le (h5 k hk) hb1'.size⟩
  · rintro pre x G W ⟨hk0, hi, hl, hk, hGs⟩ hGn hkW hok hSp
    have hwW : Kept M w W := ⟨hk0.os.trans hb1.os, hk0.tape.trans hb1.tape, hk0.output.trans hb1.output, by have := hk0.size; omega, fun k hk' hM' =>
      (hk0.block k (by omega) (fun h => by rcases h with h | h; exact hM' h; omega)).trans (hb1.block k hk')⟩
    have hGl : ∀ k, G k → w.heap.size + 1 < k := fun k h => by have := hGn k h; omega
    obtain ⟨fn', tm', as', bd', hy, hR⟩ := round_law (P := P) hrec hps hM (show w.heap.size ≤ w.heap.size + 1 by omega) hI hIx hGl
      (fun W => W.heap[w.heap.size]? = some (.deferred (some []))) (fun A B hA hAB => (hAB _ (Array.getElem?_eq_some_iff.1 hA).1 (fun h => by have := hM _ h; omega) (fun h => by have := hGl _ h; omega) (by omega)).trans hA) hl hk
      (hround (w.heap.size + 1) pre x G W (by omega) ⟨_, hl⟩ hwW (fun k h => ⟨hGl k h, hGs k h⟩) hi hok hSp)
    refine ⟨fn', tm', as', bd', hy, hR.mono ?_⟩
    rintro e W' ⟨G', ha, h4, (⟨he, h1, h2, h3⟩ | ⟨he, c, h1, h2, h3⟩)⟩
    · exact ⟨G', ha, h4, .inl ⟨he, hk0.more h4 hGn, h1, h2, h3, fun k hk => (ha k hk).2⟩⟩
    · exact ⟨G', ha, h4, .inr ⟨he, hk0.more h4 hGn, ⟨c, h1, h2, h3⟩, fun k hk => (ha k hk).2⟩⟩
  · rintro e W2 ⟨⟨v, rfl⟩, _, (⟨xs, G, hS, hGn, hk0, hi, hl, hk, hGs⟩ | ⟨pre, G, hSp, hGn, hk0, ⟨c, hi, hl, hk⟩, hGs⟩)⟩
    · have hend := run_endLoop (P := P) hl (by rw [hrec]; simp)
      rw [hrec] at hend
      refine ⟨none, _, hend, hdone w.heap.size xs G _ (Nat.le_refl _) ?_ hS (fun k h => ⟨by have := hGn k h; omega, by simpa using hGs k h⟩) (hI _ _ _ _ (Still.putObj (by omega) hl rfl) hi) ((World.putObj_heap_other (by omega)).trans hk)⟩
      exact ⟨hk0.os.trans hb1.os, hk0.tape.trans hb1.tape, hk0.output.trans hb1.output, by have := hk0.size; simp; omega, fun k hk' hM' =>
        (World.putObj_heap_other (by omega)).trans ((hk0.block k (by omega) (fun h => by rcases h with h | h; exact hM' h; omega)).trans (hb1.block k hk'))⟩
    · have hend := run_endLoop (P := P) hl (by rw [hrec]; simp)
      rw [hrec] at hend
      refine ⟨some c, _, hend, hstop w.heap.size c pre G _ (Nat.le_refl _) ?_ hSp (fun k h => ⟨by have := hGn k h; omega, by simpa using hGs k h⟩) (hIx _ _ _ _ _ (Still.putObj (by omega) hl rfl) hi) ((World.putObj_heap_other (by omega)).trans hk)⟩
      exact ⟨hk0.os.trans hb1.os, hk0.tape.trans hb1.tape, hk0.output.trans hb1.output, by have := hk0.size; simp; omega, fun k hk' hM' =>
        (World.putObj_heap_other (by omega)).trans ((hk0.block k (by omega) (fun h => by rcases h with h | h; exact hM' h; omega)).trans (hb1.block k hk'))⟩

/-- A range over a function, in a round of the loop l₀. -/
theorem range_law_in {g : Operand} {ps : Array Tmp} {assign body : Code} {Q : Exit → Act → World → Prop} {a : Act} {w : World} {l₀ : Nat} {r₀ : Loop} (hl₀ : w.heap[l₀]? = some (.loop r₀))
    {gf : Nat} {lb : Array Value} (hg : a.eval g = .func (.func gf) #[] lb) (eg : ∀ args w, (callFunc gf args).run P w = .ok (.enter gf args) w)
    {encs : α → Array Value} {ok : α → World → Prop} {far : Bool} (M : Nat → Prop) {S Sp : List α → Prop} (hM : ∀ b, M b → b < w.heap.size)
    (hit : ∀ W l, Below w.heap.size w W → w.heap.size ≤ l → l < W.heap.size → Iter P far gf lb encs ok (fun b => M b ∨ b = l) S Sp l W) (hps : ∀ x, (encs x).size = ps.size)
    (I : Known α) (Ix : Code → Known α) (hI : Stills w.heap.size I) (hIx : ∀ c, Stills w.heap.size (Ix c)) (hF : far = true → Fars w.heap.size I ∧ ∀ c, Fars w.heap.size (Ix c)) (h0 : I [] (fun _ => False) w)
    (hround : ∀ l pre x G W, w.heap.size ≤ l → (∃ r, W.heap[l]? = some (.loop r)) → Kept M w W → (∀ k, G k → l < k ∧ k < W.heap.size) → I pre G W → ok x W → Sp (pre ++ [x]) →
      assign.wpIn (Fence.wide.inRound l) 0 P (Exit.then (thenRound P w.heap.size l body (roundEnd M I Ix (pre ++ [x]) G) W) (fun _ _ _ => False)) { tmps := (ps.zip (encs x)).foldl (fun t (p, v) => t.setIfInBounds p v) a.tmps, defers := [] } W)
    (hdone : ∀ xs G W, Kept M w W → S xs → (∀ k, G k → w.heap.size ≤ k ∧ k < W.heap.size) → I xs G W → Q .normal a W)
    (hstop : ∀ c pre G W, Kept M w W → Sp pre → (∀ k, G k → w.heap.size ≤ k ∧ k < W.heap.size) → Ix c pre G W → c.wpIn (Fence.wide.inRound l₀) 0 P Q a W) :
    (Code.rangeFunc g ps assign body).wpIn (Fence.wide.inRound l₀) 0 P Q a w := by
  refine wpIn_rangeFunc ?_
  intro fn _
  obtain ⟨rec, hrec⟩ : ∃ rec : LoopState → Option Code → Loop, rec = fun st pe => { state := st, pending := pe, fn, tmps := a.tmps, params := ps, assign, body, defers := r₀.defers } := ⟨_, rfl⟩
  obtain ⟨W1, hW1⟩ : ∃ W1, w.alloc (.loop (rec .ready none)) = W1 := ⟨_, rfl⟩
  have hL1 : W1.heap[w.heap.size]? = some (.loop (rec .ready none)) := by rw [← hW1]; exact World.alloc_heap_new w _
  have hb1 : Below w.heap.size w W1 := by rw [← hW1]; exact (Below.refl _ w).alloc (Nat.le_refl _) _
  have hlt1 : w.heap.size < W1.heap.size := (Array.getElem?_eq_some_iff.1 hL1).1
  have hI1 : I [] (fun _ => False) W1 := hI _ _ _ _ (Still.of_grow hb1) h0
  refine ⟨w.heap.size, [], W1, { target := .fn (.func gf) lb, args := #[.func (.yield w.heap.size) #[] #[]] }, W1, gf,
    #[.func (.yield w.heap.size) #[] #[]] ++ lb, W1, ?_, ?_, fun _ _ => trivial, ?_, (fun h => by cases h), ?_⟩
  · rw [← hW1, hrec]; exact run_enterLoop_inner hl₀ _ _ _ _ _
  · simp only [resolve, hg]
    simp [go_sem]
  · simp [invoke, go_sem, eg]
  refine CallsIn.inRound l₀ (callsIn_wide.2 ((hit W1 w.heap.size hb1 (by omega) hlt1
    (fun pre G W => Kept (fun b => M b ∨ b = w.heap.size) W1 W ∧ I pre G W ∧ W.heap[w.heap.size]? = some (.loop (rec .ready none)) ∧ ∀ k, G k → k < W.heap.size)
    (fun pre G W => Kept (fun b => M b ∨ b = w.heap.size) W1 W ∧ (∃ c, Ix c pre G W ∧ W.heap[w.heap.size]? = some (.loop (rec .done (some c)))) ∧ ∀ k, G k → k < W.heap.size)
    ?_ ?_ ?_ ⟨Kept.refl _ _, hI1, hL1, fun _ h => h.elim⟩).mono ?_))
  · rintro s G A B hn hb ⟨h1, h2, h3, h5⟩
    have hb1' := below_far hn hb
    exact ⟨h1.far hb1', stillFar hI (fun h => (hF h).1) hb1.size hn hb h2, (hb1'.block _ hlt1).trans h3, fun k hk => Nat.lt_of_lt_of_le (h5 k hk) hb1'.size⟩
  · rintro s G A B hn hb ⟨h1, ⟨c, h2, h3⟩, h5⟩
    have hb1' := below_far hn hb
    exact ⟨h1.far hb1', ⟨c, stillFar (hIx c) (fun h => (hF h).2 c) hb1.size hn hb h2, (hb1'.block _ hlt1).trans h3⟩, fun k hk => Nat.lt_of_lt_of_le (h5 k hk) hb1'.size⟩
  · rintro pre x G W ⟨hk0, hi, hl, hGs⟩ hGn hkW hok hSp
    have hwW : Kept M w W := ⟨hk0.os.trans hb1.os, hk0.tape.trans hb1.tape, hk0.output.trans hb1.output, by have := hk0.size; omega, fun k hk' hM' =>
      (hk0.block k (by omega) (fun h => by rcases h with h | h; exact hM' h; omega)).trans (hb1.block k hk')⟩
    have hGl : ∀ k, G k → w.heap.size < k := fun k h => by have := hGn k h; omega
    obtain ⟨fn', tm', as', bd', hy, hR⟩ := round_law (P := P) hrec hps hM (Nat.le_refl _) hI hIx hGl (fun _ => True) (fun _ _ _ _ => trivial) hl trivial
      (hround w.heap.size pre x G W (by omega) ⟨_, hl⟩ hwW (fun k h => ⟨hGl k h, hGs k h⟩) hi hok hSp)
    refine ⟨fn', tm', as', bd', hy, hR.mono ?_⟩
    rintro e W' ⟨G', ha, h4, (⟨he, h1, h2, h3⟩ | ⟨he, c, h1, h2, h3⟩)⟩
    · exact ⟨G', ha, h4, .inl ⟨he, hk0.more h4 hGn, h1, h2, fun k hk => (ha k hk).2⟩⟩
    · exact ⟨G', ha, h4, .inr ⟨he, hk0.more h4 hGn, ⟨c, h1, h2⟩, fun k hk => (ha k hk).2⟩⟩
  · rintro e W2 ⟨⟨v, rfl⟩, _, (⟨xs, G, hS, hGn, hk0, hi, hl, hGs⟩ | ⟨pre, G, hSp, hGn, hk0, ⟨c, hi, hl⟩, hGs⟩)⟩
    · have hend := run_endLoop (P := P) hl (by rw [hrec]; simp)
      rw [hrec] at hend
      refine ⟨none, _, hend, hdone xs G _ ?_ hS (fun k h => ⟨by have := hGn k h; omega, by simpa using hGs k h⟩) (hI _ _ _ _ (Still.putObj (by omega) hl rfl) hi)⟩
      exact ⟨hk0.os.trans hb1.os, hk0.tape.trans hb1.tape, hk0.output.trans hb1.output, by have := hk0.size; simp; omega, fun k hk' hM' =>
        (World.putObj_heap_other (by omega)).trans ((hk0.block k (by omega) (fun h => by rcases h with h | h; exact hM' h; omega)).trans (hb1.block k hk'))⟩
    · have hend := run_endLoop (P := P) hl (by rw [hrec]; simp)
      rw [hrec] at hend
      refine ⟨some c, _, hend, hstop c pre G _ ?_ hSp (fun k h => ⟨by have := hGn k h; omega, by simpa using hGs k h⟩) (hIx _ _ _ _ _ (Still.putObj (by omega) hl rfl) hi)⟩
      exact ⟨hk0.os.trans hb1.os, hk0.tape.trans hb1.tape, hk0.output.trans hb1.output, by have := hk0.size; simp; omega, fun k hk' hM' =>
        (World.putObj_heap_other (by omega)).trans ((hk0.block k (by omega) (fun h => by rcases h with h | h; exact hM' h; omega)).trans (hb1.block k hk'))⟩
end law

/-- A call of yield, where the walk stands at it (in a round of another loop, or in none): both ways in which the round may end. -/
theorem yield_step {P : Program} {o : Oper} {a : Act} {next : Act → World → Prop} {Q : Exit → Act → World → Prop} {α : Type} {l : Nat} {encs : α → Array Value} {M : Nat → Prop} {J Jx : Known α} {pre : List α} {x : α} {G : Nat → Prop} {W : World} {args : Array Value}
    (h : Yields P l encs M J Jx pre x G W)
    (ht : ∀ G' W', Adds W.heap.size G G' W' → Kept (fun k => M k ∨ G k) W W' → J (pre ++ [x]) G' W' → next (a.put o.dst (.bool true)) W')
    (hf : ∀ G' W', Adds W.heap.size G G' W' → Kept (fun k => M k ∨ G k) W W' → Jx (pre ++ [x]) G' W' → next (a.put o.dst (.bool false)) W') (ha : encs x = args := by rfl) :
    Oper.uponIn Fence.wide 0 P o a next Q (Sem.run P (Instr.yield l args) W) := by
  subst ha
  obtain ⟨fn, tmps, assign, body, hy, hR⟩ := h
  rw [hy]
  refine ⟨fun h => (by cases h), hR.mono ?_⟩
  rintro e W' ⟨G', h1, h2, (⟨rfl, h⟩ | ⟨rfl, h⟩)⟩
  · exact ht _ _ h1 h2 h
  · exact hf _ _ h1 h2 h
theorem yield_step_in {P : Program} {o : Oper} {a : Act} {next : Act → World → Prop} {Q : Exit → Act → World → Prop} {α : Type} {l l₀ : Nat} {encs : α → Array Value} {M : Nat → Prop} {J Jx : Known α} {pre : List α} {x : α} {G : Nat → Prop} {W : World} {args : Array Value}
    (h : Yields P l encs M J Jx pre x G W)
    (ht : ∀ G' W', Adds W.heap.size G G' W' → Kept (fun k => M k ∨ G k) W W' → J (pre ++ [x]) G' W' → next (a.put o.dst (.bool true)) W')
    (hf : ∀ G' W', Adds W.heap.size G G' W' → Kept (fun k => M k ∨ G k) W W' → Jx (pre ++ [x]) G' W' → next (a.put o.dst (.bool false)) W') (ha : encs x = args := by rfl) :
    Oper.uponIn (Fence.wide.inRound l₀) 0 P o a next Q (Sem.run P (Instr.yield l args) W) := by
  subst ha
  obtain ⟨fn, tmps, assign, body, hy, hR⟩ := h
  rw [hy]
  refine ⟨fun h => (by cases h), (show RoundIn (Fence.wide.inRound l₀) 0 P l fn tmps assign body W _ from hR).mono ?_⟩
  rintro e W' ⟨G', h1, h2, (⟨rfl, h⟩ | ⟨rfl, h⟩)⟩
  · exact ht _ _ h1 h2 h
  · exact hf _ _ h1 h2 h

theorem heap_set {W : World} {D : Nat} {p : Addr} {u : Value} {o : Obj} (h : W.heap[D]? = some o) (hne : D ≠ p.block) : (W.setCell p u).heap[D]? = some o := (Below.heap_setCell W p u D hne).trans h
/-- Block B is just the cells cs of type t. -/
def Bx (W : World) (B : Nat) (t : TypeId) (cs : Array Value) : Prop := W.heap[B]? = some (.cells cs t (0, 0))
section bx
variable {W W' : World} {B : Nat} {t : TypeId} {cs : Array Value}
theorem Bx.lt (h : Bx W B t cs) : B < W.heap.size := (Array.getElem?_eq_some_iff.1 h).1
theorem Bx.cell (h : Bx W B t cs) (i : Nat) : W.cell? ⟨B, i, none⟩ = cs[i]? := cell_of_row W B i cs t (0, 0) h
theorem Bx.frozen (h : Bx W B t cs) (i : Nat) : W.frozen? ⟨B, i, none⟩ = false := by
  unfold Bx at h
  simp [World.frozen?, h]
theorem Bx.new (W : World) (t : TypeId) (cs : Array Value) : Bx (W.alloc (.cells cs t)) W.heap.size t cs := World.alloc_heap_new W _
theorem Bx.kept {M : Nat → Prop} (h : Bx W B t cs) (hk : Kept M W W') (hM : ¬ M B) : Bx W' B t cs := (hk.block B h.lt hM).trans h
theorem Bx.grow (h : Bx W B t cs) (hb : Below W.heap.size W W') : Bx W' B t cs := (hb.block B h.lt).trans h
theorem Bx.below {n : Nat} (h : Bx W B t cs) (hb : Below n W W') (hn : B < n) : Bx W' B t cs := (hb.block B hn).trans h
theorem Bx.alloc (h : Bx W B t cs) (o : Obj) : Bx (W.alloc o) B t cs := (Below.heap_alloc W o B h.lt).trans h
theorem Bx.drewN (h : Bx W B t cs) (n : Nat) : Bx (W.drewN n) B t cs := h
theorem Bx.still {n : Nat} (h : Bx W B t cs) (hs : Still n W W') : Bx W' B t cs := hs.block B _ h (.inr rfl)
theorem Bx.set (h : Bx W B t cs) (i : Nat) (u : Value) : Bx (W.setCell ⟨B, i, none⟩ u) B t (cs.setIfInBounds i u) := by
  unfold Bx at h ⊢
  simp [World.setCell, Array.getElem?_modify, h]
theorem Bx.far (h : Bx W B t cs) {p : Addr} (hp : B ≠ p.block) (u : Value) : Bx (W.setCell p u) B t cs := (Below.heap_setCell W p u B hp).trans h
theorem Bx.putObj {D : Nat} {o : Obj} (h : Bx W B t cs) (hne : B ≠ D) : Bx (W.putObj D o) B t cs := (World.putObj_heap_other hne).trans h
theorem Bx.boxed {v : Value} (h : Bx W B t #[v]) : Boxed W B t v := h
end bx

end Go.Proofs.Ythiifonejoejpaa
