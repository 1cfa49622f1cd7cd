/- DropFewest: the law. -/
import Derived.Test.YtaimphcjjoennaaL2
import Derived.Test.YtaimphcjjoennaaW3
set_option linter.unusedSimpArgs false
set_option linter.unusedVariables false
namespace Go.Proofs.Ytaimphcjjoennaa
open Abs Sx Go.RowKit
set_option maxRecDepth 100000
namespace Dl
def pKn : Pr := ⟨6, [], [], fun _ => .leaf (.bool (lit 1))⟩
def b8 (i : Nat) : List X := [le (lit 0) (v i), le (v i) (lit 255)]
def bPre : List X := (List.range 5).flatMap b8
def un : Tpl := ⟨[], [], [], [], 0, [], none⟩
def bX (h : Nat) : X := .app 0 (.cons (.bin .rem (lit h) (v 5)) .nil)
def loB (b : X) : X := .bin .rem b (lit 4)
def hiB (b : X) : X := .bin .add (loB b) (.bin .rem (.bin .quo b (lit 4)) (lit 3))
def cellsR : List X := (List.range 24).flatMap fun h => [loB (bX h), hiB (bX h)]
def cells0 : List X := List.replicate 48 (lit 0)
def needR : X := (List.range 23).foldl (fun s h => .bin .add s (hiB (bX (h + 1)))) (hiB (bX 0))
def deX : X := .bin .add (lit 1) (v 3)
def daX : X := .bin .add (lit 1) (.bin .rem (v 2) (lit 20))
def liX : X := .bin .add (lit 1) (.bin .rem (v 4) (lit 30))
def tF (ob : List (Nat × SO)) (cells : List X) (need : X) : List Tpl := [un, ⟨[7], [(9, .ptr 3 0), (10, .int .i64 (lit 0)), (11, .int .i64 (lit 0)), (12, .int .i64 (lit 7)), (13, .int .i64 need), (15, .int .i64 (v 7))],
  ob ++ [(3, .cells true [.int .i64 deX, .int .i64 daX, .int .i64 (lit 3), .int .i64 liX, .slice 4 0 (lit 0) (lit 24) (lit 24) 2 false]), (4, .cells true (cells.map fun x => .int .i64 x))], [], 5, [le (lit 1) (v 7)], none⟩]
def RF : Rgs := ⟨[none, none, none, none, none, none, none, some (0, 9)], frL⟩
def obR : List (Nat × SO) := [(0, .row false (v 5) .nil [.int .u8 0])]
def pX (cells : List X) : X := .app 80 (.cons deX (.cons daX (.cons (lit 3) (.cons liX (consX cells)))))
def g65 (line : X) (cells : List X) : X := .app 65 (.cons line (.cons (lit 0) (consX cells)))
def tT : Sx.LT SV := .leaf (.bool (lit 1))
def fF : Sx.LT SV := .leaf (.bool (lit 0))
def sl (n k e : Nat) (c : Nat) : SV := .slice n 0 (lit 0) (v c) (v (c + 1)) e true
def dots (a b c : SV) : List SV := [.agg [.int .u8 (v 0), .int .u8 (v 1), a, b, c], .agg [.int .u8 (v 2), .int .u8 (v 3), .int .u8 (v 4)]]
def g6 : Nat := 4
def lawPs : List Pr := [pKn, pGoesL, pRig]

/-! What the hours of some days use. -/
def sumF (V : Int → Dw.Hr) (h : Int) : Nat → Int
  | 0 => 0
  | k + 1 => (V (h.tmod 24)).2 + sumF V (h + 1) k
def sumN (f : Nat → Int) : Nat → Int
  | 0 => 0
  | k + 1 => sumN f k + f k
theorem sumF_add (V : Int → Dw.Hr) : ∀ (a b : Nat) (h : Int), sumF V h (a + b) = sumF V h a + sumF V (h + a) b
  | 0, b, h => by simp [sumF]
  | a + 1, b, h => by
    rw [show a + 1 + b = (a + b) + 1 by omega]
    simp only [sumF]
    rw [sumF_add V a b (h + 1), show h + 1 + (a : Int) = h + ((a + 1 : Nat) : Int) by omega]
    omega
theorem mod24 {m : Int} (hm : 0 ≤ m) {k : Nat} (hk : k < 24) : (24 * m + (k : Int)).tmod 24 = k := by
  rw [Int.tmod_eq_emod_of_nonneg (by omega)]; omega
theorem sumF_day (V : Int → Dw.Hr) {m : Int} (hm : 0 ≤ m) : ∀ k : Nat, k ≤ 24 → sumF V (24 * m) k = sumN (fun j => (V (j : Int)).2) k
  | 0, _ => rfl
  | k + 1, hk => by
    rw [sumF_add V k 1, sumF_day V hm k (by omega)]
    simp only [sumF, sumN, mod24 hm (show k < 24 by omega)]
    omega
theorem sumF_days (V : Int → Dw.Hr) : ∀ (d : Nat) (m : Int), 0 ≤ m → sumF V (24 * m) (24 * d) = sumN (fun j => (V (j : Int)).2) 24 * d
  | 0, m, _ => by simp [sumF]
  | d + 1, m, hm => by
    rw [show 24 * (d + 1) = 24 + 24 * d by omega, sumF_add, sumF_day V hm 24 (by omega), show 24 * m + ((24 : Nat) : Int) = 24 * (m + 1) by omega, sumF_days V d (m + 1) (by omega), show ((d + 1 : Nat) : Int) = (d : Int) + 1 by omega, Int.mul_add, Int.mul_one]
    omega
theorem sumN_front (f : Nat → Int) : ∀ k, sumN f (k + 1) = f 0 + sumN (fun j => f (j + 1)) k
  | 0 => by simp [sumN]
  | k + 1 => by
    rw [sumN, sumN_front f k]
    simp only [sumN]
    omega
theorem sumH_eq : ∀ (n : Nat) (l : List Int), l.length = 2 * n → sumH l = sumN (fun j => (U l (j : Int)).2) n
  | 0, l, h => by
    have : l = [] := List.length_eq_zero_iff.1 (by omega)
    subst this; rfl
  | n + 1, [], h => by simp at h
  | n + 1, [_], h => by simp at h; omega
  | n + 1, a :: b :: l, h => by
    rw [sumN_front]
    simp only [sumH]
    rw [sumH_eq n l (by simp at h; omega)]
    rfl
theorem goes_fst (U : Int → Dw.Hr) : ∀ (n : Nat) (h few many d : Int), d ≠ 2000 → (Dw.goes U n h few many d).1 = d
  | 0, _, _, _, _, _ => rfl
  | n + 1, h, few, many, d, hd => by
    simp only [Dw.goes, hd, and_false, if_false]
    split
    · rfl
    · exact goes_fst U n _ _ _ _ hd
theorem goes_h (V : Int → Dw.Hr) : ∀ (n : Nat) (h few many : Int), (n : Int) = 2000 - h → h ≤ (Dw.goes V n h few many 2000).1
  | 0, h, few, many, hn => by simp only [Dw.goes]; omega
  | n + 1, h, few, many, hn => by
    by_cases c : many < (V (h.tmod 24)).2
    · simp only [Dw.goes, c, and_true, if_true]
      split
      · exact Int.le_refl _
      · rw [Dl.goes_fst _ _ _ _ _ _ (by omega)]; exact Int.le_refl _
    · simp only [Dw.goes, c, false_and, if_false]
      split
      · show h ≤ 2000; omega
      · have := goes_h V n (h + 1) (few - (V (h.tmod 24)).1) (max 0 (many - (V (h.tmod 24)).2)) (by omega)
        omega
/-- Who has enough for so many hours does not become doubtful before. -/
theorem goes_enough {V : Int → Dw.Hr} (hV : ∀ i, Dw.okH (V i) = true) : ∀ (k n : Nat) (h few many : Int), (n : Int) = 2000 - h → k ≤ n → many ≤ few → sumF V h k ≤ many → h + k ≤ (Dw.goes V n h few many 2000).1
  | 0, n, h, few, many, hn, _, _, _ => by have := goes_h V n h few many hn; omega
  | k + 1, 0, h, few, many, hn, hk, _, _ => by omega
  | k + 1, n + 1, h, few, many, hn, hk, hf, hs => by
    have o := Dw.okH_iff.1 (hV (h.tmod 24))
    have hp : ∀ (k : Nat) (h : Int), 0 ≤ sumF V h k := fun k => by
      induction k with
      | zero => intro h; exact Int.le_refl _
      | succ k ih => intro h; have := Dw.okH_iff.1 (hV (h.tmod 24)); have := ih (h + 1); simp only [sumF]; omega
    have h0 := hp k (h + 1)
    simp only [sumF] at hs
    simp only [Dw.goes, show ¬ many < (V (h.tmod 24)).2 by omega, false_and, if_false, show ¬ few < (V (h.tmod 24)).1 by omega]
    have := goes_enough hV k n (h + 1) (few - (V (h.tmod 24)).1) (max 0 (many - (V (h.tmod 24)).2)) (by omega) (by omega) (by omega) (by omega)
    omega
/-- Who has not becomes doubtful before. -/
theorem goes_short {V : Int → Dw.Hr} (hV : ∀ i, Dw.okH (V i) = true) : ∀ (k n : Nat) (h few many : Int), (n : Int) = 2000 - h → k ≤ n → 0 ≤ many → many ≤ few → many < sumF V h k → h + k < 2000 → (Dw.goes V n h few many 2000).1 < h + k
  | 0, n, h, few, many, hn, _, h0, _, hs, _ => by simp only [sumF] at hs; omega
  | k + 1, 0, h, few, many, hn, hk, _, _, _, _ => by omega
  | k + 1, n + 1, h, few, many, hn, hk, h0, hf, hs, hl => by
    have o := Dw.okH_iff.1 (hV (h.tmod 24))
    simp only [sumF] at hs
    by_cases c : many < (V (h.tmod 24)).2
    · simp only [Dw.goes, c, and_true, if_true]
      split
      · show h < h + ((k + 1 : Nat) : Int); omega
      · rw [Dl.goes_fst _ _ _ _ _ _ (by omega)]; omega
    · simp only [Dw.goes, c, false_and, if_false, show ¬ few < (V (h.tmod 24)).1 by omega]
      have := goes_short hV k n (h + 1) (few - (V (h.tmod 24)).1) (max 0 (many - (V (h.tmod 24)).2)) (by omega) (by omega) (by omega) (by omega) (by omega) (by omega)
      omega
/-- The hour in which a clock becomes doubtful that has so much line: before the end of some days just if it has less than they use. -/
theorem f65_days {bs : List Int} {l : List Int} (hl : l.length = 48) (hV : ∀ i, Dw.okH (U l i) = true) {line : Int} (h0 : 0 ≤ line) {d : Nat} (hd : d ≤ 20) :
    (sumH l * d ≤ line → 24 * (d : Int) ≤ fnL bs 65 (line :: 0 :: l)) ∧ (line < sumH l * d → fnL bs 65 (line :: 0 :: l) < 24 * (d : Int)) := by
  have hs : sumF (U l) 0 (24 * d) = sumH l * d := by
    have := sumF_days (U l) d 0 (Int.le_refl _)
    rw [Int.mul_zero] at this
    rw [this, sumH_eq 24 l hl]
  have e : fnL bs 65 (line :: 0 :: l) = c3 2000 (Dw.goes (U l) 2000 0 line line 2000).1 := rfl
  rw [e]
  refine ⟨fun h => ?_, fun h => ?_⟩
  · have := goes_enough hV (24 * d) 2000 0 line line (by omega) (by omega) (Int.le_refl _) (by rw [hs]; exact h)
    unfold c3; omega
  · have := goes_short hV (24 * d) 2000 0 line line (by omega) (by omega) h0 (Int.le_refl _) (by rw [hs]; exact h) (by omega)
    have := goes_h (U l) 2000 0 line line (by omega)
    unfold c3; omega

/-! The tree. -/
def bk : Sx.LT SV := .back 1 [(7, .bin .add (v 7) (lit 1))]
def loopT (wr : Sx.LT SV → Sx.LT SV) : Sx.LT SV := .loop 1 [(7, lit 1)] (.ask (le (v 7) (lit 8)) (wr (.ask (le (.bin .mul (lit 3) (v 7)) liX) fF bk)) tT)
def wrapR (t : Sx.LT SV) : Sx.LT SV := .ask (le (.bin .mul needR daX) (.bin .mul (v 7) deX)) t bk
def lineX (cells : List X) : X := .bin .mul deX (pX cells)
def lessX (cells : List X) : X := .bin .sub (lineX cells) deX
def hoursX : X := .bin .mul (lit 24) daX
def restT (cells : List X) : Sx.LT SV := .ask (.not (eq (lineX cells) (.bin .mul (pX cells) deX))) fF (.ask (lt liX (.bin .mul (lit 3) (pX cells))) fF (.ask (lt (g65 (lineX cells) cells) hoursX) fF
  (.ask (lt (lit 1) (pX cells)) (.need [le (lit 1) (lessX cells), le (lit 0) (lessX cells)] (.ask (le hoursX (g65 (lessX cells) cells)) fF tT)) tT)))
def mainT (wr : Sx.LT SV → Sx.LT SV) (cells : List X) : Sx.LT SV := .ask (eq (pX cells) (lit 0)) (loopT wr) (restT cells)
def treeZ : Sx.LT SV := mainT id cells0
def ixT (t : Sx.LT SV) : Nat → Sx.LT SV
  | 0 => t
  | r + 1 => .need [le (lit 0) (.bin .rem (lit ((24 - (r + 1) : Nat) : Int)) (v 5)), lt (.bin .rem (lit ((24 - (r + 1) : Nat) : Int)) (v 5)) (v 5)] (ixT t r)
def treeR : Sx.LT SV := ixT (.need ((List.range 24).map fun h => le (loB (bX h)) (hiB (bX h))) (mainT wrapR cellsR)) 24
def preR : List X := bPre ++ [lt (lit 0) (v 5), le (lit 0) (v 6)]
def preZ : List X := bPre ++ [eq (v 5) (lit 0), le (lit 0) (v 6)]
def uses : SV := .slice 0 0 (lit 0) (v 5) (v 6) 1 true
def vis : SV := .slice 1 0 (lit 0) (v 8) (v 9) 4 true
def tru : SV := .slice 2 0 (lit 0) (v 10) (v 11) 1 true

section
variable {ρ : Val} {bs : List Int} (hfn : ρ.fn = fnL bs)
theorem consX_sem : ∀ l : List X, X.sem ρ (consX l) = l.map (X.den ρ)
  | [] => rfl
  | x :: l => by simp only [consX, X.sem_cons, List.map_cons, consX_sem l]
/-- What the bytes are. -/
structure In (ρ : Val) : Prop where
  b2 : 0 ≤ ρ.v 2 ∧ ρ.v 2 ≤ 255
  b3 : 0 ≤ ρ.v 3 ∧ ρ.v 3 ≤ 255
  b4 : 0 ≤ ρ.v 4 ∧ ρ.v 4 ≤ 255
theorem tm_emod {a b : Int} (ha : 0 ≤ a) : a.tmod b = a % b := Int.tmod_eq_emod_of_nonneg ha
theorem de_in (i : In ρ) : 1 ≤ deX.den ρ ∧ deX.den ρ ≤ 256 := by
  have := i.b3; simp only [deX, lit, v, X.den_add, X.den_lit, X.den_var]; omega
theorem da_in (i : In ρ) : 1 ≤ daX.den ρ ∧ daX.den ρ ≤ 20 := by
  have := i.b2; simp only [daX, lit, v, X.den_add, X.den_lit, X.den_rem, X.den_var]; rw [tm_emod this.1]; omega
theorem li_in (i : In ρ) : 1 ≤ liX.den ρ ∧ liX.den ρ ≤ 30 := by
  have := i.b4; simp only [liX, lit, v, X.den_add, X.den_lit, X.den_rem, X.den_var]; rw [tm_emod this.1]; omega
include hfn
theorem p_den (cells : List X) : RigIs (deX.den ρ) 3 (liX.den ρ) (sumH (cells.map (X.den ρ)) * daX.den ρ) ((pX cells).den ρ) := by
  have h := rig_is (deX.den ρ) (daX.den ρ) 3 (liX.den ρ) (sumH (cells.map (X.den ρ)))
  have e : (pX cells).den ρ = max 0 (min 8 (rigP (deX.den ρ) (daX.den ρ) 3 (liX.den ρ) (sumH (cells.map (X.den ρ))) 8 1)) := by
    simp only [pX, lit, X.den_app, X.sem_cons, consX_sem, X.den_lit, hfn]; rfl
  have e2 : (pX cells).den ρ = rigP (deX.den ρ) (daX.den ρ) 3 (liX.den ρ) (sumH (cells.map (X.den ρ))) 8 1 := by
    rw [e]; unfold RigIs at h; omega
  rw [e2]; exact h
theorem g_den (line : X) (cells : List X) : (g65 line cells).den ρ = fnL bs 65 (line.den ρ :: 0 :: cells.map (X.den ρ)) := by
  simp only [g65, lit, X.den_app, X.sem_cons, consX_sem, X.den_lit, hfn]
variable {R : Rgs} {tps : List Tpl} {Inv : Nat → Val → Prop} {mu : Nat → Val → Nat} {M : Nat → Nat}
def Qb : Val → SV → Prop := fun ρ w => w.den ρ = .bool true
theorem rest_vc (i : In ρ) {cells : List X} (hl : (cells.map (X.den ρ)).length = 48) (hV : ∀ k, Dw.okH (U (cells.map (X.den ρ)) k) = true) (hp : (pX cells).den ρ ≠ 0) : LT.vc R tps Inv mu Qb (restT cells) ρ M := by
  have hP := p_den hfn cells
  have d1 := de_in i
  have d2 := da_in i
  have d3 := li_in i
  have el : (lineX cells).den ρ = deX.den ρ * (pX cells).den ρ := by simp only [lineX, X.den_mul]
  have es : (lessX cells).den ρ = deX.den ρ * (pX cells).den ρ - deX.den ρ := by simp only [lessX, lineX, X.den_mul, X.den_sub]
  have eh : hoursX.den ρ = 24 * daX.den ρ := by simp only [hoursX, lit, X.den_mul, X.den_lit]
  have gl := g_den hfn (lineX cells) cells
  have gs := g_den hfn (lessX cells) cells
  have hn : ((daX.den ρ).toNat : Int) = daX.den ρ := by omega
  have k1 := fun h0 => f65_days (bs := bs) (line := (lineX cells).den ρ) hl hV h0 (d := (daX.den ρ).toNat) (by omega)
  have k2 := fun h0 => f65_days (bs := bs) (line := (lessX cells).den ρ) hl hV h0 (d := (daX.den ρ).toNat) (by omega)
  rw [hn, ← gl, el] at k1
  rw [hn, ← gs, es] at k2
  generalize hD : sumH (cells.map (X.den ρ)) * daX.den ρ = D at *
  have key : (deX.den ρ * (pX cells).den ρ ≥ D ∧ 0 ≤ deX.den ρ * (pX cells).den ρ ∧ 3 * (pX cells).den ρ ≤ liX.den ρ) ∧ (1 < (pX cells).den ρ → deX.den ρ * (pX cells).den ρ - deX.den ρ < D ∧ 1 ≤ deX.den ρ * (pX cells).den ρ - deX.den ρ) := by
    generalize (pX cells).den ρ = P at *
    generalize deX.den ρ = de at *
    generalize liX.den ρ = li at *
    clear k1 k2 gl gs el es eh hn hV hl
    unfold RigIs at hP
    rcases hP with ⟨_h0, _h1, _h2, _h3, _h4, _h5, _h6, _h7, rfl⟩ | ⟨_h0, _h1, rfl⟩ | ⟨_h0, _h1, rfl⟩ | ⟨_h0, _h1, _h2, rfl⟩ | ⟨_h0, _h1, _h2, rfl⟩ | ⟨_h0, _h1, _h2, _h3, rfl⟩ | ⟨_h0, _h1, _h2, _h3, rfl⟩ | ⟨_h0, _h1, _h2, _h3, _h4, rfl⟩ | ⟨_h0, _h1, _h2, _h3, _h4, rfl⟩ | ⟨_h0, _h1, _h2, _h3, _h4, _h5, rfl⟩ | ⟨_h0, _h1, _h2, _h3, _h4, _h5, rfl⟩ | ⟨_h0, _h1, _h2, _h3, _h4, _h5, _h6, rfl⟩ | ⟨_h0, _h1, _h2, _h3, _h4, _h5, _h6, rfl⟩ | ⟨_h0, _h1, _h2, _h3, _h4, _h5, _h6, _h7, rfl⟩ | ⟨_h0, _h1, _h2, _h3, _h4, _h5, _h6, _h7, rfl⟩ | ⟨_h0, _h1, _h2, _h3, _h4, _h5, _h6, _h7, _h8, rfl⟩ | ⟨_h0, _h1, _h2, _h3, _h4, _h5, _h6, _h7, _h8, rfl⟩
    all_goals first | exact absurd rfl hp | (refine ⟨⟨?_, ?_, ?_⟩, fun h => ⟨?_, ?_⟩⟩ <;> omega)
  refine ⟨fun c => ?_, fun _ => ⟨fun c => ?_, fun _ => ⟨fun c => ?_, fun _ => ⟨fun c => ⟨⟨?_, ?_, trivial⟩, fun d => ?_, fun _ => rfl⟩, fun _ => rfl⟩⟩⟩⟩
  · exfalso
    simp only [eq, X.denB_not, X.dB_eq, X.den_mul, lineX, Bool.not_eq_true', eqB_f] at c
    exact c (Int.mul_comm _ _)
  · exfalso
    simp only [lt, lit, X.dB_lt, ltB_t, X.den_mul, X.den_lit] at c
    omega
  · exfalso
    simp only [lt, X.dB_lt, ltB_t] at c
    have := (k1 key.1.2.1).1 key.1.1
    omega
  · simp only [lt, lit, X.dB_lt, ltB_t, X.den_lit] at c
    simp only [le, lit, X.dB_le, leB_t, X.den_lit]
    have := key.2 c; omega
  · simp only [lt, lit, X.dB_lt, ltB_t, X.den_lit] at c
    simp only [le, lit, X.dB_le, leB_t, X.den_lit]
    have := key.2 c; omega
  · exfalso
    simp only [lt, lit, X.dB_lt, ltB_t, X.den_lit] at c
    simp only [le, X.dB_le, leB_t] at d
    have h2 := key.2 c
    have := (k2 (by omega)).2 h2.1
    omega
omit hfn in
/-- No number of parts does, if Rig finds none. -/
theorem none_does {n : Int} (h1 : 1 ≤ n) (h2 : n ≤ 8) {de li D : Int} (hde : de ≤ 256) (hP : RigIs de 3 li D 0) : ¬ (D ≤ n * de ∧ 3 * n ≤ li) := by
  have : n = 1 ∨ n = 2 ∨ n = 3 ∨ n = 4 ∨ n = 5 ∨ n = 6 ∨ n = 7 ∨ n = 8 := by omega
  unfold RigIs at hP
  rcases this with rfl | rfl | rfl | rfl | rfl | rfl | rfl | rfl <;> omega
end
section
variable {ρ : Val} {bs : List Int} {M : Nat → Nat} {ob : List (Nat × SO)} {cells : List X} {need : X}
def I0 : Nat → Val → Prop := fun _ _ => True
def mu0 : Nat → Val → Nat := fun _ ρ => (9 - ρ.v 7).toNat
theorem loop_vc (i : In ρ) (wr : Sx.LT SV → Sx.LT SV)
    (hw : ∀ (w : Nat → Int) (M : Nat → Nat), (ρ.mix [7] w).v 7 ≤ 8 → 1 ≤ (ρ.mix [7] w).v 7 → mu0 1 (ρ.mix [7] w) = M 1 → LT.vc RF (tF ob cells need) I0 mu0 Qb (wr (.ask (le (.bin .mul (lit 3) (v 7)) liX) fF bk)) (ρ.mix [7] w) M) :
    LT.vc RF (tF ob cells need) I0 mu0 Qb (loopT wr) ρ M := by
  refine ⟨trivial, fun w hr hf _ => ?_⟩
  have e7 : idsF (tF ob cells need) 1 = [7] := rfl
  rw [e7] at hr hf ⊢
  have hf1 : 1 ≤ (ρ.mix [7] w).v 7 := by
    have := hf.1
    simp only [le, lit, v, X.dB_le, leB_t, X.den_lit, X.den_var] at this
    exact this
  refine ⟨fun c => ?_, fun _ => rfl⟩
  simp only [le, lit, v, X.dB_le, leB_t, X.den_lit, X.den_var] at c
  exact hw w _ c hf1 (by simp only [setM, Nat.beq_refl, cond_true])
theorem back_vc {ρ : Val} {M : Nat → Nat} (h1 : ρ.v 7 ≤ 8) (h2 : 1 ≤ ρ.v 7) (hM : mu0 1 ρ = M 1) : LT.vc RF (tF ob cells need) I0 mu0 Qb bk ρ M := by
  refine ⟨trivial, ?_⟩
  rw [← hM]
  show (9 - (ρ.upd [(7, .bin .add (v 7) (lit 1))]).v 7).toNat < (9 - ρ.v 7).toNat
  have : (ρ.upd [(7, .bin .add (v 7) (lit 1))]).v 7 = ρ.v 7 + 1 := rfl
  rw [this]; omega
end
theorem zeros_len (ρ : Val) : (cells0.map (X.den ρ)) = List.replicate 48 0 := rfl
theorem treeZ_vc {ρ : Val} {bs : List Int} {ob : List (Nat × SO)} {cells : List X} {need : X} {M : Nat → Nat} (hfn : ρ.fn = fnL bs) (i : In ρ) : LT.vc RF (tF ob cells need) I0 mu0 Qb treeZ ρ M := by
  refine ⟨fun c => ?_, fun c => ?_⟩
  · simp only [eq, lit, X.dB_eq, eqB_t, X.den_lit] at c
    have hP := p_den hfn cells0
    rw [c, zeros_len] at hP
    have hD : sumH (List.replicate 48 (0 : Int)) * daX.den ρ = 0 := by
      rw [show sumH (List.replicate 48 (0 : Int)) = 0 from by decide, Int.zero_mul]
    rw [hD] at hP
    refine loop_vc i id (fun w M h8 h1 hM => ?_)
    have ha := mix_agree (ρ := ρ) (ids := [7]) (w := w)
    have eli : liX.den (ρ.mix [7] w) = liX.den ρ := X.den_free ha rfl
    refine ⟨fun d => ?_, fun _ => back_vc h8 h1 hM⟩
    exfalso
    simp only [le, lit, v, X.dB_le, leB_t, X.den_lit, X.den_mul, X.den_var, eli] at d
    have := de_in i
    exact none_does h1 h8 this.2 hP ⟨by have := Int.mul_nonneg (show 0 ≤ (ρ.mix [7] w).v 7 by omega) (show 0 ≤ deX.den ρ by omega); omega, d⟩
  · simp only [eq, lit, X.dB_eq, eqB_f, X.den_lit] at c
    refine rest_vc hfn i (by rw [zeros_len]; rfl) (fun k => ?_) c
    rw [zeros_len]
    have : ∀ n : Nat, (List.replicate 48 (0 : Int)).getD n 0 = 0 := fun n => by
      rw [List.getD_eq_getElem?_getD, List.getElem?_replicate]; split <;> rfl
    simp only [U, this]; rfl
/-! Rows of bytes. -/
theorem b_in {ρ : Val} {bs : List Int} (hb : Byte bs) (hfn : ρ.fn = fnL bs) (h : Nat) : 0 ≤ (bX h).den ρ ∧ (bX h).den ρ ≤ 255 := by
  simp only [bX, X.den_app, hfn]; exact hb _
theorem lo_hi {ρ : Val} {b : X} (h : 0 ≤ b.den ρ ∧ b.den ρ ≤ 255) : 0 ≤ (loB b).den ρ ∧ (loB b).den ρ ≤ (hiB b).den ρ ∧ (hiB b).den ρ ≤ 5 := by
  simp only [loB, hiB, lit, X.den_rem, X.den_add, X.den_quo, X.den_lit]
  rw [tm_emod h.1, Int.tdiv_eq_ediv_of_nonneg h.1, tm_emod (Int.ediv_nonneg h.1 (by omega))]
  omega
theorem treeR_vc {ρ : Val} {bs : List Int} {ob : List (Nat × SO)} {cells : List X} {need : X} {M : Nat → Nat} (hb : Byte bs) (hfn : ρ.fn = fnL bs) (i : In ρ) (h5 : 0 < ρ.v 5) : LT.vc RF (tF ob cells need) I0 mu0 Qb treeR ρ M := by
  have hi : ∀ h, 0 ≤ (loB (bX h)).den ρ ∧ (loB (bX h)).den ρ ≤ (hiB (bX h)).den ρ ∧ (hiB (bX h)).den ρ ≤ 5 := fun h => lo_hi (b_in hb hfn h)
  have hx : ∀ (t : Sx.LT SV) (r : Nat), LT.vc RF (tF ob cells need) I0 mu0 Qb t ρ M → LT.vc RF (tF ob cells need) I0 mu0 Qb (ixT t r) ρ M := fun t r h => by
    induction r with
    | zero => exact h
    | succ r ih =>
      refine ⟨⟨?_, ?_, trivial⟩, ih⟩
      · simp only [le, lit, v, X.dB_le, leB_t, X.den_lit, X.den_rem, X.den_var]
        exact Int.tmod_nonneg _ (by omega)
      · simp only [lt, lit, v, X.dB_lt, ltB_t, X.den_lit, X.den_rem, X.den_var]
        exact Int.tmod_lt_of_pos _ h5
  have hall : ∀ l : List Nat, AllB ρ (l.map fun h => le (loB (bX h)) (hiB (bX h))) := fun l => by
    induction l with
    | nil => trivial
    | cons h l ih => exact ⟨by simp only [le, X.dB_le, leB_t]; exact (hi h).2.1, ih⟩
  refine hx _ 24 ⟨hall _, ?_⟩
  have hlen : (cellsR.map (X.den ρ)).length = 48 := rfl
  have hU : ∀ k, Dw.okH (U (cellsR.map (X.den ρ)) k) = true := okU hlen (fun j hj => match j, hj with
    | 0, _ => Dw.okH_iff.2 ⟨(hi 0).1, (hi 0).2.1, Int.le_trans (hi 0).2.2 (by decide)⟩
    | 1, _ => Dw.okH_iff.2 ⟨(hi 1).1, (hi 1).2.1, Int.le_trans (hi 1).2.2 (by decide)⟩
    | 2, _ => Dw.okH_iff.2 ⟨(hi 2).1, (hi 2).2.1, Int.le_trans (hi 2).2.2 (by decide)⟩
    | 3, _ => Dw.okH_iff.2 ⟨(hi 3).1, (hi 3).2.1, Int.le_trans (hi 3).2.2 (by decide)⟩
    | 4, _ => Dw.okH_iff.2 ⟨(hi 4).1, (hi 4).2.1, Int.le_trans (hi 4).2.2 (by decide)⟩
    | 5, _ => Dw.okH_iff.2 ⟨(hi 5).1, (hi 5).2.1, Int.le_trans (hi 5).2.2 (by decide)⟩
    | 6, _ => Dw.okH_iff.2 ⟨(hi 6).1, (hi 6).2.1, Int.le_trans (hi 6).2.2 (by decide)⟩
    | 7, _ => Dw.okH_iff.2 ⟨(hi 7).1, (hi 7).2.1, Int.le_trans (hi 7).2.2 (by decide)⟩
    | 8, _ => Dw.okH_iff.2 ⟨(hi 8).1, (hi 8).2.1, Int.le_trans (hi 8).2.2 (by decide)⟩
    | 9, _ => Dw.okH_iff.2 ⟨(hi 9).1, (hi 9).2.1, Int.le_trans (hi 9).2.2 (by decide)⟩
    | 10, _ => Dw.okH_iff.2 ⟨(hi 10).1, (hi 10).2.1, Int.le_trans (hi 10).2.2 (by decide)⟩
    | 11, _ => Dw.okH_iff.2 ⟨(hi 11).1, (hi 11).2.1, Int.le_trans (hi 11).2.2 (by decide)⟩
    | 12, _ => Dw.okH_iff.2 ⟨(hi 12).1, (hi 12).2.1, Int.le_trans (hi 12).2.2 (by decide)⟩
    | 13, _ => Dw.okH_iff.2 ⟨(hi 13).1, (hi 13).2.1, Int.le_trans (hi 13).2.2 (by decide)⟩
    | 14, _ => Dw.okH_iff.2 ⟨(hi 14).1, (hi 14).2.1, Int.le_trans (hi 14).2.2 (by decide)⟩
    | 15, _ => Dw.okH_iff.2 ⟨(hi 15).1, (hi 15).2.1, Int.le_trans (hi 15).2.2 (by decide)⟩
    | 16, _ => Dw.okH_iff.2 ⟨(hi 16).1, (hi 16).2.1, Int.le_trans (hi 16).2.2 (by decide)⟩
    | 17, _ => Dw.okH_iff.2 ⟨(hi 17).1, (hi 17).2.1, Int.le_trans (hi 17).2.2 (by decide)⟩
    | 18, _ => Dw.okH_iff.2 ⟨(hi 18).1, (hi 18).2.1, Int.le_trans (hi 18).2.2 (by decide)⟩
    | 19, _ => Dw.okH_iff.2 ⟨(hi 19).1, (hi 19).2.1, Int.le_trans (hi 19).2.2 (by decide)⟩
    | 20, _ => Dw.okH_iff.2 ⟨(hi 20).1, (hi 20).2.1, Int.le_trans (hi 20).2.2 (by decide)⟩
    | 21, _ => Dw.okH_iff.2 ⟨(hi 21).1, (hi 21).2.1, Int.le_trans (hi 21).2.2 (by decide)⟩
    | 22, _ => Dw.okH_iff.2 ⟨(hi 22).1, (hi 22).2.1, Int.le_trans (hi 22).2.2 (by decide)⟩
    | 23, _ => Dw.okH_iff.2 ⟨(hi 23).1, (hi 23).2.1, Int.le_trans (hi 23).2.2 (by decide)⟩
    | j + 24, h => absurd h (by omega)  )
  have hsum : needR.den ρ = sumH (cellsR.map (X.den ρ)) := by
    have e : needR.den ρ = ((((((((((((((((((((((((hiB (bX 0)).den ρ + (hiB (bX 1)).den ρ) + (hiB (bX 2)).den ρ) + (hiB (bX 3)).den ρ) + (hiB (bX 4)).den ρ) + (hiB (bX 5)).den ρ) + (hiB (bX 6)).den ρ) + (hiB (bX 7)).den ρ) + (hiB (bX 8)).den ρ) + (hiB (bX 9)).den ρ) + (hiB (bX 10)).den ρ) + (hiB (bX 11)).den ρ) + (hiB (bX 12)).den ρ) + (hiB (bX 13)).den ρ) + (hiB (bX 14)).den ρ) + (hiB (bX 15)).den ρ) + (hiB (bX 16)).den ρ) + (hiB (bX 17)).den ρ) + (hiB (bX 18)).den ρ) + (hiB (bX 19)).den ρ) + (hiB (bX 20)).den ρ) + (hiB (bX 21)).den ρ) + (hiB (bX 22)).den ρ) + (hiB (bX 23)).den ρ) := rfl
    have e2 : sumH (cellsR.map (X.den ρ)) = ((hiB (bX 0)).den ρ + ((hiB (bX 1)).den ρ + ((hiB (bX 2)).den ρ + ((hiB (bX 3)).den ρ + ((hiB (bX 4)).den ρ + ((hiB (bX 5)).den ρ + ((hiB (bX 6)).den ρ + ((hiB (bX 7)).den ρ + ((hiB (bX 8)).den ρ + ((hiB (bX 9)).den ρ + ((hiB (bX 10)).den ρ + ((hiB (bX 11)).den ρ + ((hiB (bX 12)).den ρ + ((hiB (bX 13)).den ρ + ((hiB (bX 14)).den ρ + ((hiB (bX 15)).den ρ + ((hiB (bX 16)).den ρ + ((hiB (bX 17)).den ρ + ((hiB (bX 18)).den ρ + ((hiB (bX 19)).den ρ + ((hiB (bX 20)).den ρ + ((hiB (bX 21)).den ρ + ((hiB (bX 22)).den ρ + ((hiB (bX 23)).den ρ + 0)))))))))))))))))))))))) := rfl
    rw [e, e2]; omega
  refine ⟨fun c => ?_, fun c => ?_⟩
  · simp only [eq, lit, X.dB_eq, eqB_t, X.den_lit] at c
    have hP := p_den hfn cellsR
    rw [c] at hP
    refine loop_vc i wrapR (fun w M h8 h1 hM => ?_)
    have ha := mix_agree (ρ := ρ) (ids := [7]) (w := w)
    have eli : liX.den (ρ.mix [7] w) = liX.den ρ := X.den_free ha rfl
    have ene : needR.den (ρ.mix [7] w) = needR.den ρ := X.den_free ha rfl
    have eda : daX.den (ρ.mix [7] w) = daX.den ρ := X.den_free ha rfl
    have ede : deX.den (ρ.mix [7] w) = deX.den ρ := X.den_free ha rfl
    refine ⟨fun e => ⟨fun d => ?_, fun _ => back_vc h8 h1 hM⟩, fun _ => back_vc h8 h1 hM⟩
    exfalso
    simp only [le, lit, v, X.dB_le, leB_t, X.den_lit, X.den_mul, X.den_var, eli] at d
    simp only [le, v, X.dB_le, leB_t, X.den_mul, X.den_var, ene, eda, ede, hsum] at e
    exact none_does h1 h8 (de_in i).2 hP ⟨e, d⟩
  · simp only [eq, lit, X.dB_eq, eqB_f, X.den_lit] at c
    exact rest_vc hfn i hlen hU c
/-! A run of the law. -/
def RunIs (tps : List Tpl) (fs : List X) (args : List SV) (ob : List (Nat × SO)) (T : Sx.LT SV) : Prop := ((exL Try.prog RF (ksOf RF lawPs) tps 3 (max Try.f4.ntmps args.length) none 900 fs (.go (codeP Try.prog g6) 0 ⟨ofArgsS args 0 .nil, [], ⟨tplT ob, [], 0⟩, 3⟩ [])).bindO (endO Try.prog RF Try.f4.results.toList)).map (·.1) = T
end Dl
end Go.Proofs.Ytaimphcjjoennaa
