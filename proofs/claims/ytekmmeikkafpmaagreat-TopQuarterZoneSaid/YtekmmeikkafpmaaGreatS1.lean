/- Expressions with unknowns: what they stand for, between which integers they lie, which way a question goes. -/
import Derived.Test.YtekmmeikkafpmaaGreatC5
import Derived.Laws.Closers25b
set_option linter.unusedSimpArgs false
set_option linter.unusedVariables false
namespace Go.Proofs.YtekmmeikkafpmaaGreat
namespace Abs
namespace Sx

inductive Bo where
  | add | sub | mul | quo | rem | max | min | lt | le | eq | and | or
inductive X where
  | lit (n : Int)
  | var (i : Nat)
  | bin (o : Bo) (a b : X)
  | not (a : X)
  | ite (c a b : X)
  | wrap (k : IntKind) (a : X)
  | app (f : Nat) (a : X)
  | nil
  | cons (a b : X)
structure Val where
  v : Nat → Int
  fn : Nat → List Int → Int

def b2i (b : Bool) : Int := cond b 1 0
def i2b (n : Int) : Bool := decide (n = 1)
@[simp] theorem i2b_b2i (b : Bool) : i2b (b2i b) = b := by cases b <;> rfl
def Bo.ev : Bo → Int → Int → Int
  | .add, a, b => a + b
  | .sub, a, b => a - b
  | .mul, a, b => a * b
  | .quo, a, b => a.tdiv b
  | .rem, a, b => a.tmod b
  | .max, a, b => if b > a then b else a
  | .min, a, b => if b < a then b else a
  | .lt, a, b => b2i (decide (a < b))
  | .le, a, b => b2i (decide (a ≤ b))
  | .eq, a, b => b2i (a == b)
  | .and, a, b => b2i (i2b a && i2b b)
  | .or, a, b => b2i (i2b a || i2b b)
def hdI : List Int → Int
  | [] => 0
  | a :: _ => a
def X.sem (ρ : Val) : X → List Int
  | .lit n => [n]
  | .var i => [ρ.v i]
  | .bin o a b => [o.ev (hdI (X.sem ρ a)) (hdI (X.sem ρ b))]
  | .not a => [b2i (!(i2b (hdI (X.sem ρ a))))]
  | .ite c a b => [cond (i2b (hdI (X.sem ρ c))) (hdI (X.sem ρ a)) (hdI (X.sem ρ b))]
  | .wrap k a => [k.wrap (hdI (X.sem ρ a))]
  | .app f a => [ρ.fn f (X.sem ρ a)]
  | .nil => []
  | .cons a b => hdI (X.sem ρ a) :: X.sem ρ b
def X.den (ρ : Val) (x : X) : Int := hdI (x.sem ρ)
def X.denB (ρ : Val) (x : X) : Bool := i2b (x.den ρ)
section
variable (ρ : Val)
@[simp] theorem X.sem_nil : X.sem ρ .nil = [] := rfl
@[simp] theorem X.sem_cons (a b : X) : X.sem ρ (.cons a b) = a.den ρ :: b.sem ρ := rfl
@[simp] theorem X.den_lit (n : Int) : X.den ρ (.lit n) = n := rfl
@[simp] theorem X.den_var (i : Nat) : X.den ρ (.var i) = ρ.v i := rfl
@[simp] theorem X.den_app (f : Nat) (a : X) : X.den ρ (.app f a) = ρ.fn f (a.sem ρ) := rfl
@[simp] theorem X.den_wrap (k : IntKind) (a : X) : X.den ρ (.wrap k a) = k.wrap (a.den ρ) := rfl
@[simp] theorem X.den_ite (c a b : X) : X.den ρ (.ite c a b) = cond (c.denB ρ) (a.den ρ) (b.den ρ) := rfl
theorem X.den_bin (o : Bo) (a b : X) : X.den ρ (.bin o a b) = o.ev (a.den ρ) (b.den ρ) := rfl
@[simp] theorem X.den_add (a b : X) : X.den ρ (.bin .add a b) = a.den ρ + b.den ρ := rfl
@[simp] theorem X.den_sub (a b : X) : X.den ρ (.bin .sub a b) = a.den ρ - b.den ρ := rfl
@[simp] theorem X.den_mul (a b : X) : X.den ρ (.bin .mul a b) = a.den ρ * b.den ρ := rfl
@[simp] theorem X.den_quo (a b : X) : X.den ρ (.bin .quo a b) = (a.den ρ).tdiv (b.den ρ) := rfl
@[simp] theorem X.den_rem (a b : X) : X.den ρ (.bin .rem a b) = (a.den ρ).tmod (b.den ρ) := rfl
@[simp] theorem X.den_max (a b : X) : X.den ρ (.bin .max a b) = max (a.den ρ) (b.den ρ) := by
  simp only [X.den_bin, Bo.ev]; split <;> omega
@[simp] theorem X.den_min (a b : X) : X.den ρ (.bin .min a b) = min (a.den ρ) (b.den ρ) := by
  simp only [X.den_bin, Bo.ev]; split <;> omega
@[simp] theorem X.denB_lt (a b : X) : X.denB ρ (.bin .lt a b) = decide (a.den ρ < b.den ρ) := i2b_b2i _
@[simp] theorem X.denB_le (a b : X) : X.denB ρ (.bin .le a b) = decide (a.den ρ ≤ b.den ρ) := i2b_b2i _
@[simp] theorem X.denB_eq (a b : X) : X.denB ρ (.bin .eq a b) = (a.den ρ == b.den ρ) := i2b_b2i _
@[simp] theorem X.denB_and (a b : X) : X.denB ρ (.bin .and a b) = (a.denB ρ && b.denB ρ) := i2b_b2i _
@[simp] theorem X.denB_or (a b : X) : X.denB ρ (.bin .or a b) = (a.denB ρ || b.denB ρ) := i2b_b2i _
@[simp] theorem X.denB_not (a : X) : X.denB ρ (.not a) = !(a.denB ρ) := i2b_b2i _
@[simp] theorem X.denB_app (f : Nat) (a : X) : X.denB ρ (.app f a) = i2b (ρ.fn f (a.sem ρ)) := rfl
@[simp] theorem X.denB_var (i : Nat) : X.denB ρ (.var i) = i2b (ρ.v i) := rfl
@[simp] theorem X.denB_lit1 : X.denB ρ (.lit 1) = true := rfl
@[simp] theorem X.denB_lit0 : X.denB ρ (.lit 0) = false := rfl
end

def Bo.beq : Bo → Bo → Bool
  | .add, .add | .sub, .sub | .mul, .mul | .quo, .quo | .rem, .rem | .max, .max | .min, .min | .lt, .lt | .le, .le | .eq, .eq | .and, .and | .or, .or => true
  | _, _ => false
theorem Bo.beq_eq {a b : Bo} (h : a.beq b = true) : a = b := by cases a <;> cases b <;> first | rfl | cases h
def ikBeq : IntKind → IntKind → Bool
  | .i8, .i8 | .i16, .i16 | .i32, .i32 | .i64, .i64 | .u8, .u8 | .u16, .u16 | .u32, .u32 | .u64, .u64 => true
  | _, _ => false
theorem ikBeq_eq {a b : IntKind} (h : ikBeq a b = true) : a = b := by cases a <;> cases b <;> first | rfl | cases h
def intBeq : Int → Int → Bool
  | .ofNat a, .ofNat b => Nat.beq a b
  | .negSucc a, .negSucc b => Nat.beq a b
  | _, _ => false
theorem intBeq_eq {a b : Int} (h : intBeq a b = true) : a = b := by
  cases a <;> cases b <;> first | (cases h; done) | (simp only [intBeq, Nat.beq_eq] at h; rw [h])
def X.beq : X → X → Bool
  | .lit a, .lit b => intBeq a b
  | .var a, .var b => Nat.beq a b
  | .bin o a b, .bin p c d => cond (Bo.beq o p) (cond (X.beq a c) (X.beq b d) false) false
  | .not a, .not b => X.beq a b
  | .ite a b c, .ite d e f => cond (X.beq a d) (cond (X.beq b e) (X.beq c f) false) false
  | .wrap k a, .wrap l b => cond (ikBeq k l) (X.beq a b) false
  | .app f a, .app g b => cond (Nat.beq f g) (X.beq a b) false
  | .nil, .nil => true
  | .cons a b, .cons c d => cond (X.beq a c) (X.beq b d) false
  | _, _ => false
theorem cond_true_false {a b : Bool} (h : cond a b false = true) : a = true ∧ b = true := by cases a <;> simp_all
theorem X.beq_eq : ∀ {a b : X}, a.beq b = true → a = b := by
  intro a
  induction a with
  | lit n => intro b h; cases b <;> first | (cases h; done) | (simp only [X.beq] at h; rw [intBeq_eq h])
  | var n => intro b h; cases b <;> first | (cases h; done) | (simp only [X.beq, Nat.beq_eq] at h; rw [h])
  | bin o x y ih1 ih2 =>
    intro b h; cases b <;> first | (cases h; done) | skip
    obtain ⟨h1, h2⟩ := cond_true_false h
    obtain ⟨h2, h3⟩ := cond_true_false h2
    rw [Bo.beq_eq h1, ih1 h2, ih2 h3]
  | not x ih => intro b h; cases b <;> first | (cases h; done) | (rw [ih h])
  | ite x y z ih1 ih2 ih3 =>
    intro b h; cases b <;> first | (cases h; done) | skip
    obtain ⟨h1, h2⟩ := cond_true_false h
    obtain ⟨h2, h3⟩ := cond_true_false h2
    rw [ih1 h1, ih2 h2, ih3 h3]
  | wrap k x ih =>
    intro b h; cases b <;> first | (cases h; done) | skip
    obtain ⟨h1, h2⟩ := cond_true_false h
    rw [ikBeq_eq h1, ih h2]
  | app f x ih =>
    intro b h; cases b <;> first | (cases h; done) | skip
    obtain ⟨h1, h2⟩ := cond_true_false h
    rw [Nat.beq_eq.mp h1, ih h2]
  | nil => intro b h; cases b <;> first | rfl | cases h
  | cons x y ih1 ih2 =>
    intro b h; cases b <;> first | (cases h; done) | skip
    obtain ⟨h1, h2⟩ := cond_true_false h
    rw [ih1 h1, ih2 h2]

structure Rgs where
  vr : List (Option (Int × Int))
  fr : List (Option (Int × Int))
def nthR : List (Option (Int × Int)) → Nat → Option (Int × Int)
  | [], _ => none
  | a :: _, 0 => a
  | _ :: l, n + 1 => nthR l n
def inR (n : Int) : Option (Int × Int) → Prop
  | none => True
  | some (a, b) => a ≤ n ∧ n ≤ b
structure Rgs.ok (R : Rgs) (ρ : Val) : Prop where
  v : ∀ i, inR (ρ.v i) (nthR R.vr i)
  f : ∀ i l, inR (ρ.fn i l) (nthR R.fr i)
def Fcs (ρ : Val) (fs : List X) : Prop := ∀ x ∈ fs, x.denB ρ = true
def meetLo (a : Int) : Option (Int × Int) → Option (Int × Int)
  | some (c, d) => cond (decide (c < a)) (some (a, d)) (some (c, d))
  | none => none
def meetHi (b : Int) : Option (Int × Int) → Option (Int × Int)
  | some (c, d) => cond (decide (b < d)) (some (c, b)) (some (c, d))
  | none => none
def awayR (b : Int) : Option (Int × Int) → Option (Int × Int)
  | some (c, d) => some (cond (intBeq c b) (c + 1) c, cond (intBeq d b) (d - 1) d)
  | none => none
def refine1 (x : X) (f : X) (r : Option (Int × Int)) : Option (Int × Int) := match f with
  | .bin .lt (.lit a) y => cond (X.beq x y) (meetLo (a + 1) r) r
  | .bin .le (.lit a) y => cond (X.beq x y) (meetLo a r) r
  | .bin .lt y (.lit b) => cond (X.beq x y) (meetHi (b - 1) r) r
  | .bin .le y (.lit b) => cond (X.beq x y) (meetHi b r) r
  | .bin .eq y (.lit b) => cond (X.beq x y) (some (b, b)) r
  | .not (.bin .eq y (.lit b)) => cond (X.beq x y) (awayR b r) r
  | _ => r
def refineF (x : X) : List X → Option (Int × Int) → Option (Int × Int)
  | [], r => r
  | f :: fs, r => refineF x fs (refine1 x f r)
def lo1 (x : X) (f : X) : Option Int := match f with
  | .bin .lt (.lit a) y => cond (X.beq x y) (some (a + 1)) none
  | .bin .le (.lit a) y => cond (X.beq x y) (some a) none
  | .bin .eq y (.lit b) => cond (X.beq x y) (some b) none
  | _ => none
def hi1 (x : X) (f : X) : Option Int := match f with
  | .bin .lt y (.lit b) => cond (X.beq x y) (some (b - 1)) none
  | .bin .le y (.lit b) => cond (X.beq x y) (some b) none
  | .bin .eq y (.lit b) => cond (X.beq x y) (some b) none
  | _ => none
def loF (x : X) : List X → Option Int
  | [] => none
  | f :: fs => match lo1 x f with
    | some a => some a
    | none => loF x fs
def hiF (x : X) : List X → Option Int
  | [] => none
  | f :: fs => match hi1 x f with
    | some a => some a
    | none => hiF x fs
def refineL (x : X) (fs : List X) (r : Option (Int × Int)) : Option (Int × Int) := match r with
  | some r => refineF x fs (some r)
  | none => match loF x fs, hiF x fs with
    | some a, some b => refineF x fs (some (a, b))
    | _, _ => none
def big : Int × Int := (-9223372036854775808, 9223372036854775807)
theorem meetLo_ok {n a : Int} {r : Option (Int × Int)} (h : a ≤ n) (k : inR n r) : inR n (meetLo a r) := by
  cases r with
  | none => trivial
  | some p => obtain ⟨c, d⟩ := p; simp only [meetLo, Bool.cond_eq_ite]; simp only [inR] at k; split <;> simp only [inR] <;> omega
theorem meetHi_ok {n b : Int} {r : Option (Int × Int)} (h : n ≤ b) (k : inR n r) : inR n (meetHi b r) := by
  cases r with
  | none => trivial
  | some p => obtain ⟨c, d⟩ := p; simp only [meetHi, Bool.cond_eq_ite]; simp only [inR] at k; split <;> simp only [inR] <;> omega
theorem awayR_ok {n b : Int} {r : Option (Int × Int)} (h : n ≠ b) (k : inR n r) : inR n (awayR b r) := by
  cases r with
  | none => trivial
  | some p =>
    obtain ⟨c, d⟩ := p
    simp only [awayR, Bool.cond_eq_ite, inR] at k ⊢
    constructor
    · split
      · rename_i e; have := intBeq_eq e; omega
      · omega
    · split
      · rename_i e; have := intBeq_eq e; omega
      · omega
theorem refine1_ok {ρ : Val} {x f : X} {r : Option (Int × Int)} (hf : f.denB ρ = true) (k : inR (x.den ρ) r) : inR (x.den ρ) (refine1 x f r) := by
  have cnd : ∀ {y : X} {r' : Option (Int × Int)}, (y = x → inR (x.den ρ) r') → inR (x.den ρ) (cond (X.beq x y) r' r) := by
    intro y r' h
    cases hb : X.beq x y with
    | false => exact k
    | true => exact h (X.beq_eq hb).symm
  unfold refine1
  revert hf
  split <;> intro hf
  · refine cnd (fun e => ?_); rw [X.denB_lt, decide_eq_true_eq, e, X.den_lit] at hf; exact meetLo_ok (by omega) k
  · refine cnd (fun e => ?_); rw [X.denB_le, decide_eq_true_eq, e, X.den_lit] at hf; exact meetLo_ok (by omega) k
  · refine cnd (fun e => ?_); rw [X.denB_lt, decide_eq_true_eq, e, X.den_lit] at hf; exact meetHi_ok (by omega) k
  · refine cnd (fun e => ?_); rw [X.denB_le, decide_eq_true_eq, e, X.den_lit] at hf; exact meetHi_ok (by omega) k
  · refine cnd (fun e => ?_); rw [X.denB_eq, e, X.den_lit, beq_iff_eq] at hf; simp only [inR]; omega
  · refine cnd (fun e => ?_); rw [X.denB_not, X.denB_eq, e, X.den_lit] at hf; exact awayR_ok (by simpa using hf) k
  · exact k
theorem refineF_ok {ρ : Val} {x : X} : ∀ {fs : List X} {r : Option (Int × Int)}, Fcs ρ fs → inR (x.den ρ) r → inR (x.den ρ) (refineF x fs r)
  | [], _, _, k => k
  | f :: fs, r, h, k => refineF_ok (fs := fs) (fun y hy => h y (List.mem_cons_of_mem _ hy)) (refine1_ok (h f List.mem_cons_self) k)
theorem cond_some {b : Bool} {a c : Int} (h : cond b (some a) none = some c) : b = true ∧ a = c := by cases b <;> simp_all
theorem lo1_ok {ρ : Val} {x f : X} {a : Int} (hf : f.denB ρ = true) (h : lo1 x f = some a) : a ≤ x.den ρ := by
  unfold lo1 at h
  revert hf
  split at h <;> intro hf
  · obtain ⟨e, rfl⟩ := cond_some h; rw [X.denB_lt, decide_eq_true_eq, ← X.beq_eq e, X.den_lit] at hf; omega
  · obtain ⟨e, rfl⟩ := cond_some h; rw [X.denB_le, decide_eq_true_eq, ← X.beq_eq e, X.den_lit] at hf; omega
  · obtain ⟨e, rfl⟩ := cond_some h; rw [X.denB_eq, ← X.beq_eq e, X.den_lit, beq_iff_eq] at hf; omega
  · cases h
theorem hi1_ok {ρ : Val} {x f : X} {a : Int} (hf : f.denB ρ = true) (h : hi1 x f = some a) : x.den ρ ≤ a := by
  unfold hi1 at h
  revert hf
  split at h <;> intro hf
  · obtain ⟨e, rfl⟩ := cond_some h; rw [X.denB_lt, decide_eq_true_eq, ← X.beq_eq e, X.den_lit] at hf; omega
  · obtain ⟨e, rfl⟩ := cond_some h; rw [X.denB_le, decide_eq_true_eq, ← X.beq_eq e, X.den_lit] at hf; omega
  · obtain ⟨e, rfl⟩ := cond_some h; rw [X.denB_eq, ← X.beq_eq e, X.den_lit, beq_iff_eq] at hf; omega
  · cases h
theorem loF_ok {ρ : Val} {x : X} {a : Int} : ∀ {fs : List X}, Fcs ρ fs → loF x fs = some a → a ≤ x.den ρ
  | [], _, h => by cases h
  | f :: fs, hf, h => by
    simp only [loF] at h
    split at h
    · rename_i e; cases h; exact lo1_ok (hf f List.mem_cons_self) e
    · exact loF_ok (fun y hy => hf y (List.mem_cons_of_mem _ hy)) h
theorem hiF_ok {ρ : Val} {x : X} {a : Int} : ∀ {fs : List X}, Fcs ρ fs → hiF x fs = some a → x.den ρ ≤ a
  | [], _, h => by cases h
  | f :: fs, hf, h => by
    simp only [hiF] at h
    split at h
    · rename_i e; cases h; exact hi1_ok (hf f List.mem_cons_self) e
    · exact hiF_ok (fun y hy => hf y (List.mem_cons_of_mem _ hy)) h
theorem refineL_ok {ρ : Val} {x : X} {fs : List X} {r : Option (Int × Int)} (h : Fcs ρ fs) (k : inR (x.den ρ) r) : inR (x.den ρ) (refineL x fs r) := by
  unfold refineL
  split
  · exact refineF_ok h k
  · split
    · rename_i e1 e2
      exact refineF_ok h ⟨loF_ok h e1, hiF_ok h e2⟩
    · trivial
def min2 (a b : Int) : Int := cond (decide (a ≤ b)) a b
def max2 (a b : Int) : Int := cond (decide (a ≤ b)) b a
theorem min2_le_l (a b : Int) : min2 a b ≤ a := by simp only [min2, Bool.cond_eq_ite, decide_eq_true_eq]; split <;> omega
theorem min2_le_r (a b : Int) : min2 a b ≤ b := by simp only [min2, Bool.cond_eq_ite, decide_eq_true_eq]; split <;> omega
theorem max2_ge_l (a b : Int) : a ≤ max2 a b := by simp only [max2, Bool.cond_eq_ite, decide_eq_true_eq]; split <;> omega
theorem max2_ge_r (a b : Int) : b ≤ max2 a b := by simp only [max2, Bool.cond_eq_ite, decide_eq_true_eq]; split <;> omega
def rbin : Bo → Option (Int × Int) → Option (Int × Int) → Option (Int × Int)
  | .add, some (a, b), some (c, d) => some (a + c, b + d)
  | .sub, some (a, b), some (c, d) => some (a - d, b - c)
  | .mul, some (a, b), some (c, d) => some (min2 (min2 (a * c) (a * d)) (min2 (b * c) (b * d)), max2 (max2 (a * c) (a * d)) (max2 (b * c) (b * d)))
  | .quo, some (a, b), some (c, _) => cond (decide (1 ≤ c)) (some (min2 a 0, max2 b 0)) none
  | .rem, some (a, b), some (c, d) => cond (decide (1 ≤ c)) (some (cond (decide (0 ≤ a)) 0 (1 - d), max2 0 (min2 b (d - 1)))) none
  | .rem, none, some (c, d) => cond (decide (1 ≤ c)) (some (1 - d, d - 1)) none
  | .max, some (a, b), some (c, d) => some (max2 a c, max2 b d)
  | .min, some (a, b), some (c, d) => some (min2 a c, min2 b d)
  | .lt, _, _ => some (0, 1)
  | .le, _, _ => some (0, 1)
  | .eq, _, _ => some (0, 1)
  | .and, _, _ => some (0, 1)
  | .or, _, _ => some (0, 1)
  | _, _, _ => none
theorem b2i_in (b : Bool) : 0 ≤ b2i b ∧ b2i b ≤ 1 := by cases b <;> simp [b2i]
theorem mul_between {x y c d : Int} (h1 : c ≤ y) (h2 : y ≤ d) : min2 (x * c) (x * d) ≤ x * y ∧ x * y ≤ max2 (x * c) (x * d) := by
  rcases Int.le_total 0 x with h | h
  · have e1 := Int.mul_le_mul_of_nonneg_left h1 h
    have e2 := Int.mul_le_mul_of_nonneg_left h2 h
    exact ⟨Int.le_trans (min2_le_l _ _) e1, Int.le_trans e2 (max2_ge_r _ _)⟩
  · have e1 := Int.mul_le_mul_of_nonpos_left h h1
    have e2 := Int.mul_le_mul_of_nonpos_left h h2
    exact ⟨Int.le_trans (min2_le_r _ _) e2, Int.le_trans e1 (max2_ge_l _ _)⟩
theorem min2_mono {a b c d : Int} (h1 : a ≤ c) (h2 : b ≤ d) : min2 a b ≤ min2 c d := by
  simp only [min2, Bool.cond_eq_ite, decide_eq_true_eq]; split <;> split <;> omega
theorem max2_mono {a b c d : Int} (h1 : a ≤ c) (h2 : b ≤ d) : max2 a b ≤ max2 c d := by
  simp only [max2, Bool.cond_eq_ite, decide_eq_true_eq]; split <;> split <;> omega
theorem rbin_ok {o : Bo} {x y : Int} {r s : Option (Int × Int)} (h : inR x r) (k : inR y s) : inR (o.ev x y) (rbin o r s) := by
  cases o
  case add => cases r <;> cases s <;> first | trivial | (simp only [inR, rbin, Bo.ev] at *; omega)
  case sub => cases r <;> cases s <;> first | trivial | (simp only [inR, rbin, Bo.ev] at *; omega)
  case mul =>
    cases r <;> cases s <;> first | trivial | skip
    rename_i p q
    obtain ⟨a, b⟩ := p
    obtain ⟨c, d⟩ := q
    simp only [inR, rbin, Bo.ev] at *
    obtain ⟨e1, e2⟩ := mul_between (x := x) k.1 k.2
    obtain ⟨f1, f2⟩ := mul_between (x := c) h.1 h.2
    obtain ⟨g1, g2⟩ := mul_between (x := d) h.1 h.2
    simp only [Int.mul_comm c, Int.mul_comm d] at f1 f2 g1 g2
    constructor
    · have : min2 (min2 (a * c) (a * d)) (min2 (b * c) (b * d)) ≤ min2 (x * c) (x * d) := by
        have h1 : min2 (min2 (a * c) (a * d)) (min2 (b * c) (b * d)) ≤ x * c := by
          refine Int.le_trans ?_ f1
          exact min2_mono (min2_le_l _ _) (min2_le_l _ _)
        have h2 : min2 (min2 (a * c) (a * d)) (min2 (b * c) (b * d)) ≤ x * d := by
          refine Int.le_trans ?_ g1
          exact min2_mono (min2_le_r _ _) (min2_le_r _ _)
        generalize min2 (min2 (a * c) (a * d)) (min2 (b * c) (b * d)) = t at h1 h2
        simp only [min2, Bool.cond_eq_ite]; split <;> assumption
      omega
    · have : max2 (x * c) (x * d) ≤ max2 (max2 (a * c) (a * d)) (max2 (b * c) (b * d)) := by
        have h1 : x * c ≤ max2 (max2 (a * c) (a * d)) (max2 (b * c) (b * d)) := by
          refine Int.le_trans f2 ?_
          exact max2_mono (max2_ge_l _ _) (max2_ge_l _ _)
        have h2 : x * d ≤ max2 (max2 (a * c) (a * d)) (max2 (b * c) (b * d)) := by
          refine Int.le_trans g2 ?_
          exact max2_mono (max2_ge_r _ _) (max2_ge_r _ _)
        generalize max2 (max2 (a * c) (a * d)) (max2 (b * c) (b * d)) = t at h1 h2
        simp only [max2, Bool.cond_eq_ite]; split <;> assumption
      omega
  case quo =>
    cases r <;> cases s <;> first | trivial | skip
    rename_i p q
    obtain ⟨a, b⟩ := p
    obtain ⟨c, d⟩ := q
    simp only [rbin, Bo.ev, Bool.cond_eq_ite]
    by_cases hc : 1 ≤ c
    case neg => simp [hc, inR]
    simp only [inR] at h k
    simp only [hc, decide_true, if_true, inR]
    have hy : 0 < y := by omega
    have h1 : min2 a 0 ≤ x.tdiv y := by
      rcases Int.le_total 0 x with hx | hx
      · exact Int.le_trans (min2_le_r _ _) (Int.tdiv_nonneg hx (by omega))
      · refine Int.le_trans (min2_le_l _ _) (Int.le_trans h.1 ?_)
        have h2 : -(-x / y) = x.tdiv y := by rw [← Int.tdiv_eq_ediv_of_nonneg (by omega), Int.neg_tdiv, Int.neg_neg]
        have h3 : -x / y ≤ -x := Int.ediv_le_self _ (by omega)
        omega
    have h2 : x.tdiv y ≤ max2 b 0 := by
      rcases Int.le_total 0 x with hx | hx
      · refine Int.le_trans ?_ (Int.le_trans h.2 (max2_ge_l _ _))
        rw [Int.tdiv_eq_ediv_of_nonneg hx]
        exact Int.ediv_le_self _ hx
      · refine Int.le_trans ?_ (max2_ge_r _ _)
        have h2 : -(-x / y) = x.tdiv y := by rw [← Int.tdiv_eq_ediv_of_nonneg (by omega), Int.neg_tdiv, Int.neg_neg]
        have h3 : 0 ≤ -x / y := Int.ediv_nonneg (by omega) (by omega)
        omega
    exact ⟨h1, h2⟩
  case rem =>
    have key : ∀ {c d : Int}, c ≤ y → y ≤ d → 1 ≤ c → 1 - d ≤ x.tmod y ∧ x.tmod y ≤ d - 1 ∧ (0 ≤ x → 0 ≤ x.tmod y ∧ x.tmod y ≤ x) ∧ (x ≤ 0 → x.tmod y ≤ 0) := by
      intro c d h1 h2 h3
      have hy : 0 < y := by omega
      rcases Int.le_total 0 x with hx | hx
      · have e := Int.tmod_eq_emod_of_nonneg (b := y) hx
        have e1 := Int.emod_nonneg x (show y ≠ 0 by omega)
        have e2 := Int.emod_lt_of_pos x hy
        have e3 : x % y ≤ x := by
          have := Int.mul_ediv_add_emod x y
          have := Int.mul_nonneg (show 0 ≤ y by omega) (Int.ediv_nonneg hx (show 0 ≤ y by omega))
          omega
        rw [e]
        exact ⟨by omega, by omega, fun _ => ⟨e1, e3⟩, fun h => by have : x = 0 := by omega
                                                                  subst this; simp⟩
      · have e : x.tmod y = -((-x).tmod y) := by rw [Int.neg_tmod, Int.neg_neg]
        have e' := Int.tmod_eq_emod_of_nonneg (b := y) (show 0 ≤ -x by omega)
        have e1 := Int.emod_nonneg (-x) (show y ≠ 0 by omega)
        have e2 := Int.emod_lt_of_pos (-x) hy
        rw [e, e']
        exact ⟨by omega, by omega, fun h => by have : x = 0 := by omega
                                               subst this; simp, fun _ => by omega⟩
    cases s with
    | none => cases r <;> trivial
    | some q =>
      obtain ⟨c, d⟩ := q
      cases r with
      | none =>
        simp only [rbin, Bo.ev, Bool.cond_eq_ite]
        by_cases hc : 1 ≤ c
        case neg => simp [hc, inR]
        simp only [inR] at k
        simp only [hc, decide_true, if_true, inR]
        obtain ⟨e1, e2, _⟩ := key k.1 k.2 hc
        exact ⟨e1, e2⟩
      | some p =>
        obtain ⟨a, b⟩ := p
        simp only [rbin, Bo.ev, Bool.cond_eq_ite]
        by_cases hc : 1 ≤ c
        case neg => simp [hc, inR]
        simp only [inR] at h k
        simp only [hc, decide_true, if_true, inR]
        obtain ⟨e1, e2, e3, e4⟩ := key k.1 k.2 hc
        have := max2_ge_l 0 (min2 b (d - 1))
        have h5 := max2_ge_r 0 (min2 b (d - 1))
        constructor
        · split
          · rename_i ha; simp only [decide_eq_true_eq] at ha; exact (e3 (by omega)).1
          · exact e1
        · rcases Int.le_total 0 x with hx | hx
          · refine Int.le_trans ?_ h5
            simp only [min2, Bool.cond_eq_ite]
            split
            · have := (e3 hx).2; omega
            · exact e2
          · have := e4 hx; omega
  case max =>
    cases r <;> cases s <;> first | trivial | skip
    simp only [inR, rbin, Bo.ev, max2, Bool.cond_eq_ite, decide_eq_true_eq] at *
    constructor <;> (repeat' split) <;> omega
  case min =>
    cases r <;> cases s <;> first | trivial | skip
    simp only [inR, rbin, Bo.ev, min2, Bool.cond_eq_ite, decide_eq_true_eq] at *
    constructor <;> (repeat' split) <;> omega
  all_goals (simp only [rbin, Bo.ev]; exact b2i_in _)
def unionR : Option (Int × Int) → Option (Int × Int) → Option (Int × Int)
  | some (a, b), some (c, d) => some (min2 a c, max2 b d)
  | _, _ => none
def fN {α : Type} (n : Nat) (k : Nat → α) : α := match n with
  | 0 => k 0
  | m + 1 => k (Nat.succ m)
def fI {α : Type} (z : Int) (k : Int → α) : α := match z with
  | .ofNat n => fN n fun n => k (.ofNat n)
  | .negSucc n => fN n fun n => k (.negSucc n)
theorem fN_eq {α : Type} (n : Nat) (k : Nat → α) : fN n k = k n := by cases n <;> rfl
theorem fI_eq {α : Type} (z : Int) (k : Int → α) : fI z k = k z := by cases z <;> simp only [fI, fN_eq]
def rngF (r : Option (Int × Int)) : Option (Int × Int) := match r with
  | some (a, b) => fI a fun a => fI b fun b => some (a, b)
  | none => none
theorem rngF_eq (r : Option (Int × Int)) : rngF r = r := by
  match r with
  | some (a, b) => simp only [rngF, fI_eq]
  | none => rfl
def X.rng (R : Rgs) (fs : List X) : X → Option (Int × Int)
  | .lit n => some (n, n)
  | .var i => rngF (refineL (.var i) fs (nthR R.vr i))
  | .bin o a b => rngF (rbin o (X.rng R fs a) (X.rng R fs b))
  | .not _ => some (0, 1)
  | .ite _ a b => rngF (unionR (X.rng R fs a) (X.rng R fs b))
  | .wrap k _ => some (k.min, k.max)
  | .app f a => rngF (refineL (.app f a) fs (nthR R.fr f))
  | .nil => none
  | .cons _ _ => none
def X.rngT (R : Rgs) (fs : List X) (x : X) : Option (Int × Int) := match x with
  | .bin .add a b => rngF (refineL (.bin .add a b) fs (rngF (rbin .add (a.rng R fs) (b.rng R fs))))
  | .bin .sub a b => rngF (refineL (.bin .sub a b) fs (rngF (rbin .sub (a.rng R fs) (b.rng R fs))))
  | .bin .mul a b => rngF (refineL (.bin .mul a b) fs (rngF (rbin .mul (a.rng R fs) (b.rng R fs))))
  | x => x.rng R fs
theorem X.rng_ok {R : Rgs} {ρ : Val} {fs : List X} (hR : R.ok ρ) (hf : Fcs ρ fs) : ∀ (x : X), inR (x.den ρ) (x.rng R fs)
  | .lit n => by simp [X.rng, inR]
  | .var i => by rw [X.rng, rngF_eq]; exact refineL_ok (x := .var i) hf (hR.v i)
  | .bin o a b => by rw [X.rng, rngF_eq]; exact rbin_ok (X.rng_ok hR hf a) (X.rng_ok hR hf b)
  | .not a => b2i_in _
  | .ite c a b => by
    have h1 := X.rng_ok hR hf a
    have h2 := X.rng_ok hR hf b
    simp only [X.rng, X.den_ite, rngF_eq]
    cases ha : X.rng R fs a with
    | none => trivial
    | some p =>
      cases hb : X.rng R fs b with
      | none => trivial
      | some q =>
        rw [ha] at h1; rw [hb] at h2
        simp only [inR, unionR] at *
        have := min2_le_l p.1 q.1
        have := min2_le_r p.1 q.1
        have := max2_ge_l p.2 q.2
        have := max2_ge_r p.2 q.2
        cases X.denB ρ c <;> simp only [cond_true, cond_false] <;> omega
  | .wrap k a => wrap_within k _
  | .app f a => by rw [X.rng, rngF_eq]; exact refineL_ok (x := .app f a) hf (hR.f f _)
  | .nil => trivial
  | .cons _ _ => trivial
theorem X.rngT_ok {R : Rgs} {ρ : Val} {fs : List X} (hR : R.ok ρ) (hf : Fcs ρ fs) (x : X) : inR (x.den ρ) (x.rngT R fs) := by
  unfold X.rngT
  simp only [rngF_eq]
  split
  · exact refineL_ok hf (rbin_ok (o := .add) (X.rng_ok hR hf _) (X.rng_ok hR hf _))
  · exact refineL_ok hf (rbin_ok (o := .sub) (X.rng_ok hR hf _) (X.rng_ok hR hf _))
  · exact refineL_ok hf (rbin_ok (o := .mul) (X.rng_ok hR hf _) (X.rng_ok hR hf _))
  · exact X.rng_ok hR hf _

def hasX (x : X) : List X → Bool
  | [] => false
  | f :: fs => cond (X.beq x f) true (hasX x fs)
theorem hasX_ok {ρ : Val} {x : X} : ∀ {fs : List X}, Fcs ρ fs → hasX x fs = true → x.denB ρ = true
  | [], _, h => by cases h
  | f :: fs, hf, h => by
    simp only [hasX, Bool.cond_eq_ite] at h
    split at h
    · rename_i e; rw [X.beq_eq e]; exact hf f List.mem_cons_self
    · exact hasX_ok (fun y hy => hf y (List.mem_cons_of_mem _ hy)) h
def ltR : Option (Int × Int) → Option (Int × Int) → Option Bool
  | some (a, b), some (c, d) => cond (decide (b < c)) (some true) (cond (decide (d ≤ a)) (some false) none)
  | _, _ => none
def leR : Option (Int × Int) → Option (Int × Int) → Option Bool
  | some (a, b), some (c, d) => cond (decide (b ≤ c)) (some true) (cond (decide (d < a)) (some false) none)
  | _, _ => none
def eqR : Option (Int × Int) → Option (Int × Int) → Option Bool
  | some (a, b), some (c, d) => cond (decide (b < c)) (some false) (cond (decide (d < a)) (some false) (cond (intBeq a b) (cond (intBeq c d) (cond (intBeq a c) (some true) none) none) none))
  | _, _ => none
def orE (a : Option Bool) (b : Option Bool) : Option Bool := match a with
  | some t => some t
  | none => b
def X.dec (R : Rgs) (fs : List X) : X → Option Bool
  | .lit n => some (i2b n)
  | .not a => match X.dec R fs a with
    | some b => some (!b)
    | none => none
  | .bin .and a b => match X.dec R fs a with
    | some false => some false
    | some true => orE (X.dec R fs b) (cond (hasX (.not (.bin .and a b)) fs) (some false) none)
    | none => match X.dec R fs b with
      | some false => some false
      | _ => cond (hasX (.not (.bin .and a b)) fs) (some false) none
  | .bin .or a b => match X.dec R fs a with
    | some true => some true
    | some false => orE (X.dec R fs b) (cond (hasX (.bin .or a b) fs) (some true) none)
    | none => match X.dec R fs b with
      | some true => some true
      | _ => cond (hasX (.bin .or a b) fs) (some true) none
  | .bin .lt a b => orE (ltR (a.rngT R fs) (b.rngT R fs)) (cond (hasX (.bin .lt a b) fs) (some true) (cond (hasX (.bin .le b a) fs) (some false) (cond (hasX (.bin .lt b a) fs) (some false) (cond (X.beq a b) (some false) none))))
  | .bin .le a b => orE (leR (a.rngT R fs) (b.rngT R fs)) (cond (hasX (.bin .le a b) fs) (some true) (cond (hasX (.bin .lt b a) fs) (some false) (cond (hasX (.bin .lt a b) fs) (some true) (cond (X.beq a b) (some true) none))))
  | .bin .eq a b => orE (eqR (a.rngT R fs) (b.rngT R fs)) (cond (X.beq a b) (some true) (cond (hasX (.bin .eq a b) fs) (some true) (cond (hasX (.not (.bin .eq a b)) fs) (some false) (cond (hasX (.bin .lt a b) fs) (some false) (cond (hasX (.bin .lt b a) fs) (some false) none)))))
  | x => cond (hasX x fs) (some true) (cond (hasX (.not x) fs) (some false) (match x with
    | .ite c a b => match X.dec R fs c with
      | some true => X.dec R fs a
      | some false => X.dec R fs b
      | none => none
    | _ => none))
theorem ltR_ok {x y : Int} {r s : Option (Int × Int)} {t : Bool} (h : inR x r) (k : inR y s) (e : ltR r s = some t) : decide (x < y) = t := by
  cases r <;> cases s <;> first | (cases e; done) | skip
  simp only [ltR, inR, Bool.cond_eq_ite, decide_eq_true_eq] at *
  split at e
  · cases e; simp; omega
  · split at e <;> cases e; simp; omega
theorem leR_ok {x y : Int} {r s : Option (Int × Int)} {t : Bool} (h : inR x r) (k : inR y s) (e : leR r s = some t) : decide (x ≤ y) = t := by
  cases r <;> cases s <;> first | (cases e; done) | skip
  simp only [leR, inR, Bool.cond_eq_ite, decide_eq_true_eq] at *
  split at e
  · cases e; simp; omega
  · split at e <;> cases e; simp; omega
theorem eqR_ok {x y : Int} {r s : Option (Int × Int)} {t : Bool} (h : inR x r) (k : inR y s) (e : eqR r s = some t) : (x == y) = t := by
  cases r <;> cases s <;> first | (cases e; done) | skip
  simp only [eqR, inR, Bool.cond_eq_ite, decide_eq_true_eq] at *
  split at e
  · cases e; simp; omega
  · split at e
    · cases e; simp; omega
    · split at e
      · rename_i h1
        split at e
        · rename_i h2
          split at e <;> cases e
          rename_i h3
          have h1 := intBeq_eq h1
          have h2 := intBeq_eq h2
          have h3 := intBeq_eq h3
          simp; omega
        · cases e
      · cases e
theorem orE_ok {a b : Option Bool} {t : Bool} {Q : Bool → Prop} (h : orE a b = some t) (h1 : a = some t → Q t) (h2 : b = some t → Q t) : Q t := by
  cases a with
  | none => exact h2 h
  | some x => exact h1 h
theorem X.dec_ok {R : Rgs} {ρ : Val} {fs : List X} (hR : R.ok ρ) (hf : Fcs ρ fs) : ∀ (x : X) {t : Bool}, x.dec R fs = some t → x.denB ρ = t := by
  intro x
  induction x with
  | lit n => intro t h; simp only [X.dec, Option.some.injEq] at h; exact h
  | not a ih =>
    intro t h
    simp only [X.dec] at h
    split at h <;> cases h
    rename_i b hb
    rw [X.denB_not, ih hb]
  | bin o a b iha ihb =>
    intro t h
    have gen : (cond (hasX (.bin o a b) fs) (some true) (cond (hasX (.not (.bin o a b)) fs) (some false) none)) = some t → X.denB ρ (.bin o a b) = t := by
      intro h
      simp only [Bool.cond_eq_ite] at h
      split at h
      · rename_i e; cases h; exact hasX_ok hf e
      · split at h <;> cases h
        rename_i e
        have := hasX_ok hf e
        simpa using this
    cases o <;> simp only [X.dec] at h <;> first | exact gen h | skip
    case lt =>
      rw [X.denB_lt]
      refine orE_ok (Q := fun t => decide (a.den ρ < b.den ρ) = t) h (fun e => ltR_ok (X.rngT_ok hR hf a) (X.rngT_ok hR hf b) e) (fun e => ?_)
      simp only [Bool.cond_eq_ite] at e
      split at e
      · rename_i g; cases e; have := hasX_ok hf g; simpa using this
      · split at e
        · rename_i g; cases e; have := hasX_ok hf g; simp at this; simp; omega
        · split at e
          · rename_i g; cases e; have := hasX_ok hf g; simp at this; simp; omega
          · split at e <;> cases e
            rename_i g; rw [X.beq_eq g]; simp
    case le =>
      rw [X.denB_le]
      refine orE_ok (Q := fun t => decide (a.den ρ ≤ b.den ρ) = t) h (fun e => leR_ok (X.rngT_ok hR hf a) (X.rngT_ok hR hf b) e) (fun e => ?_)
      simp only [Bool.cond_eq_ite] at e
      split at e
      · rename_i g; cases e; have := hasX_ok hf g; simpa using this
      · split at e
        · rename_i g; cases e; have := hasX_ok hf g; simp at this; simp; omega
        · split at e
          · rename_i g; cases e; have := hasX_ok hf g; simp at this; simp; omega
          · split at e <;> cases e
            rename_i g; rw [X.beq_eq g]; simp
    case eq =>
      rw [X.denB_eq]
      refine orE_ok (Q := fun t => (a.den ρ == b.den ρ) = t) h (fun e => eqR_ok (X.rngT_ok hR hf a) (X.rngT_ok hR hf b) e) (fun e => ?_)
      simp only [Bool.cond_eq_ite] at e
      split at e
      · rename_i g; cases e; rw [X.beq_eq g]; simp
      · split at e
        · rename_i g; cases e; have := hasX_ok hf g; simpa using this
        · split at e
          · rename_i g; cases e; have := hasX_ok hf g; simpa using this
          · split at e
            · rename_i g; cases e; have := hasX_ok hf g; simp at this; simp; omega
            · split at e <;> cases e
              rename_i g; have := hasX_ok hf g; simp at this; simp; omega
    case and =>
      rw [X.denB_and]
      split at h
      · rename_i e; cases h; rw [iha e]; rfl
      · rename_i e; rw [iha e, Bool.true_and]
        refine orE_ok (Q := fun t => b.denB ρ = t) h (fun e2 => ihb e2) (fun e2 => ?_)
        simp only [Bool.cond_eq_ite] at e2
        split at e2 <;> cases e2
        rename_i g; have := hasX_ok hf g; rwa [X.denB_not, X.denB_and, iha e, Bool.true_and, Bool.not_eq_true'] at this
      · split at h
        · rename_i e; cases h; rw [ihb e]; simp
        · simp only [Bool.cond_eq_ite] at h
          split at h <;> cases h
          rename_i g; have := hasX_ok hf g; rwa [X.denB_not, X.denB_and, Bool.not_eq_true'] at this
    case or =>
      rw [X.denB_or]
      split at h
      · rename_i e; cases h; rw [iha e]; rfl
      · rename_i e; rw [iha e, Bool.false_or]
        refine orE_ok (Q := fun t => b.denB ρ = t) h (fun e2 => ihb e2) (fun e2 => ?_)
        simp only [Bool.cond_eq_ite] at e2
        split at e2 <;> cases e2
        rename_i g; have := hasX_ok hf g; rwa [X.denB_or, iha e, Bool.false_or] at this
      · split at h
        · rename_i e; cases h; rw [ihb e]; simp
        · simp only [Bool.cond_eq_ite] at h
          split at h <;> cases h
          rename_i g; have := hasX_ok hf g; rwa [X.denB_or] at this
  | ite c a b ihc iha ihb =>
    intro t h
    simp only [X.dec, Bool.cond_eq_ite] at h
    split at h
    · rename_i e; cases h; exact hasX_ok hf e
    · split at h
      · rename_i e; cases h; have := hasX_ok hf e; simpa using this
      · have key : X.denB ρ (.ite c a b) = cond (c.denB ρ) (a.denB ρ) (b.denB ρ) := by
          simp only [X.denB, X.den_ite]; cases i2b (X.den ρ c) <;> rfl
        rw [key]
        split at h
        · rename_i e; rw [ihc e, cond_true]; exact iha h
        · rename_i e; rw [ihc e, cond_false]; exact ihb h
        · cases h
  | _ =>
    intro t h
    simp only [X.dec, Bool.cond_eq_ite] at h
    split at h
    · rename_i e; cases h; exact hasX_ok hf e
    · split at h <;> cases h
      rename_i e; have := hasX_ok hf e; simpa using this
def X.nrm : X → Bool → List X
  | .not a, b => X.nrm a (!b)
  | .bin .and x y, true => X.nrm x true ++ X.nrm y true
  | .bin .or x y, false => X.nrm x false ++ X.nrm y false
  | .bin .lt x y, false => [.bin .le y x]
  | .bin .le x y, false => [.bin .lt y x]
  | x, true => [x]
  | x, false => [.not x]
theorem Fcs.append {ρ : Val} {a b : List X} (h : Fcs ρ a) (k : Fcs ρ b) : Fcs ρ (a ++ b) := fun x hx => by
  rcases List.mem_append.1 hx with hx | hx
  · exact h x hx
  · exact k x hx
theorem Fcs.one {ρ : Val} {a : X} (h : a.denB ρ = true) : Fcs ρ [a] := fun x hx => by
  rw [List.mem_singleton] at hx; subst hx; exact h
theorem Fcs.nil {ρ : Val} : Fcs ρ [] := fun x hx => by cases hx
theorem X.nrm_ok {ρ : Val} : ∀ (x : X) {b : Bool}, x.denB ρ = b → Fcs ρ (x.nrm b) := by
  intro x
  induction x with
  | not a ih => intro b h; simp only [X.nrm]; refine ih ?_; rw [X.denB_not] at h; rw [← h]; simp
  | bin o x y ihx ihy =>
    intro b h
    cases b with
    | true =>
      have one : Fcs ρ [.bin o x y] := .one h
      cases o <;> simp only [X.nrm] <;> first | exact one | skip
      simp at h
      exact .append (ihx h.1) (ihy h.2)
    | false =>
      have one : Fcs ρ [.not (.bin o x y)] := .one (by rw [X.denB_not, h]; rfl)
      cases o <;> simp only [X.nrm] <;> first | exact one | skip
      · simp at h; exact .one (by simp; omega)
      · simp at h; exact .one (by simp; omega)
      · simp at h; exact .append (ihx h.1) (ihy h.2)
  | _ =>
    intro b h
    cases b with
    | true => simp only [X.nrm]; exact .one h
    | false => simp only [X.nrm]; exact .one (by rw [X.denB_not, h]; rfl)

def mk (o : Bo) (a b : X) : X := match o, a, b with
  | o, .lit m, .lit n => .lit (o.ev m n)
  | .add, .lit m, y => cond (intBeq m 0) y (.bin .add (.lit m) y)
  | .add, .bin .add x (.lit m), .lit n => cond (intBeq (m + n) 0) x (.bin .add x (.lit (m + n)))
  | .add, .bin .sub x (.lit m), .lit n => cond (intBeq m n) x (.bin .add x (.lit (n - m)))
  | .add, x, .lit n => cond (intBeq n 0) x (.bin .add x (.lit n))
  | .sub, .bin .add x (.lit m), .lit n => cond (intBeq m n) x (.bin .add x (.lit (m - n)))
  | .sub, x, .lit n => cond (intBeq n 0) x (.bin .add x (.lit (-n)))
  | .mul, x, .lit n => cond (intBeq n 1) x (cond (intBeq n 0) (.lit 0) (.bin .mul x (.lit n)))
  | .mul, .lit n, x => cond (intBeq n 1) x (cond (intBeq n 0) (.lit 0) (.bin .mul (.lit n) x))
  | o, a, b => .bin o a b
theorem mk_den {ρ : Val} (o : Bo) (a b : X) : (mk o a b).den ρ = o.ev (a.den ρ) (b.den ρ) := by
  unfold mk
  split
  · rfl
  · simp only [Bool.cond_eq_ite]; split
    · rename_i e; rw [intBeq_eq e]; simp [Bo.ev]
    · rfl
  · simp only [Bool.cond_eq_ite]; split
    · rename_i e; have := intBeq_eq e; simp [Bo.ev]; omega
    · simp [Bo.ev]; omega
  · simp only [Bool.cond_eq_ite]; split
    · rename_i e; have := intBeq_eq e; simp [Bo.ev]; omega
    · simp [Bo.ev]; omega
  · simp only [Bool.cond_eq_ite]; split
    · rename_i e; rw [intBeq_eq e]; simp [Bo.ev]
    · rfl
  · simp only [Bool.cond_eq_ite]; split
    · rename_i e; have := intBeq_eq e; simp [Bo.ev]; omega
    · simp [Bo.ev]; omega
  · simp only [Bool.cond_eq_ite]; split
    · rename_i e; rw [intBeq_eq e]; simp [Bo.ev]
    · simp [Bo.ev]; omega
  · simp only [Bool.cond_eq_ite]; split
    · rename_i e; rw [intBeq_eq e]; simp [Bo.ev]
    · split
      · rename_i e; rw [intBeq_eq e]; simp [Bo.ev]
      · rfl
  · simp only [Bool.cond_eq_ite]; split
    · rename_i e; rw [intBeq_eq e]; simp [Bo.ev]
    · split
      · rename_i e; rw [intBeq_eq e]; simp [Bo.ev]
      · rfl
  · rfl
theorem wrap_id {k : IntKind} {n : Int} (h1 : k.min ≤ n) (h2 : n ≤ k.max) : k.wrap n = n := by
  cases k <;> simp [IntKind.min, IntKind.max, IntKind.wrap, IntKind.bits, IntKind.signed] at * <;> omega
def wr (R : Rgs) (fs : List X) (k : IntKind) (x : X) : X := match x with
  | .lit n => .lit (k.wrap n)
  | x => match x.rngT R fs with
    | some (a, b) => cond (decide (k.min ≤ a)) (cond (decide (b ≤ k.max)) x (.wrap k x)) (.wrap k x)
    | none => .wrap k x
theorem wr_den {R : Rgs} {ρ : Val} {fs : List X} (hR : R.ok ρ) (hf : Fcs ρ fs) (k : IntKind) (x : X) : (wr R fs k x).den ρ = k.wrap (x.den ρ) := by
  unfold wr
  split
  · rfl
  · split
    · rename_i a b h
      have := X.rngT_ok hR hf x
      rw [h] at this
      simp only [inR] at this
      simp only [Bool.cond_eq_ite, decide_eq_true_eq]
      split
      · split
        · exact (wrap_id (by omega) (by omega)).symm
        · rfl
      · rfl
    · rfl
end Sx
end Abs
end Go.Proofs.YtekmmeikkafpmaaGreat

namespace Go.Proofs.YtekmmeikkafpmaaGreat
namespace Abs
namespace Sx

inductive SV where
  | int (k : IntKind) (x : X)
  | bool (x : X)
  | str (s : ByteArray)
  | nilp
  | ptr (n off : Nat)
  | eptr (n : Nat) (i : X) (s c : Nat)
  | nils
  | slice (n oc : Nat) (eo len cap : X) (esz : Nat) (ex : Bool)
  | nilm
  | map (r : Nat)
  | fn (f : FuncId) (first captured : List SV)
  | yield (l : Nat)
  | nilf
  | nili
  | agg (cs : List SV)
  | tuple (vs : List SV)
def SV.undef : SV := .tuple []
def SV.cells : SV → List SV
  | .agg cs => cs
  | v => [v]
def SV.oneCell : SV → Bool
  | .agg _ | .tuple _ => false
  | _ => true
mutual
def SV.den (ρ : Val) : SV → AV
  | .int k x => .int k (x.den ρ)
  | .bool x => .bool (x.denB ρ)
  | .str s => .str s
  | .nilp => .nilp
  | .ptr n off => .ptr n off
  | .eptr n i s c => .ptr n (c + (i.den ρ).toNat * s)
  | .nils => .nils
  | .slice n oc eo len cap esz ex => .slice n (oc + (eo.den ρ).toNat * esz) (len.den ρ).toNat (cap.den ρ).toNat esz ex
  | .nilm => .nilm
  | .map r => .map r
  | .fn f a b => .fn f (SV.dens ρ a) (SV.dens ρ b)
  | .yield l => .yield l
  | .nilf => .nilf
  | .nili => .nili
  | .agg cs => .agg (SV.dens ρ cs)
  | .tuple cs => .tuple (SV.dens ρ cs)
def SV.dens (ρ : Val) : List SV → List AV
  | [] => []
  | a :: l => SV.den ρ a :: SV.dens ρ l
end
mutual
def ofA : AV → SV
  | .int k n => .int k (.lit n)
  | .bool b => .bool (.lit (b2i b))
  | .str s => .str s
  | .nilp => .nilp
  | .ptr n off => .ptr n off
  | .nils => .nils
  | .slice n off len cap esz ex => .slice n off (.lit 0) (.lit len) (.lit cap) esz ex
  | .nilm => .nilm
  | .map r => .map r
  | .fn f a b => .fn f (ofAs a) (ofAs b)
  | .yield l => .yield l
  | .nilf => .nilf
  | .nili => .nili
  | .agg cs => .agg (ofAs cs)
  | .tuple cs => .tuple (ofAs cs)
def ofAs : List AV → List SV
  | [] => []
  | a :: l => ofA a :: ofAs l
end
section
variable {ρ : Val}
theorem dens_map (l : List SV) : SV.dens ρ l = l.map (SV.den ρ) := by
  induction l with
  | nil => rfl
  | cons a l ih => simp only [SV.dens, List.map_cons, ih]
mutual
theorem ofA_den : (a : AV) → (ofA a).den ρ = a
  | .int k n => rfl
  | .bool b => by cases b <;> rfl
  | .str s => rfl
  | .nilp => rfl
  | .ptr n off => rfl
  | .nils => rfl
  | .slice n off len cap esz ex => by simp [ofA, SV.den]
  | .nilm => rfl
  | .map r => rfl
  | .fn f a b => by simp only [ofA, SV.den, ofAs_den a, ofAs_den b]
  | .yield l => rfl
  | .nilf => rfl
  | .nili => rfl
  | .agg cs => by simp only [ofA, SV.den, ofAs_den cs]
  | .tuple cs => by simp only [ofA, SV.den, ofAs_den cs]
theorem ofAs_den : (l : List AV) → SV.dens ρ (ofAs l) = l
  | [] => rfl
  | a :: l => by simp only [ofAs, SV.dens, ofA_den a, ofAs_den l]
end
theorem den_undef : SV.undef.den ρ = .undef := rfl
theorem den_cells (v : SV) : (v.den ρ).cells = SV.dens ρ v.cells := by cases v <;> rfl
theorem den_oneCell (v : SV) : (v.den ρ).oneCell = v.oneCell := by cases v <;> rfl
theorem all_oneCell (l : List SV) : (SV.dens ρ l).all AV.oneCell = l.all SV.oneCell := by
  induction l with
  | nil => rfl
  | cons a l ih => simp only [SV.dens, List.all_cons, den_oneCell, ih]
theorem dens_length (l : List SV) : (SV.dens ρ l).length = l.length := by rw [dens_map, List.length_map]
theorem dens_append (a b : List SV) : SV.dens ρ (a ++ b) = SV.dens ρ a ++ SV.dens ρ b := by simp only [dens_map, List.map_append]
theorem dens_get (l : List SV) (i : Nat) : (SV.dens ρ l)[i]? = (l[i]?).map (SV.den ρ) := by rw [dens_map, List.getElem?_map]
theorem dens_drop (l : List SV) (i : Nat) : (SV.dens ρ l).drop i = SV.dens ρ (l.drop i) := by rw [dens_map, dens_map, List.map_drop]
theorem dens_take (l : List SV) (i : Nat) : (SV.dens ρ l).take i = SV.dens ρ (l.take i) := by rw [dens_map, dens_map, List.map_take]
end

def Tr.map {α β : Type} (f : α → β) : Tr α → Tr β
  | .nil => .nil
  | .node v l r => .node (match v with
    | some a => some (f a)
    | none => none) (Tr.map f l) (Tr.map f r)
section
variable {α β : Type} {f : α → β}
theorem Tr.get_map : ∀ (t : Tr α) (k : Nat), (Tr.map f t).get k = (t.get k).map f
  | .nil, k => rfl
  | .node v l r, k => by
    simp only [Tr.map, Tr.get, Tr.get_map l, Tr.get_map r]
    cases k.beq 0 <;> cases (k % 2).beq 1 <;> cases v <;> rfl
theorem Tr.setF_map (a : Option α) : ∀ (n : Nat) (t : Tr α) (k : Nat), Tr.map f (Tr.setF a n t k) = Tr.setF (a.map f) n (Tr.map f t) k
  | 0, t, k => rfl
  | n + 1, .nil, k => by
    have ih1 := Tr.setF_map a n .nil (k / 2)
    have ih2 := Tr.setF_map a n .nil (k / 2 - 1)
    simp only [Tr.map] at ih1 ih2
    simp only [Tr.setF, Tr.map]
    cases k.beq 0
    · cases (k % 2).beq 1
      · simp only [cond_false, Tr.map, ih2]
      · simp only [cond_false, cond_true, Tr.map, ih1]
    · simp only [cond_true, Tr.map]; cases a <;> rfl
  | n + 1, .node v l r, k => by
    simp only [Tr.setF, Tr.map]
    cases k.beq 0
    · cases (k % 2).beq 1
      · simp only [cond_false, Tr.map, Tr.setF_map a n r]
      · simp only [cond_false, cond_true, Tr.map, Tr.setF_map a n l]
    · simp only [cond_true, Tr.map]; cases a <;> rfl
theorem Tr.set_map (t : Tr α) (k : Nat) (a : α) : Tr.map f (t.set k a) = (Tr.map f t).set k (f a) := Tr.setF_map (some a) _ _ _
theorem Tr.del_map (t : Tr α) (k : Nat) : Tr.map f (t.del k) = (Tr.map f t).del k := Tr.setF_map none _ _ _
end

inductive Cmp where
  | int (k : IntKind) (f : Nat)
  | bool (f : Nat)
def Cmp.at (i a : X) : Cmp → SV
  | .int k f => .int k (.app f (.cons i a))
  | .bool f => .bool (.app f (.cons i a))
def Cmp.den (ρ : Val) (l : List Int) : Cmp → AV
  | .int k f => .int k (ρ.fn f l)
  | .bool f => .bool (i2b (ρ.fn f l))
structure SLoop where
  state : LoopState
  pending : Option Code
  n : Nat
  tmps : Tr SV
  params : List Tmp
  assign : Code
  body : Code
  defers : Nat
inductive SO where
  | cells (w : Bool) (cs : List SV)
  | row (w : Bool) (len a : X) (cm : List Cmp)
  | map (es : List (SV × SV × Nat)) (clock : Nat)
  | loop (l : SLoop)
  | dfr (isOpen : Bool)
  | iter (o : Option Nat) (since : Nat) (seen : List Nat) (last : Nat)
def rowD (ρ : Val) (cm : List Cmp) (l : List Int) : Nat → Nat → List AV
  | _, 0 => []
  | i, n + 1 => cm.map (Cmp.den ρ ((i : Int) :: l)) ++ rowD ρ cm l (i + 1) n
def SLoop.den (ρ : Val) (L : SLoop) : ALoop := ⟨L.state, L.pending, L.n, Tr.map (SV.den ρ) L.tmps, L.params, L.assign, L.body, L.defers⟩
def enD (ρ : Val) (e : SV × SV × Nat) : AV × AV × Nat := (e.1.den ρ, e.2.1.den ρ, e.2.2)
def SO.den (ρ : Val) : SO → AObj
  | .cells w cs => .cells w (SV.dens ρ cs)
  | .row w len a cm => .cells w (rowD ρ cm (a.sem ρ) 0 (len.den ρ).toNat)
  | .map es c => .map (es.map (enD ρ)) c
  | .loop L => .loop (L.den ρ)
  | .dfr b => .dfr b
  | .iter o s l c => .iter o s l c
structure SH where
  t : Tr SO
  bad : List (Nat × Nat)
  wr : Nat
def SH.get (H : SH) (n : Nat) : Option SO := cond (hid H.bad n) none (H.t.get n)
def SH.lay (H : SH) (n : Nat) (o : SO) : SH := ⟨H.t.set n o, H.bad, H.wr⟩
def SH.put (H : SH) (n : Nat) (o : SO) : SH := ⟨H.t.set n o, H.bad, lower n H.wr⟩
def SH.del (H : SH) (n : Nat) : SH := ⟨H.t.del n, H.bad, lower n H.wr⟩
def hD (ρ : Val) (H : SH) : Hp := ⟨Tr.map (SO.den ρ) H.t, H.bad, H.wr⟩
abbrev SE := Tr SV
def eD (ρ : Val) (T : SE) : Env := (Tr.map (SV.den ρ) T).get
section
variable {ρ : Val}
theorem eD_get (T : SE) (k : Nat) : eD ρ T k = (T.get k).map (SV.den ρ) := Tr.get_map _ _
theorem eD_set (T : SE) (k : Nat) (v : SV) : eD ρ (T.set k v) = Env.set (eD ρ T) k (v.den ρ) := by
  unfold eD; rw [Tr.set_map, Tr.get_set_env]
theorem hD_get (H : SH) (n : Nat) : (hD ρ H).get n = (H.get n).map (SO.den ρ) := by
  have : (hD ρ H).get n = cond (hid H.bad n) none ((Tr.map (SO.den ρ) H.t).get n) := rfl
  rw [this, Tr.get_map]
  unfold SH.get
  cases hid H.bad n <;> rfl
theorem hD_lay (H : SH) (n : Nat) (o : SO) : (hD ρ H).lay n (o.den ρ) = hD ρ (H.lay n o) := by
  simp only [hD, Hp.lay, SH.lay, Tr.set_map]
theorem hD_put (H : SH) (n : Nat) (o : SO) : (hD ρ H).put n (o.den ρ) = hD ρ (H.put n o) := by
  simp only [hD, Hp.put, SH.put, Tr.set_map]
theorem hD_del (H : SH) (n : Nat) : (hD ρ H).del n = hD ρ (H.del n) := by
  simp only [hD, Hp.del, SH.del, Tr.del_map]
theorem hD_cellsAt {H : SH} {n : Nat} {o : SO} (h : H.get n = some o) : cellsAt (hD ρ H) n = match o.den ρ with
  | .cells _ cs => some cs
  | _ => none := by
  unfold cellsAt
  rw [hD_get, h]
  cases o <;> rfl
theorem rowD_length (cm : List Cmp) (l : List Int) : ∀ (n i : Nat), (rowD ρ cm l i n).length = n * cm.length
  | 0, _ => by simp [rowD]
  | n + 1, i => by simp only [rowD, List.length_append, List.length_map, rowD_length cm l n, Nat.succ_mul]; omega
theorem rowD_drop (cm : List Cmp) (l : List Int) : ∀ (j n i : Nat), j ≤ n → (rowD ρ cm l i n).drop (j * cm.length) = rowD ρ cm l (i + j) (n - j)
  | 0, n, i, _ => by simp
  | j + 1, 0, i, h => by omega
  | j + 1, n + 1, i, h => by
    simp only [rowD]
    have e : (j + 1) * cm.length = (cm.map (Cmp.den ρ ((i : Int) :: l))).length + j * cm.length := by rw [List.length_map, Nat.succ_mul]; omega
    rw [e, List.drop_length_add_append, rowD_drop cm l j n (i + 1) (by omega)]
    congr 1 <;> omega
theorem rowD_take (cm : List Cmp) (l : List Int) : ∀ (j n i : Nat), j ≤ n → (rowD ρ cm l i n).take (j * cm.length) = rowD ρ cm l i j
  | 0, n, i, _ => by simp [rowD]
  | j + 1, 0, i, h => by omega
  | j + 1, n + 1, i, h => by
    simp only [rowD]
    have e : (j + 1) * cm.length = (cm.map (Cmp.den ρ ((i : Int) :: l))).length + j * cm.length := by rw [List.length_map, Nat.succ_mul]; omega
    rw [e, List.take_length_add_append, rowD_take cm l j n (i + 1) (by omega)]
theorem rowD_append (cm : List Cmp) (l : List Int) : ∀ (n m i : Nat), rowD ρ cm l i n ++ rowD ρ cm l (i + n) m = rowD ρ cm l i (n + m)
  | 0, m, i => by simp [rowD]
  | n + 1, m, i => by
    have : n + 1 + m = (n + m) + 1 := by omega
    rw [this]
    simp only [rowD, List.append_assoc]
    rw [← rowD_append cm l n m (i + 1)]
    congr 3; omega
theorem cm_at {i a : X} {n : Nat} (h : i.den ρ = n) (cm : List Cmp) : cm.map (Cmp.den ρ ((n : Int) :: a.sem ρ)) = SV.dens ρ (cm.map (Cmp.at i a)) := by
  rw [dens_map, List.map_map]
  apply List.map_congr_left
  intro c _
  cases c <;> simp [Cmp.at, Cmp.den, SV.den, X.denB, h]
theorem rowD_part (cm : List Cmp) (a i : X) (n c : Nat) (hi : 0 ≤ i.den ρ) (hn : (i.den ρ).toNat < n) :
    ((rowD ρ cm (a.sem ρ) 0 n).drop (c + (i.den ρ).toNat * cm.length)) = (SV.dens ρ ((cm.map (Cmp.at i a)))).drop c ++ (rowD ρ cm (a.sem ρ) ((i.den ρ).toNat + 1) (n - ((i.den ρ).toNat + 1))).drop (c - cm.length) := by
  rw [Nat.add_comm c, ← List.drop_drop, rowD_drop cm _ _ _ _ (by omega), Nat.zero_add]
  obtain ⟨m, hm⟩ : ∃ m, n - (i.den ρ).toNat = m + 1 := ⟨n - (i.den ρ).toNat - 1, by omega⟩
  rw [hm]
  have hm2 : n - ((i.den ρ).toNat + 1) = m := by omega
  simp only [rowD, hm2]
  rw [cm_at (i := i) (by omega), List.drop_append, dens_length, List.length_map]
end
end Sx
end Abs
end Go.Proofs.YtekmmeikkafpmaaGreat

namespace Go.Proofs.YtekmmeikkafpmaaGreat
namespace Abs
namespace Sx

inductive PR (α : Type) where
  | ok (nd : List X) (a : α)
  | ask (b : X)
  | no
def evS (T : SE) : Operand → Option SV
  | .tmp t => T.get t
  | .const v => match ofV 5000 v with
    | some a => some (ofA a)
    | none => none
  | .global _ => none
  | .func f => some (.fn f [] [])
def evLS (T : SE) : List Operand → Option (List SV)
  | [] => some []
  | x :: xs => match evS T x, evLS T xs with
    | some a, some l => some (a :: l)
    | _, _ => none
def evPS (T : SE) : List (Nat × Operand) → Option (List (Nat × SV))
  | [] => some []
  | (i, x) :: xs => match evS T x, evPS T xs with
    | some a, some l => some ((i, a) :: l)
    | _, _ => none
def nd (R : Rgs) (fs : List X) (b : X) : List X := match b.dec R fs with
  | some true => []
  | _ => [b]
def setAtS : List SV → Nat → List SV → Option (List SV)
  | cs, _, [] => some cs
  | [], _, _ :: _ => none
  | _ :: cs, 0, v :: vs => (setAtS cs 0 vs).map (v :: ·)
  | c :: cs, o + 1, v :: vs => (setAtS cs o (v :: vs)).map (c :: ·)
def mkNot : X → X
  | .lit n => .lit (b2i (!(i2b n)))
  | .not a => a
  | a => .not a
def mkB (o : Bo) (a b : X) : SV := .bool (mk o a b)
section
variable {ρ : Val}
theorem evS_den (T : SE) (x : Operand) : evE (eD ρ T) x = (evS T x).map (SV.den ρ) := by
  cases x with
  | tmp t => exact eD_get _ _
  | const v =>
    simp only [evE, evS]
    cases ofV 5000 v with
    | none => rfl
    | some a => simp only [Option.map_some, ofA_den]
  | global g => rfl
  | func f => rfl
theorem evLS_den (T : SE) : ∀ xs : List Operand, evLE (eD ρ T) xs = (evLS T xs).map (SV.dens ρ)
  | [] => rfl
  | x :: xs => by
    simp only [evLE, evLS, evS_den, evLS_den T xs]
    cases evS T x <;> cases evLS T xs <;> rfl
theorem evPS_den (T : SE) : ∀ xs : List (Nat × Operand), evPE (eD ρ T) xs = (evPS T xs).map (fun l => l.map fun p => (p.1, p.2.den ρ))
  | [] => rfl
  | (i, x) :: xs => by
    simp only [evPE, evPS, evS_den, evPS_den T xs]
    cases evS T x <;> cases evPS T xs <;> rfl
theorem nd_ok {R : Rgs} {fs : List X} {b : X} (hR : R.ok ρ) (hf : Fcs ρ fs) (h : Fcs ρ (nd R fs b)) : b.denB ρ = true := by
  unfold nd at h
  split at h
  · rename_i e; exact X.dec_ok hR hf b e
  · exact h b List.mem_cons_self
theorem Fcs.split {a b : List X} (h : Fcs ρ (a ++ b)) : Fcs ρ a ∧ Fcs ρ b := ⟨fun x hx => h x (List.mem_append_left _ hx), fun x hx => h x (List.mem_append_right _ hx)⟩
theorem setAtS_den : ∀ (cs : List SV) (o : Nat) (vs : List SV), setAt (SV.dens ρ cs) o (SV.dens ρ vs) = (setAtS cs o vs).map (SV.dens ρ)
  | cs, o, [] => by cases cs <;> cases o <;> rfl
  | [], o, v :: vs => by cases o <;> rfl
  | c :: cs, 0, v :: vs => by
    have := setAtS_den cs 0 vs
    simp only [SV.dens, setAt, setAtS, this]
    cases setAtS cs 0 vs <;> rfl
  | c :: cs, o + 1, v :: vs => by
    have := setAtS_den cs o (v :: vs)
    simp only [SV.dens] at this
    simp only [SV.dens, setAt, setAtS, this]
    cases setAtS cs o (v :: vs) <;> rfl
theorem mkNot_den (a : X) : (mkNot a).denB ρ = !(a.denB ρ) := by
  unfold mkNot
  split
  · rename_i n; simp only [X.denB, X.den_lit, i2b_b2i]
  · rw [X.denB_not, Bool.not_not]
  · rw [X.denB_not]
theorem mkB_den (o : Bo) (a b : X) : (mkB o a b).den ρ = .bool (i2b (o.ev (a.den ρ) (b.den ρ))) := by
  simp only [mkB, SV.den, X.denB, mk_den]
end

section ops
variable (P : Program) (R : Rgs) (fs : List X)
def zeroS (t : TypeId) : Option SV := match zero P t with
  | some z => some (ofA z)
  | none => none
def partS (t : TypeId) (cs : List SV) (off : Nat) : Option SV := match isAggT P t with
  | some true => match sz P t with
    | some n => cond (((cs.drop off).take n).length.beq n) (some (.agg ((cs.drop off).take n))) none
    | none => none
  | some false => cs[off]?
  | none => none
def fillS (place : Nat → Option (Nat × Nat)) : List SV → List (Nat × SV) → Option (List SV)
  | cells, [] => some cells
  | cells, (i, v) :: rest => match place i with
    | none => none
    | some (off, size) => cond (v.cells.length.beq size) (cond ((off + size).ble cells.length) (match setAtS cells off v.cells with
        | some cs => fillS place cs rest
        | none => none) none) none
def buildS (t : TypeId) (z : List SV) (ps : List (Nat × SV)) : Option SV := match P.underlying t with
  | some (.struct fs) => match placesA P fs.toList with
    | some pl => (fillS (fun i => pl[i]?) z ps).map .agg
    | none => none
  | some (.array _ e) => match sz P e with
    | some size => (fillS (fun i => some (i * size, size)) z ps).map .agg
    | none => none
  | _ => none
def repS (z : List SV) : Nat → List SV
  | 0 => []
  | n + 1 => z ++ repS z n
def mkEqB (a b : X) : X := match a, b with
  | .lit m, .lit n => .lit (b2i (i2b m == i2b n))
  | .lit m, b => cond (i2b m) b (mkNot b)
  | a, .lit n => cond (i2b n) a (mkNot a)
  | a, b => cond (X.beq a b) (.lit 1) (.ite a b (.not b))
def mkAnd (a b : X) : X := match a, b with
  | .lit m, b => cond (i2b m) b (.lit 0)
  | a, .lit n => cond (i2b n) a (.lit 0)
  | a, b => .bin .and a b
mutual
def eqvS : Nat → TypeId → SV → SV → Option X
  | 0, _, _, _ => none
  | d + 1, t, x, y => match P.underlying t, x, y with
    | some .bool, .bool a, .bool b => some (mkEqB a b)
    | some (.int _), .int k a, .int k' b => cond (ikBeq k k') (some (mk .eq a b)) none
    | some .string, .str a, .str b => some (.lit (b2i (a.toList == b.toList)))
    | some (.pointer _), .nilp, .nilp => some (.lit 1)
    | some (.pointer _), .nilp, .ptr _ _ => some (.lit 0)
    | some (.pointer _), .ptr _ _, .nilp => some (.lit 0)
    | some (.slice _), .nils, .nils => some (.lit 1)
    | some (.slice _), .nils, .slice .. => some (.lit 0)
    | some (.slice _), .slice .., .nils => some (.lit 0)
    | some (.map _ _), .nilm, .nilm => some (.lit 1)
    | some (.map _ _), .nilm, .map _ => some (.lit 0)
    | some (.map _ _), .map _, .nilm => some (.lit 0)
    | some (.func _ _ _), .nilf, .nilf => some (.lit 1)
    | some (.func _ _ _), .nilf, .fn .. => some (.lit 0)
    | some (.func _ _ _), .fn .., .nilf => some (.lit 0)
    | some (.struct fs), .agg xs, .agg ys => cond (P.stoodInHeld t) none (eqvFS d fs.toList xs ys)
    | _, _, _ => none
def eqvFS : Nat → List Field → List SV → List SV → Option X
  | 0, _, _, _ => none
  | _ + 1, [], _, _ => some (.lit 1)
  | d + 1, f :: fs, xs, ys => if f.name = "_" then eqvFS d fs xs ys else
    match partS P f.type xs f.offset, partS P f.type ys f.offset with
    | some x, some y => match eqvS d f.type x y, eqvFS d fs xs ys with
      | some a, some b => some (mkAnd a b)
      | _, _ => none
    | _, _ => none
end
def guardOkS (t : TypeId) (x y : SV) : Bool := match x, y with
  | .agg _, .agg _ => !P.eqGuardType P.depth t
  | .nili, _ | _, .nili => false
  | _, _ => true
def okI (k k' : IntKind) (v : SV) : PR SV := cond (ikBeq k k') (.ok [] v) .no
def bitS (op : BinOp) (k : IntKind) (a b : X) : Option X := match a, b with
  | .lit m, .lit n => match arith op k m n with
    | some (.int _ r) => some (.lit r)
    | _ => none
  | _, _ => none
def binI (op : BinOp) (k k' : IntKind) (a b : X) : PR SV := match op with
  | .add => okI k k' (.int k (wr R fs k (mk .add a b)))
  | .sub => okI k k' (.int k (wr R fs k (mk .sub a b)))
  | .mul => okI k k' (.int k (wr R fs k (mk .mul a b)))
  | .quo => cond (ikBeq k k') (.ok (nd R fs (.not (.bin .eq b (.lit 0)))) (.int k (wr R fs k (mk .quo a b)))) .no
  | .rem => cond (ikBeq k k') (.ok (nd R fs (.not (.bin .eq b (.lit 0)))) (.int k (mk .rem a b))) .no
  | .eql => okI k k' (mkB .eq a b)
  | .neq => okI k k' (.bool (mkNot (mk .eq a b)))
  | .lss => okI k k' (mkB .lt a b)
  | .leq => okI k k' (mkB .le a b)
  | .gtr => okI k k' (mkB .lt b a)
  | .geq => okI k k' (mkB .le b a)
  | .shl => match b with
    | .lit n => cond (decide (n < 0)) .no (.ok [] (.int k (wr R fs k (mk .mul a (.lit (2 ^ (min n.toNat k.bits)))))))
    | _ => .no
  | .shr => match b with
    | .lit n => cond (decide (n < 0)) .no (match a with
      | .lit m => .ok [] (.int k (.lit (m.fdiv (2 ^ (min n.toNat k.bits)))))
      | a => match nd R fs (.bin .le (.lit 0) a) with
        | [] => .ok [] (.int k (.bin .quo a (.lit (2 ^ (min n.toNat k.bits)))))
        | _ :: _ => .ok (nd R fs (.bin .le (.lit (-18446744073709551616)) a)) (.int k (.bin .sub (.bin .quo (.bin .add a (.lit 18446744073709551616)) (.lit (2 ^ (min n.toNat k.bits)))) (.lit (18446744073709551616 / 2 ^ (min n.toNat k.bits))))))
    | _ => .no
  | .and => cond (ikBeq k k') (match bitS .and k a b with
    | some x => .ok [] (.int k x)
    | none => match b with
      | .lit n => cond (intBeq n 1) (.ok (nd R fs (.bin .le (.lit 0) a)) (.int k (.bin .rem a (.lit 2)))) .no
      | _ => .no) .no
  | op => cond (ikBeq k k') (match bitS op k a b with
    | some x => .ok [] (.int k x)
    | none => .no) .no
def binS (op : BinOp) (t : TypeId) (x y : SV) : PR SV := match x, y with
  | .int k a, .int k' b => binI R fs op k k' a b
  | .str a, .str b => match strOp op a b with
    | some v => .ok [] (ofA v)
    | none => .no
  | x, y => match op with
    | .eql => cond (guardOkS P t x y) (match eqvS P Op.maxDepth t x y with
      | some b => .ok [] (.bool b)
      | none => .no) .no
    | .neq => cond (guardOkS P t x y) (match eqvS P Op.maxDepth t x y with
      | some b => .ok [] (.bool (mkNot b))
      | none => .no) .no
    | _ => .no
def unS (op : UnOp) (x : SV) : PR SV := match op, x with
  | .neg, .int k n => .ok [] (.int k (wr R fs k (mk .sub (.lit 0) n)))
  | .not, .bool b => .ok [] (.bool (mkNot b))
  | _, _ => .no
def pickIx (i : X) (n : Nat) : Nat → Nat → PR Nat
  | 0, _ => .no
  | f + 1, j => match X.dec R fs (mk .eq i (.lit (j : Int))) with
    | some true => .ok [] j
    | none => .ask (mk .eq i (.lit (j : Int)))
    | some false => pickIx i n f (j + 1)
mutual
def iteV (c : X) : SV → SV → Option SV
  | .int k a, .int k' b => cond (ikBeq k k') (some (.int k (.ite c a b))) none
  | .bool a, .bool b => some (.bool (.ite c a b))
  | .agg a, .agg b => match iteVs c a b with
    | some l => some (.agg l)
    | none => none
  | _, _ => none
def iteVs (c : X) : List SV → List SV → Option (List SV)
  | [], [] => some []
  | a :: l, b :: m => match iteV c a b, iteVs c l m with
    | some x, some y => some (x :: y)
    | _, _ => none
  | _, _ => none
end
def selV (t : TypeId) (cs : List SV) (c s : Nat) (i : X) : Nat → Nat → Option SV
  | 0, _ => none
  | 1, j => partS P t cs (c + j * s)
  | n + 2, j => match partS P t cs (c + j * s), selV t cs c s i (n + 1) (j + 1) with
    | some a, some b => iteV (mk .eq i (.lit (j : Int))) a b
    | _, _ => none
def addX (a b : X) : X := mk .add a b
def maxS (a b : X) : X := match X.dec R fs (.bin .lt a b) with
  | some true => b
  | some false => a
  | none => mk .max a b
def minS (a b : X) : X := match X.dec R fs (.bin .lt b a) with
  | some true => b
  | some false => a
  | none => mk .min a b
def boundS (len : X) (o : Option SV) : Option X := match o with
  | none => some len
  | some (.int _ x) => some x
  | _ => none
def optS (T : SE) : Option Operand → Option (Option SV)
  | none => some none
  | some x => match evS T x with
    | some a => some (some a)
    | none => none
def eAt (n oc : Nat) (i : X) (s : Nat) : SV := match i with
  | .lit (.ofNat j) => .ptr n (oc + j * s)
  | i => .eptr n i s oc
def pureS (T : SE) : Op → PR SV
  | .move x | .assign x => match evS T x with
    | some v => .ok [] v
    | none => .no
  | .pick c a b => match evS T c with
    | some (.bool x) => match X.dec R fs x with
      | some true => match evS T a with
        | some v => .ok [] v
        | none => .no
      | some false => match evS T b with
        | some v => .ok [] v
        | none => .no
      | none => .ask x
    | _ => .no
  | .build t parts => match zeroS P t, evPS T parts.toList with
    | some z, some ps => match buildS P t z.cells ps with
      | some v => .ok [] v
      | none => .no
    | _, _ => .no
  | .nilCheck x => match evS T x with
    | some (.ptr n off) => .ok [] (.ptr n off)
    | some (.eptr n i s c) => .ok [] (.eptr n i s c)
    | some (.fn f a b) => .ok [] (.fn f a b)
    | some (.yield l) => .ok [] (.yield l)
    | _ => .no
  | .binOp op t x y _ => match evS T x, evS T y with
    | some x, some y => binS P R fs op t x y
    | _, _ => .no
  | .unOp op _ x => match evS T x with
    | some x => unS R fs op x
    | none => .no
  | .convert src dst x => match P.underlying src, P.underlying dst, evS T x with
    | some (.int _), some (.int k), some (.int _ n) => .ok [] (.int k (wr R fs k n))
    | some .string, some .string, some (.str s) => .ok [] (.str s)
    | _, _, _ => .no
  | .makeFunc (.func f) first captured => match evLS T first.toList, evLS T captured.toList with
    | some a, some b => .ok [] (.fn f a b)
    | _, _ => .no
  | .slice t x lo hi none => match P.underlying t, evS T x, optS T lo, optS T hi with
    | some (.slice e), some .nils, some lo, some hi => match boundS (.lit 0) hi, boundS (.lit 0) lo, sz P e with
      | some h, some l, some _ => .ok (nd R fs (.bin .le (.lit 0) l) ++ (nd R fs (.bin .le l h) ++ nd R fs (.bin .le h (.lit 0)))) .nils
      | _, _, _ => .no
    | some (.slice e), some (.slice n oc eo len cap esz ex), some lo, some hi => match boundS len hi, boundS (.lit 0) lo, sz P e with
      | some h, some l, some size => cond (size.beq esz) (.ok (nd R fs (.bin .le (.lit 0) eo) ++ (nd R fs (.bin .le (.lit 0) l) ++ (nd R fs (.bin .le l h) ++ nd R fs (.bin .le h cap)))) (.slice n oc (addX eo l) (mk .sub h l) (mk .sub cap l) esz ex)) .no
      | _, _, _ => .no
    | some (.array len e), some (.ptr n off), some lo, some hi => match boundS (.lit len) hi, boundS (.lit 0) lo, sz P e with
      | some h, some l, some size => .ok (nd R fs (.bin .le (.lit 0) l) ++ (nd R fs (.bin .le l h) ++ nd R fs (.bin .le h (.lit len)))) (.slice n off l (mk .sub h l) (mk .sub (.lit len) l) size true)
      | _, _, _ => .no
    | _, _, _, _ => .no
  | .fieldAddr s x f => match P.underlying s, evS T x with
    | some (.struct fs), some (.ptr n off) => match fs[f]? with
      | some f => match sz P f.type with
        | some (_ + 1) => .ok [] (.ptr n (off + f.offset))
        | _ => .no
      | none => .no
    | some (.struct fs), some (.eptr n i s c) => match fs[f]? with
      | some f => match sz P f.type with
        | some (_ + 1) => .ok [] (.eptr n i s (c + f.offset))
        | _ => .no
      | none => .no
    | _, _ => .no
  | .field t x f => match P.underlying t, evS T x with
    | some (.struct fs), some (.agg cs) => match fs[f]? with
      | some f => match partS P f.type cs f.offset with
        | some v => .ok [] v
        | none => .no
      | none => .no
    | _, _ => .no
  | .indexAddr t x ix => match P.underlying t, evS T x, evS T ix with
    | some (.array len e), some (.ptr n off), some (.int _ i) => match sz P e with
      | some s => .ok (nd R fs (.bin .le (.lit 0) i) ++ nd R fs (.bin .lt i (.lit len))) (eAt n off i s)
      | _ => .no
    | some (.slice e), some (.slice n oc eo len _ esz _), some (.int _ i) => match sz P e with
      | some s => cond (s.beq esz) (.ok (nd R fs (.bin .le (.lit 0) eo) ++ (nd R fs (.bin .le (.lit 0) i) ++ nd R fs (.bin .lt i len))) (eAt n oc (addX eo i) s)) .no
      | _ => .no
    | _, _, _ => .no
  | .index t x ix => match P.underlying t, evS T x, evS T ix with
    | some (.array len e), some (.agg cs), some (.int _ i) => match pickIx R fs i len len 0 with
      | .ok _ j => match sz P e with
        | some s => cond (j.blt len) (match partS P e cs (j * s) with
          | some v => .ok [] v
          | none => .no) .no
        | none => .no
      | .ask b => match sz P e with
        | some s => cond (len.ble 32) (match selV P e cs 0 s i len 0 with
          | some v => .ok (nd R fs (.bin .le (.lit 0) i) ++ nd R fs (.bin .lt i (.lit len))) v
          | none => .ask b) (.ask b)
        | none => .ask b
      | .no => .no
    | _, _, _ => .no
  | .extract x i => match evS T x with
    | some (.tuple vs) => match vs[i]? with
      | some v => .ok [] v
      | none => .no
    | _ => .no
  | .call { callee := .builtin .max, args, .. } => match evLS T args.toList with
    | some [.int k a, .int _ b] => .ok [] (.int k (maxS R fs a b))
    | _ => .no
  | .call { callee := .builtin .min, args, .. } => match evLS T args.toList with
    | some [.int k a, .int _ b] => .ok [] (.int k (minS R fs a b))
    | _ => .no
  | _ => .no
end ops

section
variable {P : Program} {ρ : Val} {R : Rgs} {fs : List X}
theorem zeroS_den (t : TypeId) : zero P t = (zeroS P t).map (SV.den ρ) := by
  unfold zeroS
  cases zero P t with
  | none => rfl
  | some z => simp only [Option.map_some, ofA_den]
theorem partS_den (t : TypeId) (cs : List SV) (off : Nat) : partT P t (SV.dens ρ cs) off = (partS P t cs off).map (SV.den ρ) := by
  unfold partT partS
  cases isAggT P t with
  | none => rfl
  | some b => cases b with
    | false => exact dens_get _ _
    | true =>
      cases sz P t with
      | none => rfl
      | some n =>
        simp only [takeN, dens_drop, dens_take, dens_length]
        cases ((cs.drop off).take n).length.beq n <;> rfl
theorem fillS_den (place : Nat → Option (Nat × Nat)) : ∀ (ps : List (Nat × SV)) (cs : List SV), fillL place (SV.dens ρ cs) (ps.map fun p => (p.1, p.2.den ρ)) = (fillS place cs ps).map (SV.dens ρ)
  | [], cs => rfl
  | (i, v) :: ps, cs => by
    simp only [List.map_cons, fillL, fillS]
    cases place i with
    | none => rfl
    | some x =>
      obtain ⟨off, size⟩ := x
      simp only [den_cells, dens_length, setAtS_den]
      cases v.cells.length.beq size <;> simp only [cond_true, cond_false] <;> try rfl
      cases (off + size).ble cs.length <;> simp only [cond_true, cond_false] <;> try rfl
      cases setAtS cs off v.cells with
      | none => rfl
      | some cs' => simp only [Option.map_some]; exact fillS_den place ps cs'
theorem buildS_den (t : TypeId) (z : List SV) (ps : List (Nat × SV)) : buildA P t (SV.dens ρ z) (ps.map fun p => (p.1, p.2.den ρ)) = (buildS P t z ps).map (SV.den ρ) := by
  have m1 : ∀ (o : Option (List SV)), (o.map (SV.dens ρ)).map AV.agg = (o.map SV.agg).map (SV.den ρ) := fun o => by cases o <;> rfl
  unfold buildA buildS
  cases P.underlying t with
  | none => rfl
  | some u =>
    cases u <;> try rfl
    · rename_i n e
      simp only
      cases sz P e with
      | none => rfl
      | some size => simp only [fillS_den, m1]
    · rename_i fs
      simp only
      cases placesA P fs.toList with
      | none => rfl
      | some pl => simp only [fillS_den, m1]
theorem repS_den (z : List SV) : ∀ n, repL (SV.dens ρ z) n = SV.dens ρ (repS z n)
  | 0 => rfl
  | n + 1 => by simp only [repL, repS, dens_append, repS_den z n]
theorem denB_lit (n : Int) : X.denB ρ (.lit n) = i2b n := rfl
theorem denB_ite (a b c : X) : X.denB ρ (.ite a b c) = cond (a.denB ρ) (b.denB ρ) (c.denB ρ) := by
  simp only [X.denB, X.den_ite]; cases i2b (X.den ρ a) <;> rfl
theorem mkEqB_den (a b : X) : (mkEqB a b).denB ρ = (a.denB ρ == b.denB ρ) := by
  have e1 : ∀ (m : Int) (b : X), X.denB ρ (cond (i2b m) b (mkNot b)) = (X.denB ρ (.lit m) == b.denB ρ) := by
    intro m b
    rw [denB_lit]
    cases i2b m
    · rw [cond_false, mkNot_den]; generalize X.denB ρ b = q; cases q <;> rfl
    · rw [cond_true]; generalize X.denB ρ b = q; cases q <;> rfl
  have e2 : ∀ a b : X, X.denB ρ (.ite a b (.not b)) = (a.denB ρ == b.denB ρ) := by
    intro a b
    rw [denB_ite, X.denB_not]
    generalize X.denB ρ a = p; generalize X.denB ρ b = q; cases p <;> cases q <;> rfl
  unfold mkEqB
  split
  · simp only [denB_lit, i2b_b2i]
  · exact e1 _ _
  · rw [Bool.beq_comm]; exact e1 _ _
  · cases h : X.beq a b with
    | true => rw [cond_true, X.beq_eq h]; simp
    | false => rw [cond_false]; exact e2 _ _
theorem mkAnd_den (a b : X) : (mkAnd a b).denB ρ = (a.denB ρ && b.denB ρ) := by
  have e1 : ∀ (m : Int) (b : X), X.denB ρ (cond (i2b m) b (.lit 0)) = (X.denB ρ (.lit m) && b.denB ρ) := by
    intro m b
    rw [denB_lit]
    cases i2b m
    · rw [cond_false, Bool.false_and]; rfl
    · rw [cond_true, Bool.true_and]
  unfold mkAnd
  split
  · exact e1 _ _
  · rw [Bool.and_comm]; exact e1 _ _
  · exact X.denB_and _ _ _
theorem mk_denB (o : Bo) (a b : X) : (mk o a b).denB ρ = i2b (o.ev (a.den ρ) (b.den ρ)) := by simp only [X.denB, mk_den]
mutual
theorem eqvS_ok : ∀ {d : Nat} {t : TypeId} {x y : SV} {b : X}, eqvS P d t x y = some b → eqv P d t (x.den ρ) (y.den ρ) = some (b.denB ρ)
  | 0, _, _, _, _, h => by simp [eqvS] at h
  | d + 1, t, x, y, b, h => by
    unfold eqvS at h
    unfold eqv
    split at h <;> rename_i hu <;> first | (cases h; done) | skip
    · cases h; simp only [hu, SV.den, mkEqB_den]
    · cases hk : ikBeq _ _ <;> rw [hk] at h <;> cases h
      have := ikBeq_eq hk
      subst this
      simp only [hu, SV.den, if_true, mk_denB, Bo.ev, i2b_b2i]
    · cases h; simp only [hu, SV.den, X.denB, X.den_lit, i2b_b2i]
    · cases h; simp only [hu, SV.den]; rfl
    · cases h; simp only [hu, SV.den]; rfl
    · cases h; simp only [hu, SV.den]; rfl
    · cases h; simp only [hu, SV.den]; rfl
    · cases h; simp only [hu, SV.den]; rfl
    · cases h; simp only [hu, SV.den]; rfl
    · cases h; simp only [hu, SV.den]; rfl
    · cases h; simp only [hu, SV.den]; rfl
    · cases h; simp only [hu, SV.den]; rfl
    · cases h; simp only [hu, SV.den]; rfl
    · cases h; simp only [hu, SV.den]; rfl
    · cases h; simp only [hu, SV.den]; rfl
    · rename_i fs xs ys
      simp only [hu, SV.den]
      cases hs : P.stoodInHeld t <;> simp only [hs, cond_true, cond_false] at h ⊢
      · exact eqvFS_ok h
      · cases h
theorem eqvFS_ok : ∀ {d : Nat} {fs : List Field} {xs ys : List SV} {b : X}, eqvFS P d fs xs ys = some b → eqvF P d fs (SV.dens ρ xs) (SV.dens ρ ys) = some (b.denB ρ)
  | 0, _, _, _, _, h => by simp [eqvFS] at h
  | d + 1, [], _, _, _, h => by simp only [eqvFS, Option.some.injEq] at h; subst h; rfl
  | d + 1, f :: fs, xs, ys, b, h => by
    unfold eqvFS at h
    unfold eqvF
    split at h
    · rename_i hf
      rw [if_pos hf]; exact eqvFS_ok h
    · rename_i hf
      rw [if_neg hf]
      split at h <;> try (cases h; done)
      rename_i x y hx hy
      split at h <;> try (cases h; done)
      rename_i a c ha hc
      have h1 := eqvS_ok ha
      have h2 := eqvFS_ok hc
      cases h
      simp only [partS_den, hx, hy, Option.map_some, h1, mkAnd_den]
      cases X.denB ρ a with
      | true => simpa using h2
      | false => rfl
end
theorem guardOkS_den (t : TypeId) (x y : SV) : guardOk P t (x.den ρ) (y.den ρ) = guardOkS P t x y := by cases x <;> cases y <;> rfl
theorem okI_ok {k k' : IntKind} {v w : SV} {n : List X} (h : okI k k' v = .ok n w) : k = k' ∧ v = w := by
  unfold okI at h
  cases hk : ikBeq k k' <;> rw [hk] at h <;> cases h
  exact ⟨ikBeq_eq hk, rfl⟩
theorem le_need {a b : X} (hR : R.ok ρ) (hf : Fcs ρ fs) (h : Fcs ρ (nd R fs (.bin .le a b))) : a.den ρ ≤ b.den ρ := by
  have := nd_ok hR hf h; simpa using this
theorem lt_need {a b : X} (hR : R.ok ρ) (hf : Fcs ρ fs) (h : Fcs ρ (nd R fs (.bin .lt a b))) : a.den ρ < b.den ρ := by
  have := nd_ok hR hf h; simpa using this
theorem not_zero {b : X} (hR : R.ok ρ) (hf : Fcs ρ fs) (h : Fcs ρ (nd R fs (.not (.bin .eq b (.lit 0))))) : b.den ρ ≠ 0 := by
  have := nd_ok hR hf h
  simpa using this
theorem binV_int {op : BinOp} {t : TypeId} {k k' : IntKind} {a b : Int} (h1 : op ≠ .shl) (h2 : op ≠ .shr) : binV P op t (.int k a) (.int k' b) = if k = k' then arith op k a b else none := by
  cases op <;> first | rfl | (exact absurd rfl h1) | (exact absurd rfl h2)
theorem shr_neg {a : Int} {j : Nat} (hj : j ≤ 64) (h : -18446744073709551616 ≤ a) : (a + 18446744073709551616).tdiv (2 ^ j) - 18446744073709551616 / 2 ^ j = a.fdiv (2 ^ j) := by
  have e : (18446744073709551616 : Int) = 2 ^ (64 - j) * 2 ^ j := by
    rw [← Int.pow_add, show 64 - j + j = 64 by omega]; rfl
  have p : (0 : Int) < 2 ^ j := Int.pow_pos (by decide)
  rw [Int.tdiv_eq_ediv_of_nonneg (by omega), Int.fdiv_eq_ediv_of_nonneg _ (Int.le_of_lt p), e, Int.add_mul_ediv_right _ _ (Int.ne_of_gt p), Int.mul_ediv_cancel _ (Int.ne_of_gt p)]
  omega
theorem shr_ok (hR : R.ok ρ) (hf : Fcs ρ fs) {k : IntKind} {a : X} {n : List X} {v : SV} {j : Nat} (hj : j ≤ 64)
    (h : (match nd R fs (.bin .le (.lit 0) a) with
      | [] => PR.ok [] (SV.int k (.bin .quo a (.lit (2 ^ j))))
      | _ :: _ => .ok (nd R fs (.bin .le (.lit (-18446744073709551616)) a)) (SV.int k (.bin .sub (.bin .quo (.bin .add a (.lit 18446744073709551616)) (.lit (2 ^ j))) (.lit (18446744073709551616 / 2 ^ j))))) = .ok n v)
    (hn : Fcs ρ n) : v.den ρ = AV.int k ((a.den ρ).fdiv (2 ^ j)) := by
  cases hz : nd R fs (.bin .le (.lit 0) a) with
  | nil =>
    rw [hz] at h; cases h
    have h0 := le_need (a := .lit 0) (b := a) hR hf (by rw [hz]; exact hn)
    have h0 : 0 ≤ X.den ρ a := h0
    simp only [SV.den, X.den_quo, X.den_lit]
    rw [Int.tdiv_eq_ediv_of_nonneg h0, Int.fdiv_eq_ediv_of_nonneg]
    exact Int.le_of_lt (Int.pow_pos (by decide))
  | cons z zs =>
    rw [hz] at h; cases h
    have h0 := le_need hR hf hn
    have h0 : -18446744073709551616 ≤ X.den ρ a := h0
    simp only [SV.den, X.den_sub, X.den_add, X.den_quo, X.den_lit]
    rw [shr_neg hj h0]
theorem mask1 (k : IntKind) {a : Int} (h : 0 ≤ a) : k.wrap (BitVec.ofInt k.bits a &&& BitVec.ofInt k.bits 1).toNat = a.tmod 2 := by
  have e : (BitVec.ofInt k.bits a &&& BitVec.ofInt k.bits 1).toNat = (a % 2).toNat := by
    rw [BitVec.toNat_and, BitVec.toNat_ofInt, BitVec.toNat_ofInt]
    have h1 : ((1 : Int) % ((2 ^ k.bits : Nat) : Int)).toNat = 1 := by cases k <;> rfl
    rw [h1, Nat.and_one_is_mod]
    cases k <;> simp only [IntKind.bits] <;> omega
  have hk : k.min ≤ 0 ∧ 1 ≤ k.max := by cases k <;> decide
  rw [e, Int.tmod_eq_emod_of_nonneg h, show ((a % 2).toNat : Int) = a % 2 by omega]
  exact wrap_id (by omega) (by omega)
theorem binI_ok (hR : R.ok ρ) (hf : Fcs ρ fs) {op : BinOp} {t : TypeId} {k k' : IntKind} {a b : X} {n : List X} {v : SV} (h : binI R fs op k k' a b = .ok n v) (hn : Fcs ρ n) :
    binV P op t (.int k (a.den ρ)) (.int k' (b.den ρ)) = some (v.den ρ) := by
  have bit : ∀ {op : BinOp}, (cond (ikBeq k k') (match bitS op k a b with
    | some x => PR.ok [] (SV.int k x)
    | none => .no) .no) = .ok n v → op ≠ .shl → op ≠ .shr → binV P op t (.int k (a.den ρ)) (.int k' (b.den ρ)) = some (v.den ρ) := by
    intro op hb h1 h2
    cases hk : ikBeq k k' <;> rw [hk] at hb <;> simp only [cond_true, cond_false] at hb <;> try (cases hb; done)
    have := ikBeq_eq hk
    subst this
    split at hb <;> cases hb
    rename_i x hx
    unfold bitS at hx
    split at hx <;> try (cases hx; done)
    split at hx <;> cases hx
    rename_i k2 r hr
    have hk2 : k2 = k := by cases op <;> simp only [arith] at hr <;> first | (cases hr; rfl) | (split at hr <;> cases hr; rfl) | cases hr
    subst hk2
    rw [binV_int h1 h2, if_pos rfl]
    simp only [X.den_lit, hr, SV.den]
  have cmp : ∀ {o : Bo} {c d : X} {op : BinOp} {r : Bool}, okI k k' (mkB o c d) = .ok n v → (∀ m, k = m → binV P op t (.int m (a.den ρ)) (.int k' (b.den ρ)) = some (.bool r) ∨ k ≠ k') → i2b (o.ev (c.den ρ) (d.den ρ)) = r →
      binV P op t (.int k (a.den ρ)) (.int k' (b.den ρ)) = some (v.den ρ) := by
    intro o c d op r h h1 h2
    obtain ⟨e, rfl⟩ := okI_ok h
    rcases h1 k rfl with h1 | h1
    · rw [h1, mkB_den, h2]
    · exact absurd e h1
  cases op <;> simp only [binI] at h
  case add => obtain ⟨rfl, rfl⟩ := okI_ok h; simp only [binV, if_true, arith, SV.den, wr_den hR hf, mk_den, Bo.ev]
  case sub => obtain ⟨rfl, rfl⟩ := okI_ok h; simp only [binV, if_true, arith, SV.den, wr_den hR hf, mk_den, Bo.ev]
  case mul => obtain ⟨rfl, rfl⟩ := okI_ok h; simp only [binV, if_true, arith, SV.den, wr_den hR hf, mk_den, Bo.ev]
  case quo =>
    cases hk : ikBeq k k' <;> rw [hk] at h <;> cases h
    have := ikBeq_eq hk
    subst this
    simp only [binV, if_true, arith, if_neg (not_zero hR hf hn), SV.den, wr_den hR hf, mk_den, Bo.ev]
  case rem =>
    cases hk : ikBeq k k' <;> rw [hk] at h <;> cases h
    have := ikBeq_eq hk
    subst this
    simp only [binV, if_true, arith, if_neg (not_zero hR hf hn), SV.den, mk_den, Bo.ev]
  case eql => obtain ⟨rfl, rfl⟩ := okI_ok h; simp only [binV, if_true, arith, mkB_den, Bo.ev, i2b_b2i]
  case neq => obtain ⟨rfl, rfl⟩ := okI_ok h; simp only [binV, if_true, arith, SV.den, mkNot_den, mk_denB, Bo.ev, i2b_b2i]; rfl
  case lss => obtain ⟨rfl, rfl⟩ := okI_ok h; simp only [binV, if_true, arith, mkB_den, Bo.ev, i2b_b2i]
  case leq => obtain ⟨rfl, rfl⟩ := okI_ok h; simp only [binV, if_true, arith, mkB_den, Bo.ev, i2b_b2i]
  case gtr => obtain ⟨rfl, rfl⟩ := okI_ok h; simp only [binV, if_true, arith, mkB_den, Bo.ev, i2b_b2i]
  case geq => obtain ⟨rfl, rfl⟩ := okI_ok h; simp only [binV, if_true, arith, mkB_den, Bo.ev, i2b_b2i]
  case shl =>
    split at h <;> try (cases h; done)
    rename_i m
    cases hm : decide (m < 0) <;> rw [hm] at h <;> cases h
    simp only [decide_eq_false_iff_not] at hm
    have hm : ¬ X.den ρ (.lit m) < 0 := hm
    simp only [binV]
    rw [if_neg hm]
    simp only [SV.den, wr_den hR hf, mk_den, Bo.ev, X.den_lit]
  case shr =>
    split at h <;> try (cases h; done)
    rename_i m
    cases hm : decide (m < 0) <;> rw [hm] at h <;> simp only [cond_true, cond_false] at h <;> try (cases h; done)
    simp only [decide_eq_false_iff_not] at hm
    split at h
    · cases h; have hm : ¬ X.den ρ (.lit m) < 0 := hm
      simp only [binV]; rw [if_neg hm]; rfl
    · have hm : ¬ X.den ρ (.lit m) < 0 := hm
      simp only [binV]
      rw [if_neg hm]
      exact congrArg some (shr_ok hR hf (Nat.le_trans (Nat.min_le_right _ _) (by cases k <;> decide)) h hn).symm
  case and =>
    cases hk : ikBeq k k' <;> rw [hk] at h <;> simp only [cond_true, cond_false] at h <;> try (cases h; done)
    cases hx : bitS .and k a b with
    | some x =>
      rw [hx] at h
      exact bit (op := .and) (by rw [hk, hx]; exact h) (by simp) (by simp)
    | none =>
      rw [hx] at h
      dsimp only at h
      split at h <;> try (cases h; done)
      rename_i m
      cases hm : intBeq m 1 <;> rw [hm] at h <;> cases h
      have hm := intBeq_eq hm
      subst hm
      have h0 := le_need hR hf hn
      have h0 : 0 ≤ X.den ρ a := h0
      have hk := ikBeq_eq hk
      subst hk
      rw [binV_int (by simp) (by simp), if_pos rfl]
      simp only [arith, SV.den, X.den_rem, X.den_lit, mask1 _ h0]
  all_goals exact bit h (by simp) (by simp)
theorem binS_ok (hR : R.ok ρ) (hf : Fcs ρ fs) {op : BinOp} {t : TypeId} {x y : SV} {n : List X} {v : SV} (h : binS P R fs op t x y = .ok n v) (hn : Fcs ρ n) :
    binV P op t (x.den ρ) (y.den ρ) = some (v.den ρ) := by
  unfold binS at h
  split at h
  · exact binI_ok hR hf h hn
  · rename_i a b
    split at h <;> cases h
    rename_i w hw
    have : op = .eql ∨ op = .neq := by cases op <;> simp only [strOp] at hw <;> first | (cases hw; done) | simp
    rw [ofA_den]
    rcases this with rfl | rfl <;> simp only [binV, SV.den] <;> exact hw
  · rename_i h1 h2
    have nov : ∀ k a k' b, x.den ρ = .int k a → y.den ρ = .int k' b → False := by
      intro k a k' b e1 e2
      cases x <;> simp only [SV.den] at e1 <;> try (cases e1; done)
      cases y <;> simp only [SV.den] at e2 <;> try (cases e2; done)
      exact h1 _ _ _ _ rfl rfl
    have nos : ∀ a b, x.den ρ = .str a → y.den ρ = .str b → False := by
      intro a b e1 e2
      cases x <;> simp only [SV.den] at e1 <;> try (cases e1; done)
      cases y <;> simp only [SV.den] at e2 <;> try (cases e2; done)
      exact h2 _ _ rfl rfl
    split at h
    · cases hg : guardOkS P t x y <;> rw [hg] at h <;> simp only [cond_true, cond_false] at h <;> try (cases h; done)
      split at h <;> cases h
      rename_i b hb
      have hb := eqvS_ok (ρ := ρ) hb
      rw [← guardOkS_den (ρ := ρ)] at hg
      unfold binV
      split <;> first | (exact (nov _ _ _ _ (by assumption) (by assumption)).elim) | (exact (nos _ _ (by assumption) (by assumption)).elim) | skip
      all_goals first | (simp only [hg, cond_true, hb, Option.map_some, SV.den]; done) | (simp_all; done)
    · cases hg : guardOkS P t x y <;> rw [hg] at h <;> simp only [cond_true, cond_false] at h <;> try (cases h; done)
      split at h <;> cases h
      rename_i b hb
      have hb := eqvS_ok (ρ := ρ) hb
      rw [← guardOkS_den (ρ := ρ)] at hg
      unfold binV
      split <;> first | (exact (nov _ _ _ _ (by assumption) (by assumption)).elim) | (exact (nos _ _ (by assumption) (by assumption)).elim) | skip
      all_goals first | (simp only [hg, cond_true, hb, Option.map_some, SV.den, mkNot_den]; done) | (simp_all; done)
    · cases h
theorem unS_ok (hR : R.ok ρ) (hf : Fcs ρ fs) {op : UnOp} {x : SV} {n : List X} {v : SV} (h : unS R fs op x = .ok n v) : unV op (x.den ρ) = some (v.den ρ) := by
  unfold unS at h
  split at h <;> cases h
  · simp only [unV, SV.den, wr_den hR hf, mk_den, Bo.ev, X.den_lit]
  · simp only [unV, SV.den, mkNot_den]
theorem pickIx_ok (hR : R.ok ρ) (hf : Fcs ρ fs) {i : X} {n : Nat} : ∀ {f j k : Nat} {l : List X}, pickIx R fs i n f j = .ok l k → i.den ρ = k
  | 0, _, _, _, h => by cases h
  | f + 1, j, k, l, h => by
    simp only [pickIx] at h
    split at h
    · rename_i e
      cases h
      have := X.dec_ok hR hf _ e
      rw [mk_denB] at this
      simpa [Bo.ev] using this
    · cases h
    · exact pickIx_ok hR hf h
mutual
theorem iteV_ok {c : X} : ∀ {a b v : SV}, iteV c a b = some v → v.den ρ = cond (c.denB ρ) (a.den ρ) (b.den ρ) := by
  intro a b v h
  cases a <;> cases b <;> simp only [iteV] at h <;> try (cases h; done)
  · rename_i k a k' b
    cases hk : ikBeq k k' <;> rw [hk] at h <;> cases h
    have := ikBeq_eq hk
    subst this
    simp only [SV.den, X.den_ite]
    cases c.denB ρ <;> rfl
  · cases h
    simp only [SV.den, denB_ite]
    cases c.denB ρ <;> rfl
  · split at h <;> cases h
    rename_i l hl
    simp only [SV.den, iteVs_ok hl]
    cases c.denB ρ <;> rfl
theorem iteVs_ok {c : X} : ∀ {a b v : List SV}, iteVs c a b = some v → SV.dens ρ v = cond (c.denB ρ) (SV.dens ρ a) (SV.dens ρ b) := by
  intro a b v h
  match a, b with
  | [], [] => simp only [iteVs] at h; cases h; cases c.denB ρ <;> rfl
  | [], _ :: _ => simp only [iteVs] at h; cases h
  | _ :: _, [] => simp only [iteVs] at h; cases h
  | a :: l, b :: m =>
    simp only [iteVs] at h
    split at h <;> cases h
    rename_i x y h1 h2
    simp only [SV.dens, iteV_ok h1, iteVs_ok h2]
    cases c.denB ρ <;> rfl
end
theorem selV_ok {t : TypeId} {cs : List SV} {c s : Nat} {i : X} : ∀ {n j : Nat} {v : SV}, selV P t cs c s i n j = some v → (j : Int) ≤ i.den ρ → i.den ρ < j + n → partT P t (SV.dens ρ cs) (c + (i.den ρ).toNat * s) = some (v.den ρ)
  | 0, _, _, h, _, _ => by simp only [selV] at h; cases h
  | 1, j, v, h, h1, h2 => by
    simp only [selV] at h
    rw [show (i.den ρ).toNat = j by omega, partS_den, h]; rfl
  | n + 2, j, v, h, h1, h2 => by
    simp only [selV] at h
    split at h <;> try (cases h; done)
    rename_i a b ha hb
    rw [iteV_ok h, mk_denB]
    simp only [Bo.ev, X.den_lit, i2b_b2i]
    by_cases e : i.den ρ = j
    · rw [show (i.den ρ == (j : Int)) = true by simpa using e, cond_true, show (i.den ρ).toNat = j by omega, partS_den, ha]; rfl
    · rw [show (i.den ρ == (j : Int)) = false by simpa using e, cond_false]
      exact selV_ok hb (by omega) (by omega)
theorem maxS_den (hR : R.ok ρ) (hf : Fcs ρ fs) (a b : X) : (maxS R fs a b).den ρ = if b.den ρ > a.den ρ then b.den ρ else a.den ρ := by
  unfold maxS
  split
  · rename_i e; have := X.dec_ok hR hf _ e; simp at this; rw [if_pos (by omega)]
  · rename_i e; have := X.dec_ok hR hf _ e; simp at this; rw [if_neg (by omega)]
  · rw [mk_den]; rfl
theorem minS_den (hR : R.ok ρ) (hf : Fcs ρ fs) (a b : X) : (minS R fs a b).den ρ = if b.den ρ < a.den ρ then b.den ρ else a.den ρ := by
  unfold minS
  split
  · rename_i e; have := X.dec_ok hR hf _ e; simp at this; rw [if_pos (by omega)]
  · rename_i e; have := X.dec_ok hR hf _ e; simp at this; rw [if_neg (by omega)]
  · rw [mk_den]; rfl
theorem eAt_den (n oc : Nat) (i : X) (s : Nat) : (eAt n oc i s).den ρ = .ptr n (oc + (i.den ρ).toNat * s) := by
  unfold eAt
  split
  · simp [SV.den]
  · simp only [SV.den]
theorem optS_den (T : SE) (x : Option Operand) : optE (eD ρ T) x = (optS T x).map (fun o => o.map (SV.den ρ)) := by
  cases x with
  | none => rfl
  | some x =>
    simp only [optE, optS, evS_den]
    cases evS T x <;> rfl
theorem natOf_den {k : IntKind} {x : X} (h : 0 ≤ x.den ρ) : natOf (.int k (x.den ρ)) = some (x.den ρ).toNat := by
  generalize x.den ρ = n at h
  cases n with
  | ofNat m => rfl
  | negSucc m => omega
theorem limA_den {len : X} {o : Option SV} {h : X} (e : boundS len o = some h) (h0 : 0 ≤ h.den ρ) : limA (len.den ρ).toNat (o.map (SV.den ρ)) = some (h.den ρ).toNat := by
  unfold boundS at e
  split at e <;> cases e
  · rfl
  · simp only [Option.map_some, limA, SV.den]; exact natOf_den h0
theorem bounds_den {len cap : X} {lo hi : Option SV} {l h : X} (e1 : boundS len hi = some h) (e2 : boundS (.lit 0) lo = some l) (h0 : 0 ≤ l.den ρ) (h1 : l.den ρ ≤ h.den ρ) (h2 : h.den ρ ≤ cap.den ρ) :
    bounds (len.den ρ).toNat (cap.den ρ).toNat (lo.map (SV.den ρ)) (hi.map (SV.den ρ)) = some ((l.den ρ).toNat, (h.den ρ).toNat) := by
  have g1 := limA_den (ρ := ρ) e1 (by omega)
  have g2 := limA_den (ρ := ρ) e2 h0
  simp only [X.den_lit, Int.toNat_zero] at g2
  have b1 : Nat.ble (l.den ρ).toNat (h.den ρ).toNat = true := Nat.ble_eq_true_of_le (by omega)
  have b2 : Nat.ble (h.den ρ).toNat (cap.den ρ).toNat = true := Nat.ble_eq_true_of_le (by omega)
  simp only [bounds, g1, g2, b1, b2, cond_true]
theorem PR.ok_inj {α : Type} {n m : List X} {a b : α} (h : PR.ok n a = .ok m b) : n = m ∧ a = b := by cases h; exact ⟨rfl, rfl⟩
set_option maxHeartbeats 1000000 in
theorem pureS_ok (hR : R.ok ρ) (hf : Fcs ρ fs) {T : SE} {o : Op} {n : List X} {v : SV} (h : pureS P R fs T o = .ok n v) (hn : Fcs ρ n) : pureE P (eD ρ T) o = some (v.den ρ) := by
  have one : ∀ {x : Option SV} {v : SV} {n : List X}, (match x with
    | some v => PR.ok [] v
    | none => .no) = .ok n v → x = some v := by
    intro x v n h; cases x <;> cases h; rfl
  cases o <;> simp only [pureS] at h <;> try (cases h; done)
  case move x => simp only [pureE, evS_den, one h, Option.map_some]
  case assign x => simp only [pureE, evS_den, one h, Option.map_some]
  case pick c a b =>
    split at h <;> try (cases h; done)
    rename_i x hx
    simp only [pureE, evS_den, hx, Option.map_some, SV.den]
    split at h
    · rename_i e; rw [X.dec_ok hR hf _ e]; simp only [cond_true, one h, Option.map_some]
    · rename_i e; rw [X.dec_ok hR hf _ e]; simp only [cond_false, one h, Option.map_some]
    · cases h
  case build t parts =>
    split at h <;> try (cases h; done)
    rename_i z ps h1 h2
    simp only [pureE, zeroS_den (ρ := ρ), evPS_den, h1, h2, Option.map_some, den_cells, buildS_den, one h]
  case nilCheck x =>
    split at h <;> cases h <;> rename_i h1 <;> simp only [pureE, evS_den, h1, Option.map_some, SV.den]
  case binOp op t x y u =>
    split at h <;> try (cases h; done)
    rename_i h1 h2
    simp only [pureE, evS_den, h1, h2, Option.map_some]
    exact binS_ok hR hf h hn
  case unOp op t x =>
    split at h <;> try (cases h; done)
    rename_i h1
    simp only [pureE, evS_den, h1, Option.map_some]
    exact unS_ok hR hf h
  case convert a b x =>
    split at h <;> cases h
    · rename_i h1 h2 h3; simp only [pureE, evS_den, h1, h2, h3, Option.map_some, SV.den, wr_den hR hf]
    · rename_i h1 h2 h3; simp only [pureE, evS_den, h1, h2, h3, Option.map_some, SV.den]
  case makeFunc f a b =>
    cases f <;> simp only [pureS] at h <;> try (cases h; done)
    split at h <;> cases h
    rename_i h1 h2
    simp only [pureE, evLS_den, h1, h2, Option.map_some, SV.den]
  case slice t x lo hi mx =>
    cases mx <;> simp only [pureS] at h <;> try (cases h; done)
    split at h <;> try (cases h; done)
    · rename_i e lo hi h1 h2 h3 h4
      split at h <;> try (cases h; done)
      rename_i hh ll s g1 g2 g3
      obtain ⟨rfl, rfl⟩ := PR.ok_inj h
      obtain ⟨n1, n2⟩ := hn.split
      obtain ⟨n2, n3⟩ := n2.split
      have k1 := le_need hR hf n1
      have k2 := le_need hR hf n2
      have k3 := le_need hR hf n3
      have := bounds_den (ρ := ρ) g1 g2 k1 k2 k3
      simp only [X.den_lit, Int.toNat_zero] at this
      simp only [pureE, evS_den, optS_den, h1, h2, h3, h4, Option.map_some, SV.den, this, g3]
    · rename_i e n1 oc eo len cap esz ex lo hi h1 h2 h3 h4
      split at h <;> try (cases h; done)
      rename_i hh ll s g1 g2 g3
      cases hz : s.beq esz <;> rw [hz] at h <;> simp only [cond_true, cond_false] at h <;> try (cases h; done)
      obtain ⟨rfl, rfl⟩ := PR.ok_inj h
      obtain ⟨n0, n1⟩ := hn.split
      obtain ⟨n1, n2⟩ := n1.split
      obtain ⟨n2, n3⟩ := n2.split
      have k0 := le_need hR hf n0
      have k1 := le_need hR hf n1
      have k2 := le_need hR hf n2
      have k3 := le_need hR hf n3
      simp only [X.den_lit] at k0 k1
      have := bounds_den (ρ := ρ) g1 g2 k1 k2 k3
      simp only [pureE, evS_den, optS_den, h1, h2, h3, h4, Option.map_some, SV.den, this, g3, hz, cond_true, addX, mk_den, Bo.ev]
      congr 2
      · rw [Int.toNat_add k0 k1, Nat.add_mul]; omega
      · omega
      · omega
    · rename_i len e n1 off lo hi h1 h2 h3 h4
      split at h <;> try (cases h; done)
      rename_i hh ll s g1 g2 g3
      obtain ⟨rfl, rfl⟩ := PR.ok_inj h
      obtain ⟨n1, n2⟩ := hn.split
      obtain ⟨n2, n3⟩ := n2.split
      have k1 := le_need hR hf n1
      have k2 := le_need hR hf n2
      have k3 := le_need hR hf n3
      simp only [X.den_lit] at k1 k3
      have := bounds_den (ρ := ρ) (cap := .lit len) g1 g2 k1 k2 k3
      simp only [X.den_lit, Int.toNat_natCast] at this
      simp only [pureE, evS_den, optS_den, h1, h2, h3, h4, Option.map_some, SV.den, this, g3, mk_den, Bo.ev, X.den_lit]
      congr 2
      · omega
      · omega
  case fieldAddr t x f =>
    split at h <;> try (cases h; done)
    · rename_i h1 h2
      split at h <;> try (cases h; done)
      rename_i h3
      split at h <;> cases h
      rename_i h4
      simp only [pureE, evS_den, h1, h2, h3, h4, Option.map_some, SV.den]
    · rename_i h1 h2
      split at h <;> try (cases h; done)
      rename_i h3
      split at h <;> cases h
      rename_i h4
      simp only [pureE, evS_den, h1, h2, h3, h4, Option.map_some, SV.den]
      congr 2; omega
  case field t x f =>
    split at h <;> try (cases h; done)
    rename_i h1 h2
    split at h <;> try (cases h; done)
    rename_i h3
    simp only [pureE, evS_den, h1, h2, h3, Option.map_some, SV.den, partS_den, one h]
  case indexAddr t x ix =>
    split at h <;> try (cases h; done)
    · rename_i len e n1 off k i h1 h2 h3
      split at h <;> try (cases h; done)
      rename_i s g1
      obtain ⟨rfl, rfl⟩ := PR.ok_inj h
      obtain ⟨n1, n2⟩ := hn.split
      have k1 := le_need hR hf n1
      have k2 := lt_need hR hf n2
      simp only [X.den_lit] at k1 k2
      have b : Nat.blt (i.den ρ).toNat len = true := by rw [Nat.blt_eq]; omega
      simp only [pureE, evS_den, h1, h2, h3, Option.map_some, SV.den, natOf_den k1, g1, b, cond_true, eAt_den]
    · rename_i e n1 oc eo len cap esz ex k i h1 h2 h3
      split at h <;> try (cases h; done)
      rename_i s g1
      cases hz : s.beq esz <;> rw [hz] at h <;> simp only [cond_true, cond_false] at h <;> try (cases h; done)
      obtain ⟨rfl, rfl⟩ := PR.ok_inj h
      obtain ⟨n0, n1⟩ := hn.split
      obtain ⟨n1, n2⟩ := n1.split
      have k0 := le_need hR hf n0
      have k1 := le_need hR hf n1
      have k2 := lt_need hR hf n2
      simp only [X.den_lit] at k0 k1
      have hz := Nat.eq_of_beq_eq_true hz
      subst hz
      have b : Nat.blt (i.den ρ).toNat (len.den ρ).toNat = true := by rw [Nat.blt_eq]; omega
      simp only [pureE, evS_den, h1, h2, h3, Option.map_some, SV.den, natOf_den k1, g1, b, cond_true, eAt_den, addX, mk_den, Bo.ev]
      congr 2
      rw [Int.toNat_add k0 k1, Nat.add_mul]; omega
  case index t x ix =>
    split at h <;> try (cases h; done)
    rename_i len e cs k i h1 h2 h3
    split at h <;> try (cases h; done)
    · rename_i j hj
      split at h <;> try (cases h; done)
      rename_i s g1
      cases hb : j.blt len <;> rw [hb] at h <;> simp only [cond_true, cond_false] at h <;> try (cases h; done)
      have e := pickIx_ok hR hf hj
      have : natOf (.int k (i.den ρ)) = some j := by rw [natOf_den (by omega), e]; rfl
      simp only [pureE, evS_den, h1, h2, h3, Option.map_some, SV.den, this, g1, hb, cond_true, partS_den, one h]
    · split at h <;> try (cases h; done)
      rename_i s g1
      cases hb : len.ble 32 <;> rw [hb] at h <;> simp only [cond_true, cond_false] at h <;> try (cases h; done)
      split at h <;> try (cases h; done)
      rename_i v hv
      obtain ⟨rfl, rfl⟩ := PR.ok_inj h
      obtain ⟨n1, n2⟩ := hn.split
      have k1 := le_need hR hf n1
      have k2 := lt_need hR hf n2
      simp only [X.den_lit] at k1 k2
      have := selV_ok (ρ := ρ) hv (by omega) (by omega)
      rw [Nat.zero_add] at this
      have hlt : (i.den ρ).toNat.blt len = true := by rw [Nat.blt_eq]; omega
      simp only [pureE, evS_den, h1, h2, h3, Option.map_some, SV.den, natOf_den k1, g1, hlt, cond_true, this]
  case extract x i =>
    split at h <;> try (cases h; done)
    rename_i h1
    simp only [pureE, evS_den, h1, Option.map_some, SV.den, dens_get, one h]
  case call c =>
    obtain ⟨callee, args, ats⟩ := c
    cases callee <;> try (cases h; done)
    rename_i b
    cases b <;> try (cases h; done)
    case max =>
      dsimp only at h
      split at h <;> cases h
      rename_i h1
      simp only [pureE, evLS_den, h1, Option.map_some, SV.dens, SV.den, maxS_den hR hf]
    case min =>
      dsimp only at h
      split at h <;> cases h
      rename_i h1
      simp only [pureE, evLS_den, h1, Option.map_some, SV.dens, SV.den, minS_den hR hf]
end
end Sx
end Abs
end Go.Proofs.YtekmmeikkafpmaaGreat
