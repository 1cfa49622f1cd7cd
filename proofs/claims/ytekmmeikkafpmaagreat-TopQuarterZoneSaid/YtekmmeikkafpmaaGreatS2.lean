/- Operations on what there is, with unknowns. -/
import Derived.Test.YtekmmeikkafpmaaGreatS1
set_option linter.unusedSimpArgs false
set_option linter.unusedVariables false
namespace Go.Proofs.YtekmmeikkafpmaaGreat
namespace Abs
namespace Sx

inductive HP where
  | val (v : SV) (H : SH) (nx : Nat)
  | call (g : FuncId) (vs : List SV)
  | yield (l : Nat) (vs : List SV)
section ops
variable (P : Program) (R : Rgs) (fs : List X)
def loadS (H : SH) (t : TypeId) (x : SV) : PR SV := match x with
  | .ptr n off => match H.get n with
    | some (.cells _ cs) => match partS P t cs off with
      | some v => .ok [] v
      | none => .no
    | some (.row _ len a cm) => cond (cm.length.beq 0) .no (match partS P t (cm.map (Cmp.at (.lit (off / cm.length : Nat)) a)) (off % cm.length) with
      | some v => .ok (nd R fs (.bin .lt (.lit (off / cm.length : Nat)) len)) v
      | none => .no)
    | _ => .no
  | .eptr n i s c => match H.get n with
    | some (.cells _ cs) => match pickIx R fs i cs.length (cs.length + 1) 0 with
      | .ok _ j => match partS P t cs (c + j * s) with
        | some v => .ok [] v
        | none => .no
      | .ask b => cond ((cs.length / s).ble 32) (match selV P t cs c s i (cs.length / s) 0 with
        | some v => .ok (nd R fs (.bin .le (.lit 0) i) ++ nd R fs (.bin .lt i (.lit (cs.length / s : Nat)))) v
        | none => .ask b) (.ask b)
      | .no => .no
    | some (.row _ len a cm) => cond (s.beq cm.length) (match partS P t (cm.map (Cmp.at i a)) c with
      | some v => .ok (nd R fs (.bin .le (.lit 0) i) ++ nd R fs (.bin .lt i len)) v
      | none => .no) .no
    | _ => .no
  | _ => .no
def setC (H : SH) (n off : Nat) (vs : List SV) : Option SH := match H.get n with
  | some (.cells true cs) => match setAtS cs off vs with
    | some cs => some (H.put n (.cells true cs))
    | none => none
  | _ => none
def storeS (H : SH) (nx : Nat) (a : SV) (vs : List SV) : PR HP := match a with
  | .ptr n off => match setC H n off vs with
    | some H => .ok [] (.val .undef H nx)
    | none => .no
  | .eptr n i s c => match H.get n with
    | some (.cells true cs) => match pickIx R fs i cs.length (cs.length + 1) 0 with
      | .ok _ j => match setC H n (c + j * s) vs with
        | some H => .ok [] (.val .undef H nx)
        | none => .no
      | .ask b => .ask b
      | .no => .no
    | _ => .no
  | _ => .no
def litN : SV → Option Nat
  | .int _ (.lit (.ofNat n)) => some n
  | _ => none
def keyEqS : SV → SV → Option X
  | .int k a, .int k' b => cond (ikBeq k k') (some (mk .eq a b)) none
  | .str a, .str b => some (.lit (b2i (a == b)))
  | .bool a, .bool b => some (mkEqB a b)
  | _, _ => none
def keyKindS (t : TypeId) (v : SV) : Bool := match P.underlying t, v with
  | some (.int _), .int _ _ => true
  | some .string, .str _ => true
  | some .bool, .bool _ => true
  | _, _ => false
def findKS (k : SV) : List (SV × SV × Nat) → Nat → PR (Option (Nat × SV))
  | [], _ => .ok [] none
  | e :: es, i => match keyEqS k e.1 with
    | some x => match X.dec R fs x with
      | some true => .ok [] (some (i, e.2.1))
      | some false => findKS k es (i + 1)
      | none => .ask x
    | none => .no
def flatCS : List SV → Bool
  | [] => true
  | .int _ _ :: l => flatCS l
  | .bool _ :: l => flatCS l
  | _ => false
def eqCX : List SV → List SV → Option X
  | [], [] => some (.lit 1)
  | .int k a :: l, .int k' b :: l' => cond (ikBeq k k') (match eqCX l l' with
    | some x => some (mkAnd (mk .eq a b) x)
    | none => none) none
  | .bool a :: l, .bool b :: l' => match eqCX l l' with
    | some x => some (mkAnd (mkEqB a b) x)
    | none => none
  | _, _ => none
def eqAggX : SV → SV → Option X
  | .agg a, .agg b => eqCX a b
  | _, _ => none
def flatTS (t : TypeId) (v : Option SV) : Bool := match P.underlying t, v with
  | some (.int _), some (.int _ _) => true
  | some .bool, some (.bool _) => true
  | _, _ => false
def keyStrS (t : TypeId) (v : SV) : Bool := match P.underlying t, v with
  | some (.struct fs), .agg cs => cond (flatCS cs) (fs.toList.all fun f => flatTS P f.type (partS P f.type cs f.offset)) false
  | _, _ => false
def isTr : Option Bool → Bool
  | some true => true
  | _ => false
def sureX (x : Option X) : Bool := match x with
  | some x => isTr (X.dec R fs x)
  | none => false
def findQS (t : TypeId) (k : SV) : List (SV × SV × Nat) → Nat → PR (Option (Nat × SV))
  | [], _ => .ok [] none
  | e :: es, i => match eqvS P 8 t k e.1 with
    | some x => match X.dec R fs x with
      | some true => cond (sureX R fs (eqAggX k e.1)) (.ok [] (some (i, e.2.1))) .no
      | some false => findQS t k es (i + 1)
      | none => .ask x
    | none => .no
def fndS (t : TypeId) (k : SV) (es : List (SV × SV × Nat)) : PR (Option (Nat × SV)) := cond (keyKindS P t k) (findKS R fs k es 0) (cond (keyStrS P t k) (findQS P R fs t k es 0) .no)
def mapAtS (H : SH) (r : Nat) : Option (List (SV × SV × Nat) × Nat) := match H.get r with
  | some (.map es c) => some (es, c)
  | _ => none
def lookS (ok : Bool) (o : Option SV) (z : SV) : SV := match o with
  | some v => cond ok (.tuple [v, .bool (.lit 1)]) v
  | none => cond ok (.tuple [z, .bool (.lit 0)]) z
def lookupS (H : SH) (nx : Nat) (ok : Bool) (kt : TypeId) (m k z : SV) : PR HP := match m with
  | .nilm => match fndS P R fs kt k [] with
    | .ok _ none => .ok [] (.val (lookS ok none z) H nx)
    | _ => .no
  | .map r => match mapAtS H r with
    | some (es, _) => match fndS P R fs kt k es with
      | .ok _ o => .ok [] (.val (lookS ok (o.map (·.2)) z) H nx)
      | .ask b => .ask b
      | .no => .no
    | none => .no
  | _ => .no
def updS (H : SH) (nx : Nat) (kt : TypeId) (r : Nat) (k v : SV) : PR HP := match mapAtS H r with
  | some (es, c) => match fndS P R fs kt k es with
    | .ok _ (some (i, _)) => .ok [] (.val .undef (H.put r (.map (es.modify i fun e => (k, v, e.2.2)) c)) nx)
    | .ok _ none => .ok [] (.val .undef (H.put r (.map (es ++ [(k, v, c)]) (c + 1))) nx)
    | .ask b => .ask b
    | .no => .no
  | none => .no
def lenS (H : SH) (t : TypeId) (x : SV) : PR X := match P.underlying t, x with
  | some .string, .str s => .ok [] (.lit s.size)
  | some (.array n _), _ => .ok [] (.lit n)
  | some (.slice _), .nils => .ok [] (.lit 0)
  | some (.slice _), .slice _ _ _ len _ _ _ => .ok (nd R fs (.bin .le (.lit 0) len)) len
  | some (.map _ _), .nilm => .ok [] (.lit 0)
  | some (.map _ _), .map r => match mapAtS H r with
    | some (es, _) => .ok [] (.lit es.length)
    | none => .no
  | _, _ => .no
inductive Src where
  | lits (cs : List SV) (k : Nat)
  | row (len a : X) (cm : List Cmp)
def takeS (cs : List SV) (off n : Nat) : Option (List SV) := cond (((cs.drop off).take n).length.beq n) (some ((cs.drop off).take n)) none
def elems (a : X) (cm : List Cmp) : Nat → Nat → List SV
  | _, 0 => []
  | i, n + 1 => cm.map (Cmp.at (.lit (i : Int)) a) ++ elems a cm (i + 1) n
def rowS (H : SH) (n off len size : Nat) : PR (List SV) := cond (len.beq 0) (.ok [] []) (match H.get n with
  | some (.cells _ cs) => match takeS cs off (len * size) with
    | some l => .ok [] l
    | none => .no
  | some (.row _ ln a cm) => cond (size.beq cm.length) (cond (size.beq 0) .no (cond ((off % size).beq 0) (.ok (nd R fs (.bin .le (.lit (off / size + len : Nat)) ln)) (elems a cm (off / size) len)) .no)) .no
  | _ => .no)
def srcS (H : SH) (size : Nat) (xt : TypeId) (x : SV) : PR Src := match P.underlying xt, x with
  | some (.slice _), .nils => .ok [] (.lits [] 0)
  | some (.slice _), .slice n oc (.lit (.ofNat eo)) (.lit (.ofNat k)) _ esz _ => cond (esz.beq size) (match rowS R fs H n (oc + eo * esz) k size with
    | .ok l cs => .ok l (.lits cs k)
    | .ask b => .ask b
    | .no => .no) .no
  | some (.slice _), .slice n oc eo len _ esz _ => cond (esz.beq size) (match X.dec R fs (.bin .eq len (.lit 0)) with
    | none => .ask (.bin .eq len (.lit 0))
    | some true => .ok [] (.lits [] 0)
    | some false => match H.get n with
      | some (.row _ ln a cm) => cond (oc.beq 0) (cond (X.beq eo (.lit 0)) (cond (X.beq ln len) (cond (size.beq cm.length) (.ok (nd R fs (.bin .le (.lit 1) len)) (.row len a cm)) .no) .no) .no) .no
      | _ => .no) .no
  | _, _ => .no
def eqCells : List SV → List SV → Option (List X)
  | [], [] => some []
  | .int k a :: l, .int k' b :: m => cond (ikBeq k k') (match eqCells l m with
    | some r => some (nd R fs (.bin .eq a b) ++ r)
    | none => none) none
  | .bool a :: l, .bool b :: m => match eqCells l m with
    | some r => some (nd R fs (mkEqB a b) ++ r)
    | none => none
  | _, _ => none
def elemsX (a i : X) (cm : List Cmp) : Nat → Nat → List SV
  | _, 0 => []
  | j, n + 1 => cm.map (Cmp.at (mk .add i (.lit (j : Int))) a) ++ elemsX a i cm (j + 1) n
def growS (H : SH) (nx size : Nat) (src : Src) (s : SV) : PR HP := match s, src with
  | .nils, .lits cs k => .ok [] (.val (.slice nx 0 (.lit 0) (.lit k) (.lit k) size false) (H.lay nx (.cells true cs)) (nx + 1))
  | .nils, .row len a cm => .ok [] (.val (.slice nx 0 (.lit 0) len len size false) (H.lay nx (.row true len a cm)) (nx + 1))
  | .slice n oc (.lit (.ofNat eo)) (.lit (.ofNat len)) cap esz ex, .lits cs k => cond (esz.beq size) (cond (small (len + k) 0) (match X.dec R fs (.bin .le (.lit (len + k : Nat)) cap) with
    | none => .ask (.bin .le (.lit (len + k : Nat)) cap)
    | some true => cond (cs.all SV.oneCell) (match setC H n (oc + eo * esz + len * esz) cs with
      | some H => .ok [] (.val (.slice n oc (.lit (.ofNat eo)) (.lit (len + k : Nat)) cap esz ex) H nx)
      | none => .no) .no
    | some false => match rowS R fs H n (oc + eo * esz) len esz with
      | .ok l old => cond ex (.ok l (.val (.slice nx 0 (.lit 0) (.lit (len + k : Nat)) (.lit (len + k : Nat)) esz false) (H.lay nx (.cells true (old ++ cs))) (nx + 1)))
        (cond (lends H.bad) .no (match H.get n with
          | some (.cells true old2) => cond ((oc + eo * esz).beq 0) (cond (old2.length.beq (len * esz)) (cond (cs.all SV.oneCell) (.ok l (.val (.slice nx 0 (.lit 0) (.lit (len + k : Nat)) (.lit (len + k : Nat)) esz false) ((H.del n).lay nx (.cells true (old ++ cs))) (nx + 1))) .no) .no) .no
          | _ => .no))
      | .ask b => .ask b
      | .no => .no) .no) .no
  | .slice n oc (.lit (.ofNat eo)) (.lit (.ofNat 0)) cap esz ex, .row len a cm => cond (esz.beq size) (match X.dec R fs (.bin .le len cap) with
    | some false => cond ex (.ok (nd R fs (.bin .le len (.lit 1000000))) (.val (.slice nx 0 (.lit 0) len len esz false) (H.lay nx (.row true len a cm)) (nx + 1))) .no
    | none => .ask (.bin .le len cap)
    | _ => .no) .no
  | .slice n oc (.lit (.ofNat eo)) len cap esz ex, .lits cs k => cond (esz.beq size) (cond ((oc + eo * esz).beq 0) (match X.dec R fs (.bin .le (mk .add len (.lit k)) cap), H.get n with
    | none, _ => .ask (.bin .le (mk .add len (.lit k)) cap)
    | some false, some (.row w ln a cm) => cond (X.beq ln len) (cond (esz.beq cm.length) (match eqCells R fs (elemsX a len cm 0 k) cs with
      | some ns => cond ex (.ok (nd R fs (.bin .le (.lit 0) len) ++ (nd R fs (.bin .le (mk .add len (.lit k)) (.lit 1000000)) ++ ns)) (.val (.slice nx 0 (.lit 0) (mk .add len (.lit k)) (mk .add len (.lit k)) esz false) (H.lay nx (.row true (mk .add len (.lit k)) a cm)) (nx + 1)))
        (cond (lends H.bad) .no (cond w (.ok (nd R fs (.bin .le (.lit 0) len) ++ (nd R fs (.bin .le (mk .add len (.lit k)) (.lit 1000000)) ++ ns)) (.val (.slice nx 0 (.lit 0) (mk .add len (.lit k)) (mk .add len (.lit k)) esz false) ((H.del n).lay nx (.row true (mk .add len (.lit k)) a cm)) (nx + 1))) .no))
      | none => .no) .no) .no
    | _, _ => .no) .no) .no
  | _, _ => .no
def appS (H : SH) (nx : Nat) (t xt : TypeId) (s x : SV) : PR HP := match P.underlying t with
  | some (.slice e) => match P.info? e, zeroS P e with
    | some i, some z => cond (z.cells.length.beq i.size) (match srcS P R fs H i.size xt x with
      | .ok l (.lits _ 0) => match s with
        | .nils => .ok l (.val .nils H nx)
        | .slice n oc eo len cap esz ex => .ok l (.val (.slice n oc eo len cap esz ex) H nx)
        | _ => .no
      | .ok l (.lits cs (k + 1)) => cond (small (k + 1) i.bytes) (cond (i.size.beq 0) .no (match growS R fs H nx i.size (.lits cs (k + 1)) s with
        | .ok l2 r => .ok (l ++ l2) r
        | .ask b => .ask b
        | .no => .no)) .no
      | .ok l (.row len a cm) => cond (small 0 i.bytes) (cond (i.size.beq 0) .no (match growS R fs H nx i.size (.row len a cm) s with
        | .ok l2 r => .ok (l ++ (nd R fs (.bin .le (.lit 1) len) ++ (nd R fs (.bin .le len (.lit 1000000)) ++ l2))) r
        | .ask b => .ask b
        | .no => .no)) .no
      | .ask b => .ask b
      | .no => .no) .no
    | _, _ => .no
  | _ => .no
def copyS (H : SH) (nx : Nat) (t : TypeId) (s x : SV) : PR HP := match P.underlying t, s, x with
  | some (.slice e), .slice n oc (.lit (.ofNat eo)) (.lit (.ofNat len)) _ esz _, .slice n2 oc2 (.lit (.ofNat eo2)) len2 _ esz2 _ => match sz P e with
    | some size => match pickIx R fs (minS R fs len2 (.lit len)) len (len + 1) 0 with
      | .ok _ k => cond (k.beq 0) (.ok [] (.val (.int .i64 (.lit 0)) H nx)) (cond (esz2.beq size) (match rowS R fs H n2 (oc2 + eo2 * esz2) k size with
        | .ok l src => cond (src.all SV.oneCell) (cond (size.beq 0) .no (match setC H n (oc + eo * esz) src with
          | some H => .ok l (.val (.int .i64 (.lit k)) H nx)
          | none => .no)) .no
        | .ask b => .ask b
        | .no => .no) .no)
      | .ask b => .ask b
      | .no => .no
    | none => .no
  | _, _, _ => .no
def clearS (H : SH) (t : TypeId) (x : SV) : Option SH := match P.underlying t, x with
  | some (.slice _), .nils => some H
  | some (.slice e), .slice n oc (.lit (.ofNat eo)) (.lit (.ofNat len)) _ esz _ => cond (len.beq 0) (some H) (match zeroS P e with
    | some z => cond (z.cells.length.beq esz) (cond (z.cells.all SV.oneCell) (cond (esz.beq 0) none (setC H n (oc + eo * esz) (repS z.cells len))) none) none
    | none => none)
  | _, _ => none
def heapS (T : SE) (H : SH) (nx : Nat) : Op → PR HP
  | .alloc t => match zeroS P t with
    | some z => .ok [] (.val (.ptr nx 0) (H.lay nx (.cells true z.cells)) (nx + 1))
    | none => .no
  | .box _ x => match evS T x with
    | some v => .ok [] (.val (.ptr nx 0) (H.lay nx (.cells true v.cells)) (nx + 1))
    | none => .no
  | .buildSlice t len parts => match P.underlying t with
    | some (.slice e) => match sz P e, zeroS P e, evPS T parts.toList with
      | some size, some z, some ps => cond (z.cells.length.beq size) (cond ((len * size).ble 10000) (
          match fillS (fun i => some (i * size, size)) (repS z.cells len) ps with
          | some cs => .ok [] (.val (.slice nx 0 (.lit 0) (.lit len) (.lit len) size true) (H.lay nx (.cells true cs)) (nx + 1))
          | none => .no) .no) .no
      | _, _, _ => .no
    | _ => .no
  | .load t x => match evS T x with
    | some x => match loadS P R fs H t x with
      | .ok l v => .ok l (.val v H nx)
      | .ask b => .ask b
      | .no => .no
    | _ => .no
  | .store t a v => match evS T a, evS T v, sz P t with
    | some a, some v, some size => cond (v.cells.length.beq size) (cond (v.cells.all SV.oneCell) (cond (size.beq 0) .no (storeS R fs H nx a v.cells)) .no) .no
    | _, _, _ => .no
  | .makeMap _ none => .ok [] (.val (.map nx) (H.lay nx (.map [] 0)) (nx + 1))
  | .makeSlice t l c => match P.underlying t, evS T l, evS T c with
    | some (.slice e), some l, some c => match P.info? e, zeroS P e, litN l, litN c with
      | some i, some z, some l, some c => cond (z.cells.length.beq i.size) (cond (l.ble c) (cond (small c i.bytes) (.ok [] (.val (.slice nx 0 (.lit 0) (.lit l) (.lit c) i.size true) (H.lay nx (.cells true (repS z.cells c))) (nx + 1))) .no) .no) .no
      | _, _, _, _ => .no
    | _, _, _ => .no
  | .lookup t x ix ok => match P.underlying t, evS T x, evS T ix with
    | some (.map kt et), some x, some k => match zeroS P et with
      | some z => lookupS P R fs H nx ok kt x k z
      | none => .no
    | _, _, _ => .no
  | .mapUpdate t m k v | .insert t m k v => match P.underlying t, evS T m, evS T k, evS T v with
    | some (.map kt _), some (.map r), some k, some v => updS P R fs H nx kt r k v
    | _, _, _, _ => .no
  | .range t x => match P.underlying t, evS T x with
    | some (.map _ _), some .nilm => .ok [] (.val (.ptr nx 0) (H.lay nx (.iter none 0 [] 0)) (nx + 1))
    | some (.map _ _), some (.map r) => match mapAtS H r with
      | some (_, c) => .ok [] (.val (.ptr nx 0) (H.lay nx (.iter (some r) c [] c)) (nx + 1))
      | none => .no
    | _, _ => .no
  | .next it false => match evS T it with
    | some (.ptr n 0) => match H.get n with
      | some (.iter none _ _ _) => .ok [] (.val (.tuple [.bool (.lit 0)]) H nx)
      | some (.iter (some r) since seen last) => match mapAtS H r with
        | some (es, c) => match nextA es since seen last with
          | some none => .ok [] (.val (.tuple [.bool (.lit 0)]) H nx)
          | some (some e) => .ok [] (.val (.tuple [.bool (.lit 1), e.1, e.2.1]) (H.put n (.iter (some r) since (seen ++ [e.2.2]) c)) nx)
          | none => .no
        | none => .no
      | _ => .no
    | _ => .no
  | .entry it => match evS T it with
    | some (.ptr n 0) => match H.get n with
      | some (.iter (some r) _ seen last) => match mapAtS H r, seen.getLast? with
        | some (es, c), some b => cond (c.beq last) (match es.find? (fun e => Nat.beq e.2.2 b) with
          | some e => .ok [] (.val (.tuple [e.1, e.2.1]) H nx)
          | none => .no) .no
        | _, _ => .no
      | _ => .no
    | _ => .no
  | .call { callee := .value f, args, .. } => match evS T f, evLS T args.toList with
    | some (.fn g first cap), some vs => .ok [] (.call g (first ++ vs ++ cap))
    | some (.yield l), some vs => .ok [] (.yield l vs)
    | _, _ => .no
  | .call { callee := .builtin .len, args, argTypes } => match evLS T args.toList, argTypes[0]? with
    | some [x], some t => match lenS P R fs H t x with
      | .ok l n => .ok l (.val (.int .i64 n) H nx)
      | .ask b => .ask b
      | .no => .no
    | _, _ => .no
  | .call { callee := .builtin .append, args, argTypes } => match evLS T args.toList, argTypes[0]?, argTypes[1]? with
    | some [s, x], some t, some xt => appS P R fs H nx t xt s x
    | _, _, _ => .no
  | .call { callee := .builtin .copy, args, argTypes } => match evLS T args.toList, argTypes[0]? with
    | some [s, x], some t => copyS P R fs H nx t s x
    | _, _ => .no
  | .call { callee := .builtin .clear, args, argTypes } => match evLS T args.toList, argTypes[0]? with
    | some [x], some t => match clearS P H t x with
      | some H => .ok [] (.val (.tuple []) H nx)
      | none => .no
    | _, _ => .no
  | _ => .no
end ops
end Sx
end Abs
end Go.Proofs.YtekmmeikkafpmaaGreat

namespace Go.Proofs.YtekmmeikkafpmaaGreat
namespace Abs
namespace Sx
section
variable {P : Program} {ρ : Val} {R : Rgs} {fs : List X}
theorem evO_den (T : SE) (x : Operand) : evalO (Tr.map (SV.den ρ) T) x = (evS T x).map (SV.den ρ) := by
  rw [← evE_get]; exact evS_den T x
theorem evOL_den (T : SE) (x : List Operand) : evalL (Tr.map (SV.den ρ) T) x = (evLS T x).map (SV.dens ρ) := by
  rw [← evLE_get]; exact evLS_den T x
theorem evOP_den (T : SE) (x : List (Nat × Operand)) : evalP (Tr.map (SV.den ρ) T) x = (evPS T x).map (fun l => l.map fun p => (p.1, p.2.den ρ)) := by
  rw [← evPE_get]; exact evPS_den T x
theorem at_cells {H : SH} {n : Nat} {w : Bool} {cs : List SV} (h : H.get n = some (.cells w cs)) : cellsAt (hD ρ H) n = some (SV.dens ρ cs) := by rw [hD_cellsAt h]; rfl
theorem at_row {H : SH} {n : Nat} {w : Bool} {len a : X} {cm : List Cmp} (h : H.get n = some (.row w len a cm)) : cellsAt (hD ρ H) n = some (rowD ρ cm (a.sem ρ) 0 (len.den ρ).toNat) := by rw [hD_cellsAt h]; rfl
theorem w_cells {H : SH} {n : Nat} {cs : List SV} (h : H.get n = some (.cells true cs)) : cellsW (hD ρ H) n = some (SV.dens ρ cs) := by
  unfold cellsW; rw [hD_get, h]; rfl
theorem w_row {H : SH} {n : Nat} {len a : X} {cm : List Cmp} (h : H.get n = some (.row true len a cm)) : cellsW (hD ρ H) n = some (rowD ρ cm (a.sem ρ) 0 (len.den ρ).toNat) := by
  unfold cellsW; rw [hD_get, h]; rfl
theorem part_pre {t : TypeId} {big a rest : List AV} {off c : Nat} {v : AV} (hd : big.drop off = a.drop c ++ rest) (h : partT P t a c = some v) : partT P t big off = some v := by
  unfold partT at h ⊢
  split at h
  · split at h <;> try (cases h; done)
    rename_i ha n hz
    simp only [takeN, Bool.cond_eq_ite] at h ⊢
    split at h <;> try (cases h; done)
    rename_i hl
    have hl := Nat.eq_of_beq_eq_true hl
    have : n ≤ (a.drop c).length := by rw [List.length_take] at hl; omega
    rw [hd, List.take_append_of_le_length this, if_pos (by rw [hl]; simp)]
    exact h
  · have e1 : big[off]? = (big.drop off)[0]? := by rw [List.getElem?_drop, Nat.add_zero]
    have e2 : a[c]? = (a.drop c)[0]? := by rw [List.getElem?_drop, Nat.add_zero]
    rw [e2] at h
    rw [e1, hd]
    cases hc : a.drop c with
    | nil => rw [hc] at h; cases h
    | cons x l => rw [hc] at h; exact h
  · cases h
theorem row_part {t : TypeId} {cm : List Cmp} {a i : X} {n c : Nat} {v : SV} (h0 : 0 ≤ i.den ρ) (hn : (i.den ρ).toNat < n) (h : partS P t (cm.map (Cmp.at i a)) c = some v) :
    partT P t (rowD ρ cm (a.sem ρ) 0 n) (c + (i.den ρ).toNat * cm.length) = some (v.den ρ) := by
  refine part_pre (rowD_part cm a i n c h0 hn) ?_
  rw [partS_den, h]; rfl
theorem loadS_ok (hR : R.ok ρ) (hf : Fcs ρ fs) {H : SH} {t : TypeId} {x : SV} {l : List X} {v : SV} (h : loadS P R fs H t x = .ok l v) (hn : Fcs ρ l) :
    ∃ n off, x.den ρ = .ptr n off ∧ loadT P (hD ρ H) t n off = some (v.den ρ) := by
  unfold loadS at h
  split at h <;> try (cases h; done)
  · rename_i n off
    refine ⟨n, off, rfl, ?_⟩
    unfold loadT
    split at h <;> try (cases h; done)
    · rename_i hg
      split at h <;> cases h
      rename_i hp
      rw [at_cells hg]
      simp only [partS_den, hp, Option.map_some]
    · rename_i w len a cm hg
      cases hz : cm.length.beq 0 <;> rw [hz] at h <;> simp only [cond_true, cond_false] at h <;> try (cases h; done)
      split at h <;> try (cases h; done)
      rename_i hp
      obtain ⟨rfl, rfl⟩ := PR.ok_inj h
      have hlt := lt_need hR hf hn
      simp only [X.den_lit] at hlt
      rw [at_row hg]
      have := row_part (ρ := ρ) (i := .lit (off / cm.length : Nat)) (n := (len.den ρ).toNat) (by simp only [X.den_lit]; exact Int.natCast_nonneg _) (by simp only [X.den_lit, Int.toNat_natCast]; omega) hp
      simp only [X.den_lit, Int.toNat_natCast] at this
      simp only
      rw [← this]
      congr 1
      rw [Nat.mul_comm]; exact (Nat.mod_add_div _ _).symm
  · rename_i n i s c
    refine ⟨n, _, rfl, ?_⟩
    unfold loadT
    split at h <;> try (cases h; done)
    · rename_i cs hg
      split at h <;> try (cases h; done)
      · rename_i j hj
        split at h <;> cases h
        rename_i hp
        have e := pickIx_ok hR hf hj
        rw [at_cells hg, e]
        simp only [Int.toNat_natCast, partS_den, hp, Option.map_some]
      · cases hb : (cs.length / s).ble 32 <;> rw [hb] at h <;> simp only [cond_true, cond_false] at h <;> try (cases h; done)
        split at h <;> try (cases h; done)
        rename_i v hv
        obtain ⟨rfl, rfl⟩ := PR.ok_inj h
        obtain ⟨n1, n2⟩ := hn.split
        have k1 := le_need hR hf n1
        have k2 := lt_need hR hf n2
        simp only [X.den_lit] at k1 k2
        rw [at_cells hg]
        exact selV_ok (ρ := ρ) hv (by omega) (by omega)
    · rename_i w len a cm hg
      cases hz : s.beq cm.length <;> rw [hz] at h <;> simp only [cond_true, cond_false] at h <;> try (cases h; done)
      have hz := Nat.eq_of_beq_eq_true hz
      subst hz
      split at h <;> try (cases h; done)
      rename_i hp
      obtain ⟨rfl, rfl⟩ := PR.ok_inj h
      obtain ⟨n1, n2⟩ := hn.split
      have k1 := le_need hR hf n1
      have k2 := lt_need hR hf n2
      simp only [X.den_lit] at k1
      rw [at_row hg]
      exact row_part (ρ := ρ) k1 (by omega) hp
theorem setC_ok {H H' : SH} {n off : Nat} {vs : List SV} (h : setC H n off vs = some H') : ∃ cs cs', cellsW (hD ρ H) n = some cs ∧ setAt cs off (SV.dens ρ vs) = some cs' ∧ (hD ρ H).put n (.cells true cs') = hD ρ H' := by
  unfold setC at h
  split at h <;> try (cases h; done)
  rename_i cs hg
  split at h <;> cases h
  rename_i cs' hs
  refine ⟨_, SV.dens ρ cs', w_cells hg, ?_, ?_⟩
  · rw [setAtS_den, hs]; rfl
  · rw [← hD_put]; rfl
theorem storeS_ok (hR : R.ok ρ) (hf : Fcs ρ fs) {H : SH} {nx : Nat} {a : SV} {vs : List SV} {l : List X} {r : HP} (h : storeS R fs H nx a vs = .ok l r) :
    ∃ H' n off cs cs', r = .val .undef H' nx ∧ a.den ρ = .ptr n off ∧ cellsW (hD ρ H) n = some cs ∧ setAt cs off (SV.dens ρ vs) = some cs' ∧ (hD ρ H).put n (.cells true cs') = hD ρ H' := by
  unfold storeS at h
  split at h <;> try (cases h; done)
  · split at h <;> cases h
    rename_i H' hs
    obtain ⟨cs, cs', h1, h2, h3⟩ := setC_ok (ρ := ρ) hs
    exact ⟨H', _, _, cs, cs', rfl, rfl, h1, h2, h3⟩
  · rename_i n i s c
    split at h <;> try (cases h; done)
    rename_i hg
    split at h <;> try (cases h; done)
    rename_i j hj
    split at h <;> cases h
    rename_i H' hs
    have e := pickIx_ok hR hf hj
    obtain ⟨cs, cs', h1, h2, h3⟩ := setC_ok (ρ := ρ) hs
    refine ⟨H', n, _, cs, cs', rfl, rfl, h1, ?_, h3⟩
    rw [e]; exact h2
theorem keyEqS_ok {a b : SV} {x : X} (h : keyEqS a b = some x) : keyEq (a.den ρ) (b.den ρ) = some (x.denB ρ) := by
  unfold keyEqS at h
  split at h <;> try (cases h; done)
  · cases hk : ikBeq _ _ <;> rw [hk] at h <;> cases h
    have := ikBeq_eq hk
    subst this
    simp only [keyEq, SV.den, if_true, mk_denB, Bo.ev, i2b_b2i]
  · cases h; simp only [keyEq, SV.den, denB_lit, i2b_b2i]
  · cases h; simp only [keyEq, SV.den, mkEqB_den]
theorem keyKindS_den (t : TypeId) (v : SV) : keyKind P t (v.den ρ) = keyKindS P t v := by
  unfold keyKind keyKindS
  cases P.underlying t with
  | none => rfl
  | some u => cases u <;> cases v <;> rfl
theorem findKS_ok (hR : R.ok ρ) (hf : Fcs ρ fs) {k : SV} : ∀ {es : List (SV × SV × Nat)} {i : Nat} {l : List X} {o : Option (Nat × SV)}, findKS R fs k es i = .ok l o → findK (k.den ρ) (es.map (enD ρ)) i = some (o.map fun p => (p.1, p.2.den ρ))
  | [], i, l, o, h => by cases h; rfl
  | e :: es, i, l, o, h => by
    simp only [findKS] at h
    split at h <;> try (cases h; done)
    rename_i x hx
    have hx := keyEqS_ok (ρ := ρ) hx
    split at h <;> try (cases h; done)
    · rename_i hd
      cases h
      rw [X.dec_ok hR hf _ hd] at hx
      simp only [List.map_cons, findK, enD, hx, Option.map_some]
    · rename_i hd
      rw [X.dec_ok hR hf _ hd] at hx
      simp only [List.map_cons, findK, enD, hx]
      exact findKS_ok hR hf h
theorem flatCS_den : ∀ cs : List SV, flatC (SV.dens ρ cs) = flatCS cs
  | [] => rfl
  | x :: l => by cases x <;> simp only [SV.dens, SV.den, flatC, flatCS, flatCS_den l]
theorem eqCX_ok : ∀ {a b : List SV} {x : X}, eqCX a b = some x → eqC (SV.dens ρ a) (SV.dens ρ b) = x.denB ρ
  | [], [], x, h => by cases h; rfl
  | [], _ :: _, _, h => by simp [eqCX] at h
  | x :: l, [], _, h => by cases x <;> simp [eqCX] at h
  | x :: l, y :: l', z, h => by
    cases x <;> cases y <;> simp only [eqCX] at h <;> try (cases h; done)
    · cases hk : ikBeq _ _ <;> rw [hk] at h <;> simp only [cond_true, cond_false] at h <;> try (cases h; done)
      split at h <;> cases h
      rename_i x hx
      have ih := eqCX_ok hx
      have := ikBeq_eq hk
      subst this
      simp only [SV.dens, SV.den, eqC, decide_true, cond_true, mkAnd_den, mk_denB, Bo.ev, i2b_b2i, ih]
      generalize X.denB ρ x = q
      cases q <;> simp
    · split at h <;> cases h
      rename_i x hx
      have ih := eqCX_ok hx
      simp only [SV.dens, SV.den, eqC, mkAnd_den, mkEqB_den, ih]
      generalize X.denB ρ x = q
      cases q <;> simp
theorem flatTS_den (t : TypeId) (v : Option SV) : flatT P t (v.map (SV.den ρ)) = flatTS P t v := by
  unfold flatT flatTS
  cases P.underlying t with
  | none => rfl
  | some u => cases v with
    | none => cases u <;> rfl
    | some v => cases u <;> cases v <;> rfl
theorem keyStrS_den (t : TypeId) (v : SV) : keyStr P t (v.den ρ) = keyStrS P t v := by
  unfold keyStr keyStrS
  cases P.underlying t with
  | none => rfl
  | some u => cases u <;> cases v <;> try rfl
              simp only [SV.den, flatCS_den, partS_den, flatTS_den]
theorem findQS_ok (hR : R.ok ρ) (hf : Fcs ρ fs) {t : TypeId} {k : SV} : ∀ {es : List (SV × SV × Nat)} {i : Nat} {l : List X} {o : Option (Nat × SV)}, findQS P R fs t k es i = .ok l o → findQ P t (k.den ρ) (es.map (enD ρ)) i = some (o.map fun p => (p.1, p.2.den ρ))
  | [], i, l, o, h => by cases h; rfl
  | e :: es, i, l, o, h => by
    simp only [findQS] at h
    split at h <;> try (cases h; done)
    rename_i x hx
    have hx := eqvS_ok (ρ := ρ) hx
    split at h <;> try (cases h; done)
    · rename_i hd
      cases hs : sureX R fs (eqAggX k e.1) <;> rw [hs] at h <;> cases h
      rw [X.dec_ok hR hf _ hd] at hx
      have he : eqAgg (k.den ρ) (e.1.den ρ) = true := by
        unfold sureX at hs
        split at hs <;> try (cases hs; done)
        rename_i y hy
        have hdy : X.dec R fs y = some true := by
          cases hd : X.dec R fs y with
          | none => rw [hd] at hs; cases hs
          | some b => rw [hd] at hs; cases b <;> first | rfl | cases hs
        have := X.dec_ok hR hf _ hdy
        unfold eqAggX at hy
        split at hy <;> try (cases hy; done)
        rename_i hb _
        rw [hb]
        simp only [SV.den, eqAgg, eqCX_ok hy, this]
      simp only [List.map_cons, findQ, enD, hx, he, cond_true, Option.map_some]
    · rename_i hd
      rw [X.dec_ok hR hf _ hd] at hx
      simp only [List.map_cons, findQ, enD, hx]
      exact findQS_ok hR hf h
theorem fndS_ok (hR : R.ok ρ) (hf : Fcs ρ fs) {t : TypeId} {k : SV} {es : List (SV × SV × Nat)} {l : List X} {o : Option (Nat × SV)} (h : fndS P R fs t k es = .ok l o) : fndA P t (k.den ρ) (es.map (enD ρ)) = some (o.map fun p => (p.1, p.2.den ρ)) := by
  unfold fndS at h
  unfold fndA
  rw [keyKindS_den, keyStrS_den]
  cases h1 : keyKindS P t k <;> rw [h1] at h <;> simp only [cond_true, cond_false] at h ⊢
  · cases h2 : keyStrS P t k <;> rw [h2] at h <;> simp only [cond_true, cond_false] at h ⊢
    · cases h
    · exact findQS_ok hR hf h
  · exact findKS_ok hR hf h
theorem nextA_map {α β : Type} (f : α → β) (es : List (α × α × Nat)) (since : Nat) (seen : List Nat) (last : Nat) :
    nextA (es.map fun e => (f e.1, f e.2.1, e.2.2)) since seen last = (nextA es since seen last).map (fun o => o.map fun e => (f e.1, f e.2.1, e.2.2)) := by
  unfold nextA
  simp only [List.isEmpty_map, List.any_map, List.filter_map]
  rw [show ((fun e : β × β × Nat => Nat.blt e.2.2 last) ∘ fun e : α × α × Nat => (f e.1, f e.2.1, e.2.2)) = fun e => Nat.blt e.2.2 last from rfl,
    show ((fun e : β × β × Nat => !(seen.any (Nat.beq e.2.2))) ∘ fun e : α × α × Nat => (f e.1, f e.2.1, e.2.2)) = fun e => !(seen.any (Nat.beq e.2.2)) from rfl]
  cases ((seen.isEmpty || es.isEmpty) || es.any (fun e => Nat.blt e.2.2 last)) with
  | false => rfl
  | true =>
    simp only [cond_true]
    cases es.filter (fun e => !(seen.any (Nat.beq e.2.2))) with
    | nil => rfl
    | cons a l => cases l with
      | nil => simp only [List.map_cons, List.map_nil]; cases Nat.blt a.2.2 since <;> rfl
      | cons b l => rfl
theorem mapAtS_ok {H : SH} {r c : Nat} {es : List (SV × SV × Nat)} (h : mapAtS H r = some (es, c)) : mapAt (hD ρ H) r = some (es.map (enD ρ), c) := by
  unfold mapAtS at h
  split at h <;> cases h
  rename_i hg
  unfold mapAt
  rw [hD_get, hg]; rfl
theorem lookS_none (ok : Bool) (z : SV) : (lookS ok none z).den ρ = cond ok (.tuple [z.den ρ, .bool false]) (z.den ρ) := by cases ok <;> rfl
theorem lookS_some (ok : Bool) (v z : SV) : (lookS ok (some v) z).den ρ = cond ok (.tuple [v.den ρ, .bool true]) (v.den ρ) := by cases ok <;> rfl
theorem modify_den (k v : SV) : ∀ (es : List (SV × SV × Nat)) (i : Nat), (es.modify i fun e => (k, v, e.2.2)).map (enD ρ) = (es.map (enD ρ)).modify i fun e => (k.den ρ, v.den ρ, e.2.2)
  | [], i => by simp
  | e :: es, 0 => rfl
  | e :: es, i + 1 => by simp only [List.modify_succ_cons, List.map_cons, modify_den k v es i]
theorem lenS_ok (hR : R.ok ρ) (hf : Fcs ρ fs) {H : SH} {t : TypeId} {x : SV} {l : List X} {n : X} (h : lenS P R fs H t x = .ok l n) (hn : Fcs ρ l) : ∃ m : Nat, lenV P (hD ρ H) t (x.den ρ) = some m ∧ n.den ρ = m := by
  unfold lenS at h
  unfold lenV
  split at h <;> try (cases h; done)
  · rename_i s hu; cases h; exact ⟨s.size, by simp only [hu, SV.den], rfl⟩
  · rename_i m e hu; cases h; exact ⟨m, by simp only [hu], rfl⟩
  · rename_i hu; cases h; exact ⟨0, by simp only [hu, SV.den], rfl⟩
  · rename_i hu
    obtain ⟨rfl, rfl⟩ := PR.ok_inj h
    have := le_need hR hf hn
    simp only [X.den_lit] at this
    rename_i len _ _ _
    exact ⟨(len.den ρ).toNat, by simp only [hu, SV.den], by omega⟩
  · rename_i hu; cases h; exact ⟨0, by simp only [hu, SV.den], rfl⟩
  · rename_i hu
    split at h <;> cases h
    rename_i es c hm
    exact ⟨es.length, by simp only [hu, SV.den, mapAtS_ok hm, List.length_map], rfl⟩
theorem dec_le_true (hR : R.ok ρ) (hf : Fcs ρ fs) {a b : X} (h : X.dec R fs (.bin .le a b) = some true) : a.den ρ ≤ b.den ρ := by
  have := X.dec_ok hR hf _ h; simpa using this
theorem dec_le_false (hR : R.ok ρ) (hf : Fcs ρ fs) {a b : X} (h : X.dec R fs (.bin .le a b) = some false) : b.den ρ < a.den ρ := by
  have := X.dec_ok hR hf _ h; simpa using this
theorem takeS_den {cs l : List SV} {off n : Nat} (h : takeS cs off n = some l) : takeN (SV.dens ρ cs) off n = some (SV.dens ρ l) := by
  unfold takeS at h
  unfold takeN
  simp only [dens_drop, dens_take, dens_length]
  cases hb : ((cs.drop off).take n).length.beq n <;> rw [hb] at h <;> cases h
  rfl
theorem elems_den (a : X) (cm : List Cmp) : ∀ (n i : Nat), SV.dens ρ (elems a cm i n) = rowD ρ cm (a.sem ρ) i n
  | 0, _ => rfl
  | n + 1, i => by
    simp only [elems, rowD, dens_append, elems_den a cm n (i + 1)]
    rw [← cm_at (ρ := ρ) (i := .lit (i : Int)) (a := a) rfl]
theorem rowS_ok (hR : R.ok ρ) (hf : Fcs ρ fs) {H : SH} {n off len size : Nat} {l : List X} {cs : List SV} (h : rowS R fs H n off len size = .ok l cs) (hn : Fcs ρ l) : rowA (hD ρ H) n off len size = some (SV.dens ρ cs) := by
  unfold rowS at h
  unfold rowA
  cases hl : len.beq 0 <;> rw [hl] at h <;> simp only [cond_true, cond_false] at h ⊢
  · split at h <;> try (cases h; done)
    · rename_i hg
      split at h <;> cases h
      rename_i ht
      rw [at_cells hg]
      exact takeS_den ht
    · rename_i w ln a cm hg
      cases hz : size.beq cm.length <;> rw [hz] at h <;> simp only [cond_true, cond_false] at h <;> try (cases h; done)
      have hz := Nat.eq_of_beq_eq_true hz
      subst hz
      cases hz : cm.length.beq 0 <;> rw [hz] at h <;> simp only [cond_true, cond_false] at h <;> try (cases h; done)
      cases hm : (off % cm.length).beq 0 <;> rw [hm] at h <;> simp only [cond_true, cond_false] at h <;> try (cases h; done)
      obtain ⟨rfl, rfl⟩ := PR.ok_inj h
      have hm := Nat.eq_of_beq_eq_true hm
      have hle := le_need hR hf hn
      simp only [X.den_lit] at hle
      rw [at_row hg]
      simp only
      have e : off = off / cm.length * cm.length := by
        have := Nat.mod_add_div off cm.length
        rw [hm, Nat.zero_add, Nat.mul_comm] at this
        exact this.symm
      generalize off / cm.length = q at e hle ⊢
      subst e
      rw [elems_den]
      unfold takeN
      rw [rowD_drop cm _ _ _ _ (by omega), rowD_take cm _ _ _ _ (by omega), rowD_length, Nat.zero_add]
      simp
  · cases h; rfl
theorem eqCells_ok (hR : R.ok ρ) (hf : Fcs ρ fs) : ∀ {a b : List SV} {l : List X}, eqCells R fs a b = some l → Fcs ρ l → SV.dens ρ a = SV.dens ρ b
  | [], [], _, _, _ => rfl
  | [], _ :: _, _, h, _ => by simp [eqCells] at h
  | x :: a, b, l, h, hn => by
    unfold eqCells at h
    split at h <;> try (cases h; done)
    · exact absurd ‹_ :: _ = []› (by simp)
    · rename_i k x2 l1 k' y m e
      cases e
      cases hk : ikBeq k k' <;> rw [hk] at h <;> simp only [cond_true, cond_false] at h <;> try (cases h; done)
      have := ikBeq_eq hk
      subst this
      split at h <;> cases h
      rename_i r hr
      obtain ⟨n1, n2⟩ := hn.split
      have e1 := nd_ok hR hf n1
      simp only [X.denB_eq, beq_iff_eq] at e1
      simp only [SV.dens, SV.den, e1, eqCells_ok hR hf hr n2]
    · rename_i x2 l1 y m e
      cases e
      split at h <;> cases h
      rename_i r hr
      obtain ⟨n1, n2⟩ := hn.split
      have e1 := nd_ok hR hf n1
      rw [mkEqB_den, beq_iff_eq] at e1
      simp only [SV.dens, SV.den, e1, eqCells_ok hR hf hr n2]
theorem elemsX_den {a i : X} {n : Nat} (h : i.den ρ = n) (cm : List Cmp) : ∀ (m j : Nat), SV.dens ρ (elemsX a i cm j m) = rowD ρ cm (a.sem ρ) (n + j) m
  | 0, _ => rfl
  | m + 1, j => by
    simp only [elemsX, rowD, dens_append, elemsX_den h cm m (j + 1)]
    rw [← cm_at (ρ := ρ) (i := mk .add i (.lit (j : Int))) (n := n + j) (a := a) (by rw [mk_den]; simp [Bo.ev, h])]
    rfl
def Src.val (ρ : Val) : Src → Nat × List AV
  | .lits cs k => (k, SV.dens ρ cs)
  | .row len a cm => ((len.den ρ).toNat, rowD ρ cm (a.sem ρ) 0 (len.den ρ).toNat)
theorem srcS_ok (hR : R.ok ρ) (hf : Fcs ρ fs) {H : SH} {e xt : TypeId} {size : Nat} {x : SV} {l : List X} {s : Src} (h : srcS P R fs H size xt x = .ok l s) (hn : Fcs ρ l) :
    srcN P (hD ρ H) e size xt (x.den ρ) = some (s.val ρ) ∨ (∃ cs, s = .lits cs 0) ∧ ∃ r, srcN P (hD ρ H) e size xt (x.den ρ) = some (0, r) := by
  unfold srcS at h
  split at h <;> try (cases h; done)
  · rename_i hu; cases h; left; simp only [srcN, hu, SV.den, Src.val, SV.dens]
  · rename_i u n oc eo k cap esz ex hu
    cases hz : esz.beq size <;> rw [hz] at h <;> simp only [cond_true, cond_false] at h <;> try (cases h; done)
    have hz := Nat.eq_of_beq_eq_true hz
    subst hz
    split at h <;> try (cases h; done)
    rename_i hr
    obtain ⟨rfl, rfl⟩ := PR.ok_inj h
    left
    have := rowS_ok hR hf hr hn
    simp only [srcN, hu, SV.den, X.den_lit, Int.toNat_natCast, Int.ofNat_eq_natCast, this, Src.val]
  · rename_i u n oc eo len cap esz ex hne hu
    cases hz : esz.beq size <;> rw [hz] at h <;> simp only [cond_true, cond_false] at h <;> try (cases h; done)
    have hz := Nat.eq_of_beq_eq_true hz
    subst hz
    split at h <;> try (cases h; done)
    · rename_i hd
      cases h
      have := X.dec_ok hR hf _ hd
      simp only [X.denB_eq, X.den_lit, beq_iff_eq] at this
      right
      refine ⟨⟨_, rfl⟩, [], ?_⟩
      simp only [srcN, hu, SV.den, this, Int.toNat_zero, rowA]
      rfl
    · split at h <;> try (cases h; done)
      rename_i w ln a cm hg
      cases hz : oc.beq 0 <;> rw [hz] at h <;> simp only [cond_true, cond_false] at h <;> try (cases h; done)
      have hz := Nat.eq_of_beq_eq_true hz
      subst hz
      cases hz : X.beq eo (.lit 0) <;> rw [hz] at h <;> simp only [cond_true, cond_false] at h <;> try (cases h; done)
      have hz := X.beq_eq hz
      subst hz
      cases hz : X.beq ln len <;> rw [hz] at h <;> simp only [cond_true, cond_false] at h <;> try (cases h; done)
      have hz := X.beq_eq hz
      subst hz
      cases hz : esz.beq cm.length <;> rw [hz] at h <;> simp only [cond_true, cond_false] at h <;> try (cases h; done)
      have hz := Nat.eq_of_beq_eq_true hz
      subst hz
      obtain ⟨rfl, rfl⟩ := PR.ok_inj h
      have k1 := le_need hR hf hn
      simp only [X.den_lit] at k1
      left
      have e0 : Nat.beq (ln.den ρ).toNat 0 = false := by
        cases hb : Nat.beq (ln.den ρ).toNat 0 with
        | false => rfl
        | true => have := Nat.eq_of_beq_eq_true hb; omega
      simp only [srcN, hu, SV.den, rowA, X.den_lit, Int.toNat_zero, Nat.zero_mul, Nat.add_zero, e0, cond_false, at_row hg, Src.val]
      unfold takeN
      rw [List.drop_zero, List.take_of_length_le (by rw [rowD_length]; exact Nat.le_refl _), rowD_length]
      simp
theorem small_iff {a b : Nat} : small a b = true ↔ a ≤ 1000000 ∧ b ≤ 1000 := by simp [small]
theorem rowA_all {H : Hp} {n len size : Nat} {cs : List AV} (h : cellsAt H n = some cs) (hl : cs.length = len * size) : rowA H n 0 len size = some cs := by
  unfold rowA
  cases hz : len.beq 0 with
  | true =>
    have := Nat.eq_of_beq_eq_true hz
    subst this
    rw [Nat.zero_mul, List.length_eq_zero_iff] at hl
    subst hl; rfl
  | false =>
    simp only [cond_false, h]
    unfold takeN
    rw [List.drop_zero, List.take_of_length_le (by omega), hl]
    simp
set_option maxHeartbeats 1000000 in
theorem growS_ok (hR : R.ok ρ) (hf : Fcs ρ fs) {i : TypeInfo} {H : SH} {nx : Nat} {src : Src} {s : SV} {l : List X} {r : HP} (h : growS R fs H nx i.size src s = .ok l r) (hn : Fcs ρ l) (hk : 0 < (src.val ρ).1) (hs : (src.val ρ).1 ≤ 1000000) :
    ∃ v H' nx', r = .val v H' nx' ∧ growA i (hD ρ H) nx (src.val ρ).1 (src.val ρ).2 (s.den ρ) = some (v.den ρ, hD ρ H', nx') := by
  unfold growS at h
  split at h <;> try (cases h; done)
  · rename_i cs k
    cases h
    refine ⟨_, _, _, rfl, ?_⟩
    simp only [growA, SV.den, Src.val, X.den_lit, Int.toNat_natCast, Int.toNat_zero, Nat.zero_mul, Nat.add_zero, ← hD_lay, SO.den]
  · rename_i len a cm
    cases h
    refine ⟨_, _, _, rfl, ?_⟩
    simp only [growA, SV.den, Src.val, X.den_lit, Int.toNat_zero, Nat.zero_mul, Nat.add_zero, ← hD_lay, SO.den]
  · rename_i n oc eo len cap esz ex cs k
    cases hz : esz.beq i.size <;> rw [hz] at h <;> simp only [cond_true, cond_false] at h <;> try (cases h; done)
    cases hsm : small (len + k) 0 <;> rw [hsm] at h <;> simp only [cond_true, cond_false] at h <;> try (cases h; done)
    simp only [Src.val] at hk hs ⊢
    split at h <;> try (cases h; done)
    · rename_i hd
      have hd := dec_le_true hR hf hd
      simp only [X.den_lit] at hd
      cases ha : cs.all SV.oneCell <;> rw [ha] at h <;> simp only [cond_true, cond_false] at h <;> try (cases h; done)
      split at h <;> cases h
      rename_i H' hst
      obtain ⟨cs1, cs2, g1, g2, g3⟩ := setC_ok (ρ := ρ) hst
      refine ⟨_, _, _, rfl, ?_⟩
      have hb : Nat.ble (len + k) (cap.den ρ).toNat = true := Nat.ble_eq_true_of_le (by omega)
      simp only [growA, SV.den, X.den_lit, Int.ofNat_eq_natCast, Int.toNat_natCast, hz, hsm, hb, cond_true, g1, g2, all_oneCell, ha, g3]
    · rename_i hd
      have hd := dec_le_false hR hf hd
      simp only [X.den_lit] at hd
      have hb : Nat.ble (len + k) (cap.den ρ).toNat = false := by
        cases hb : Nat.ble (len + k) (cap.den ρ).toNat with
        | false => rfl
        | true => have := Nat.le_of_ble_eq_true hb; omega
      split at h <;> try (cases h; done)
      rename_i l1 old hr
      cases ex <;> simp only [cond_true, cond_false] at h
      · cases hL : lends H.bad <;> rw [hL] at h <;> simp only [cond_true, cond_false] at h <;> try (cases h; done)
        have hL' : lends (hD ρ H).bad = false := hL
        split at h <;> try (cases h; done)
        rename_i old2 hg
        cases h1 : (oc + eo * esz).beq 0 <;> rw [h1] at h <;> simp only [cond_true, cond_false] at h <;> try (cases h; done)
        cases h2 : old2.length.beq (len * esz) <;> rw [h2] at h <;> simp only [cond_true, cond_false] at h <;> try (cases h; done)
        cases h3 : cs.all SV.oneCell <;> rw [h3] at h <;> simp only [cond_true, cond_false] at h <;> try (cases h; done)
        obtain ⟨rfl, rfl⟩ := PR.ok_inj h
        have hr := rowS_ok hR hf hr hn
        refine ⟨_, _, _, rfl, ?_⟩
        simp only [growA, SV.den, X.den_lit, Int.ofNat_eq_natCast, Int.toNat_natCast, Int.toNat_zero, Nat.zero_mul, Nat.add_zero, hz, hsm, hb, cond_true, cond_false, hr, hL', w_cells hg, h1, dens_length, h2, all_oneCell, h3, ← hD_lay, ← hD_del, SO.den, dens_append]
      · obtain ⟨rfl, rfl⟩ := PR.ok_inj h
        have hr := rowS_ok hR hf hr hn
        refine ⟨_, _, _, rfl, ?_⟩
        simp only [growA, SV.den, X.den_lit, Int.ofNat_eq_natCast, Int.toNat_natCast, Int.toNat_zero, Nat.zero_mul, Nat.add_zero, hz, hsm, hb, cond_true, cond_false, hr, ← hD_lay, SO.den, dens_append]
  · rename_i n oc eo cap esz ex len a cm
    cases hz : esz.beq i.size <;> rw [hz] at h <;> simp only [cond_true, cond_false] at h <;> try (cases h; done)
    simp only [Src.val] at hk hs ⊢
    split at h <;> try (cases h; done)
    rename_i hd
    have hd := dec_le_false hR hf hd
    cases ex <;> simp only [cond_true, cond_false] at h <;> try (cases h; done)
    obtain ⟨rfl, rfl⟩ := PR.ok_inj h
    have hsm : small (len.den ρ).toNat 0 = true := by rw [small_iff]; omega
    have hb : Nat.ble (len.den ρ).toNat (cap.den ρ).toNat = false := by
      cases hb : Nat.ble (len.den ρ).toNat (cap.den ρ).toNat with
      | false => rfl
      | true => have := Nat.le_of_ble_eq_true hb; omega
    refine ⟨_, _, _, rfl, ?_⟩
    have e0 : ∀ m off, rowA (hD ρ H) m off 0 esz = some [] := fun m off => rfl
    simp only [growA, SV.den, X.den_lit, Int.ofNat_eq_natCast, Int.toNat_natCast, Int.toNat_zero, Nat.zero_mul, Nat.add_zero, hz, cond_true, show (Int.ofNat 0).toNat = 0 from rfl, hsm, hb, cond_false, e0, List.nil_append, ← hD_lay, SO.den, Nat.zero_add]
  · rename_i n oc eo len cap esz ex cs k hne
    cases hz : esz.beq i.size <;> rw [hz] at h <;> simp only [cond_true, cond_false] at h <;> try (cases h; done)
    cases hoff : (oc + eo * esz).beq 0 <;> rw [hoff] at h <;> simp only [cond_true, cond_false] at h <;> try (cases h; done)
    simp only [Src.val] at hk hs ⊢
    split at h <;> try (cases h; done)
    rename_i w ln a cm hd hg
    have hd := dec_le_false hR hf hd
    simp only [mk_den, Bo.ev, X.den_lit] at hd
    cases h1 : X.beq ln len <;> rw [h1] at h <;> simp only [cond_true, cond_false] at h <;> try (cases h; done)
    have h1 := X.beq_eq h1
    subst h1
    cases h2 : esz.beq cm.length <;> rw [h2] at h <;> simp only [cond_true, cond_false] at h <;> try (cases h; done)
    have h2 := Nat.eq_of_beq_eq_true h2
    split at h <;> try (cases h; done)
    rename_i ns hns
    have hoff' := Nat.eq_of_beq_eq_true hoff
    have main : Fcs ρ (nd R fs (.bin .le (.lit 0) ln) ++ (nd R fs (.bin .le (mk .add ln (.lit k)) (.lit 1000000)) ++ ns)) → 0 ≤ ln.den ρ ∧ (ln.den ρ).toNat + k ≤ 1000000 ∧ (mk .add ln (.lit (k : Int))).den ρ = ln.den ρ + k ∧ SV.dens ρ cs = rowD ρ cm (a.sem ρ) (ln.den ρ).toNat k := by
      intro hn
      obtain ⟨n1, n2⟩ := hn.split
      obtain ⟨n2, n3⟩ := n2.split
      have k1 := le_need hR hf n1
      have k2 := le_need hR hf n2
      have k3 := eqCells_ok hR hf hns n3
      simp only [X.den_lit, mk_den, Bo.ev] at k1 k2
      refine ⟨k1, by omega, by simp only [mk_den, Bo.ev, X.den_lit], ?_⟩
      rw [← k3, elemsX_den (n := (ln.den ρ).toNat) (by omega)]
      rfl
    have fin : ∀ (hm : 0 ≤ ln.den ρ ∧ (ln.den ρ).toNat + k ≤ 1000000 ∧ (mk .add ln (.lit (k : Int))).den ρ = ln.den ρ + k ∧ SV.dens ρ cs = rowD ρ cm (a.sem ρ) (ln.den ρ).toNat k),
        small ((ln.den ρ).toNat + k) 0 = true ∧ Nat.ble ((ln.den ρ).toNat + k) (cap.den ρ).toNat = false ∧ ((mk .add ln (.lit (k : Int))).den ρ).toNat = (ln.den ρ).toNat + k ∧ rowA (hD ρ H) n 0 (ln.den ρ).toNat esz = some (rowD ρ cm (a.sem ρ) 0 (ln.den ρ).toNat) ∧
          rowD ρ cm (a.sem ρ) 0 (ln.den ρ).toNat ++ SV.dens ρ cs = rowD ρ cm (a.sem ρ) 0 ((ln.den ρ).toNat + k) := by
      rintro ⟨m1, m2, m3, m4⟩
      refine ⟨small_iff.2 ⟨m2, by omega⟩, ?_, by omega, ?_, ?_⟩
      · cases hb : Nat.ble ((ln.den ρ).toNat + k) (cap.den ρ).toNat with
        | false => rfl
        | true => have := Nat.le_of_ble_eq_true hb; omega
      · exact rowA_all (at_row hg) (by rw [rowD_length, h2])
      · rw [m4]
        have := rowD_append (ρ := ρ) cm (a.sem ρ) (ln.den ρ).toNat k 0
        rwa [Nat.zero_add] at this
    cases ex <;> simp only [cond_true, cond_false] at h
    · cases hL : lends H.bad <;> rw [hL] at h <;> simp only [cond_true, cond_false] at h <;> try (cases h; done)
      have hL' : lends (hD ρ H).bad = false := hL
      cases w <;> simp only [cond_true, cond_false] at h <;> try (cases h; done)
      obtain ⟨rfl, rfl⟩ := PR.ok_inj h
      obtain ⟨f1, f2, f3, f4, f5⟩ := fin (main hn)
      refine ⟨_, _, _, rfl, ?_⟩
      have hlen : (rowD ρ cm (a.sem ρ) 0 (ln.den ρ).toNat).length.beq ((ln.den ρ).toNat * esz) = true := by rw [rowD_length, h2]; simp
      have ha : (SV.dens ρ cs).all AV.oneCell = true := by
        rw [(main hn).2.2.2]
        have : ∀ (m j : Nat), (rowD ρ cm (a.sem ρ) j m).all AV.oneCell = true := by
          intro m
          induction m with
          | zero => intro j; rfl
          | succ m ih =>
            intro j
            simp only [rowD, List.all_append, ih, Bool.and_true, List.all_map, List.all_eq_true]
            intro c _; cases c <;> rfl
        exact this _ _
      simp only [growA, SV.den, X.den_lit, Int.ofNat_eq_natCast, Int.toNat_natCast, Int.toNat_zero, Nat.zero_mul, Nat.add_zero, hz, hoff', f1, f2, f3, f4, cond_true, cond_false, hL', w_row hg, show Nat.beq 0 0 = true from rfl, hlen, ha, ← hD_lay, ← hD_del, SO.den, f5]
    · obtain ⟨rfl, rfl⟩ := PR.ok_inj h
      obtain ⟨f1, f2, f3, f4, f5⟩ := fin (main hn)
      refine ⟨_, _, _, rfl, ?_⟩
      simp only [growA, SV.den, X.den_lit, Int.ofNat_eq_natCast, Int.toNat_natCast, Int.toNat_zero, Nat.zero_mul, Nat.add_zero, hz, hoff', f1, f2, f3, f4, cond_true, cond_false, ← hD_lay, SO.den, f5]
end
end Sx
end Abs
end Go.Proofs.YtekmmeikkafpmaaGreat

namespace Go.Proofs.YtekmmeikkafpmaaGreat
namespace Abs
namespace Sx
section
variable {P : Program} {ρ : Val} {R : Rgs} {fs : List X}
theorem appS_ok (hR : R.ok ρ) (hf : Fcs ρ fs) {H : SH} {nx : Nat} {t xt : TypeId} {s x : SV} {l : List X} {r : HP} (h : appS P R fs H nx t xt s x = .ok l r) (hn : Fcs ρ l) :
    ∃ v H' nx', r = .val v H' nx' ∧ appendA P t xt (s.den ρ) (x.den ρ) (hD ρ H) nx = some (v.den ρ, hD ρ H', nx') := by
  unfold appS at h
  split at h <;> try (cases h; done)
  rename_i e hu
  split at h <;> try (cases h; done)
  rename_i i z hi hz
  cases hb : z.cells.length.beq i.size <;> rw [hb] at h <;> simp only [cond_true, cond_false] at h <;> try (cases h; done)
  have hz' : zero P e = some (z.den ρ) := by rw [zeroS_den (ρ := ρ), hz]; rfl
  have hb' : (z.den ρ).cells.length.beq i.size = true := by rw [den_cells, dens_length]; exact hb
  unfold appendA
  simp only [hu, hi, hz', hb', cond_true]
  split at h <;> try (cases h; done)
  · rename_i l1 cs hs
    have key : Fcs ρ l1 → ∃ q, srcN P (hD ρ H) e i.size xt (x.den ρ) = some (0, q) := by
      intro hn
      rcases srcS_ok (e := e) hR hf hs hn with g | ⟨_, g⟩
      · exact ⟨_, g⟩
      · exact g
    split at h <;> try (cases h; done)
    · obtain ⟨rfl, rfl⟩ := PR.ok_inj h
      obtain ⟨q, g⟩ := key hn
      exact ⟨_, _, _, rfl, by simp only [g, SV.den]⟩
    · obtain ⟨rfl, rfl⟩ := PR.ok_inj h
      obtain ⟨q, g⟩ := key hn
      exact ⟨_, _, _, rfl, by simp only [g, SV.den]⟩
  · rename_i l1 cs k hs
    cases hm : small (k + 1) i.bytes <;> rw [hm] at h <;> simp only [cond_true, cond_false] at h <;> try (cases h; done)
    cases h0 : i.size.beq 0 <;> rw [h0] at h <;> simp only [cond_true, cond_false] at h <;> try (cases h; done)
    split at h <;> try (cases h; done)
    rename_i l2 r2 hg
    obtain ⟨rfl, rfl⟩ := PR.ok_inj h
    obtain ⟨n1, n2⟩ := hn.split
    rcases srcS_ok (e := e) hR hf hs n1 with g | ⟨⟨_, g⟩, _⟩
    · simp only [Src.val] at g
      obtain ⟨v, H', nx', rfl, k2⟩ := growS_ok hR hf hg n2 (by simp only [Src.val]; omega) (by simp only [Src.val]; exact (small_iff.1 hm).1)
      refine ⟨_, _, _, rfl, ?_⟩
      simp only [g, hm, h0, cond_true, cond_false]
      exact k2
    · cases g
  · rename_i l1 len a cm hs
    cases hm : small 0 i.bytes <;> rw [hm] at h <;> simp only [cond_true, cond_false] at h <;> try (cases h; done)
    cases h0 : i.size.beq 0 <;> rw [h0] at h <;> simp only [cond_true, cond_false] at h <;> try (cases h; done)
    split at h <;> try (cases h; done)
    rename_i l2 r2 hg
    obtain ⟨rfl, rfl⟩ := PR.ok_inj h
    obtain ⟨n1, n2⟩ := hn.split
    obtain ⟨n2, n3⟩ := n2.split
    obtain ⟨n3, n4⟩ := n3.split
    have k1 := le_need hR hf n2
    have k2 := le_need hR hf n3
    simp only [X.den_lit] at k1 k2
    rcases srcS_ok (e := e) hR hf hs n1 with g | ⟨⟨_, g⟩, _⟩
    · simp only [Src.val] at g
      obtain ⟨v, H', nx', rfl, k3⟩ := growS_ok hR hf hg n4 (by simp only [Src.val]; omega) (by simp only [Src.val]; omega)
      refine ⟨_, _, _, rfl, ?_⟩
      simp only [Src.val] at k3
      obtain ⟨m, em⟩ : ∃ m, (len.den ρ).toNat = m + 1 := ⟨(len.den ρ).toNat - 1, by omega⟩
      rw [em] at g k3
      have hm2 : small (m + 1) i.bytes = true := small_iff.2 ⟨by omega, (small_iff.1 hm).2⟩
      simp only [g, hm2, h0, cond_true, cond_false]
      exact k3
    · cases g
theorem copyS_ok (hR : R.ok ρ) (hf : Fcs ρ fs) {H : SH} {nx : Nat} {t : TypeId} {s x : SV} {l : List X} {r : HP} (h : copyS P R fs H nx t s x = .ok l r) (hn : Fcs ρ l) :
    ∃ v H', r = .val v H' nx ∧ copyA P t (s.den ρ) (x.den ρ) (hD ρ H) = some (v.den ρ, hD ρ H') := by
  unfold copyS at h
  split at h <;> try (cases h; done)
  rename_i e n oc eo len cap esz ex n2 oc2 eo2 len2 cap2 esz2 ex2 hu
  split at h <;> try (cases h; done)
  rename_i size hz
  split at h <;> try (cases h; done)
  rename_i l1 k hk
  have ek := pickIx_ok hR hf hk
  rw [minS_den hR hf] at ek
  have em : min (len2.den ρ).toNat len = k := by
    by_cases hh : X.den ρ (.lit (len : Int)) < X.den ρ len2
    · rw [if_pos hh] at ek
      simp only [X.den_lit] at ek hh
      omega
    · rw [if_neg hh] at ek
      simp only [X.den_lit] at ek hh
      omega
  unfold copyA
  simp only [hu, hz, SV.den, X.den_lit, Int.ofNat_eq_natCast, Int.toNat_natCast, em]
  cases h0 : k.beq 0 <;> rw [h0] at h <;> simp only [cond_true, cond_false] at h ⊢
  · cases h1 : esz2.beq size <;> rw [h1] at h <;> simp only [cond_true, cond_false] at h <;> try (cases h; done)
    split at h <;> try (cases h; done)
    rename_i l2 src hr
    cases h2 : src.all SV.oneCell <;> rw [h2] at h <;> simp only [cond_true, cond_false] at h <;> try (cases h; done)
    cases h3 : size.beq 0 <;> rw [h3] at h <;> simp only [cond_true, cond_false] at h <;> try (cases h; done)
    split at h <;> try (cases h; done)
    rename_i H' hs
    obtain ⟨rfl, rfl⟩ := PR.ok_inj h
    have hr := rowS_ok hR hf hr hn
    obtain ⟨cs, cs', g1, g2, g3⟩ := setC_ok (ρ := ρ) hs
    refine ⟨_, _, rfl, ?_⟩
    simp only [hr, g1, g2, all_oneCell, h2, h3, cond_true, cond_false, g3, SV.den, X.den_lit]
  · cases h
    exact ⟨_, _, rfl, rfl⟩
def HPok (P : Program) (ρ : Val) (rec : Task → Option Res) (T : SE) (H : SH) (nx : Nat) (o : Op) : HP → Prop
  | .val v H' nx' => heapA P rec (Tr.map (SV.den ρ) T) (hD ρ H) nx o = some (v.den ρ, hD ρ H', nx')
  | .call g vs => heapA P rec (Tr.map (SV.den ρ) T) (hD ρ H) nx o = match rec (.call g (SV.dens ρ vs) (hD ρ H) nx) with
    | some (.call v H nx) => some (v, H, nx)
    | _ => none
  | .yield l vs => heapA P rec (Tr.map (SV.den ρ) T) (hD ρ H) nx o = yieldA rec l (SV.dens ρ vs) (hD ρ H) nx
set_option maxHeartbeats 1000000 in
theorem heapS_ok (hR : R.ok ρ) (hf : Fcs ρ fs) {rec : Task → Option Res} {T : SE} {H : SH} {nx : Nat} {o : Op} {l : List X} {r : HP} (h : heapS P R fs T H nx o = .ok l r) (hn : Fcs ρ l) : HPok P ρ rec T H nx o r := by
  cases o <;> simp only [heapS] at h <;> try (cases h; done)
  case alloc t =>
    split at h <;> cases h
    rename_i z hz
    have hz' : zero P t = some (z.den ρ) := by rw [zeroS_den (ρ := ρ), hz]; rfl
    simp only [HPok, heapA, hz', den_cells, ← hD_lay, SO.den, SV.den]
  case box t x =>
    split at h <;> cases h
    rename_i v hv
    simp only [HPok, heapA, evO_den, hv, Option.map_some, den_cells, ← hD_lay, SO.den, SV.den]
  case buildSlice t len parts =>
    split at h <;> try (cases h; done)
    rename_i e hu
    split at h <;> try (cases h; done)
    rename_i size z ps h1 h2 h3
    cases h4 : z.cells.length.beq size <;> rw [h4] at h <;> simp only [cond_true, cond_false] at h <;> try (cases h; done)
    cases h5 : (len * size).ble 10000 <;> rw [h5] at h <;> simp only [cond_true, cond_false] at h <;> try (cases h; done)
    split at h <;> cases h
    rename_i cs hc
    have hz' : zero P e = some (z.den ρ) := by rw [zeroS_den (ρ := ρ), h2]; rfl
    simp only [HPok, heapA, hu, h1, hz', evOP_den, h3, Option.map_some, den_cells, dens_length, h4, h5, cond_true, repS_den, fillS_den, hc, ← hD_lay, SO.den, SV.den, X.den_lit, Int.toNat_zero, Nat.zero_mul, Nat.add_zero, Int.toNat_natCast]
  case load t x =>
    split at h <;> try (cases h; done)
    rename_i x hx
    split at h <;> try (cases h; done)
    rename_i l1 v hl
    obtain ⟨rfl, rfl⟩ := PR.ok_inj h
    obtain ⟨n, off, g1, g2⟩ := loadS_ok hR hf hl hn
    simp only [HPok, heapA, evO_den, hx, Option.map_some, g1, g2]
  case store t a v =>
    split at h <;> try (cases h; done)
    rename_i a v size h1 h2 h3
    cases h4 : v.cells.length.beq size <;> rw [h4] at h <;> simp only [cond_true, cond_false] at h <;> try (cases h; done)
    cases h5 : v.cells.all SV.oneCell <;> rw [h5] at h <;> simp only [cond_true, cond_false] at h <;> try (cases h; done)
    cases h6 : size.beq 0 <;> rw [h6] at h <;> simp only [cond_true, cond_false] at h <;> try (cases h; done)
    obtain ⟨H', n, off, cs, cs', rfl, g1, g2, g3, g4⟩ := storeS_ok hR hf h
    simp only [HPok, heapA, evO_den, h1, h2, h3, Option.map_some, g1, g2, den_cells, g3, dens_length, h4, all_oneCell, h5, h6, cond_true, cond_false, g4, den_undef]
  case makeMap t r =>
    cases r <;> simp only [heapS] at h <;> cases h
    simp only [HPok, heapA, ← hD_lay, SO.den, SV.den, List.map_nil]
  case makeSlice t ln c =>
    split at h <;> try (cases h; done)
    rename_i e ln c hu h1 h2
    split at h <;> try (cases h; done)
    rename_i i z m k g1 g2 g3 g4
    cases h4 : z.cells.length.beq i.size <;> rw [h4] at h <;> simp only [cond_true, cond_false] at h <;> try (cases h; done)
    cases h5 : m.ble k <;> rw [h5] at h <;> simp only [cond_true, cond_false] at h <;> try (cases h; done)
    cases h6 : small k i.bytes <;> rw [h6] at h <;> simp only [cond_true, cond_false] at h <;> cases h
    have hz' : zero P e = some (z.den ρ) := by rw [zeroS_den (ρ := ρ), g2]; rfl
    have q : ∀ {v : SV} {n : Nat}, litN v = some n → natOf (v.den ρ) = some n := by
      intro v n h; unfold litN at h; split at h <;> cases h; rfl
    simp only [HPok, heapA, hu, evO_den, h1, h2, Option.map_some, g1, hz', q g3, q g4, den_cells, dens_length, h4, h5, h6, cond_true, repS_den, ← hD_lay, SO.den, SV.den, X.den_lit, Int.toNat_zero, Nat.zero_mul, Nat.add_zero, Int.toNat_natCast]
  case lookup t x ix ok =>
    split at h <;> try (cases h; done)
    rename_i kt et x k hu h1 h2
    split at h <;> try (cases h; done)
    rename_i z hz
    have hz' : zero P et = some (z.den ρ) := by rw [zeroS_den (ρ := ρ), hz]; rfl
    unfold lookupS at h
    split at h <;> try (cases h; done)
    · split at h <;> try (cases h; done)
      rename_i l1 ho
      cases h
      have hk := fndS_ok hR hf ho
      simp only [List.map_nil, Option.map_none] at hk
      simp only [HPok, heapA, hu, evO_den, h1, h2, Option.map_some, SV.den, hk, hz', lookS_none]
    · rename_i r
      split at h <;> try (cases h; done)
      rename_i es c hm
      split at h <;> try (cases h; done)
      rename_i l1 o ho
      cases h
      have hk := fndS_ok hR hf ho
      simp only [HPok, heapA, hu, evO_den, h1, h2, Option.map_some, SV.den, mapAtS_ok hm, hk]
      cases o with
      | none => simp only [Option.map_none, hz', lookS_none]
      | some p => simp only [Option.map_some, lookS_some]
  case mapUpdate t m k v =>
    split at h <;> try (cases h; done)
    rename_i kt vt r k v hu h1 h2 h3
    unfold updS at h
    split at h <;> try (cases h; done)
    rename_i es c hm
    split at h <;> try (cases h; done)
    · rename_i l1 i y ho
      cases h
      have hk := fndS_ok hR hf ho
      simp only [HPok, heapA, hu, evO_den, h1, h2, h3, Option.map_some, SV.den, mapAtS_ok hm, hk, ← hD_put, SO.den, modify_den, den_undef]
    · rename_i l1 ho
      cases h
      have hk := fndS_ok hR hf ho
      simp only [HPok, heapA, hu, evO_den, h1, h2, h3, Option.map_some, Option.map_none, SV.den, mapAtS_ok hm, hk, ← hD_put, SO.den, den_undef, List.map_append, List.map_cons, List.map_nil, enD]
  case insert t m k v =>
    split at h <;> try (cases h; done)
    rename_i kt vt r k v hu h1 h2 h3
    unfold updS at h
    split at h <;> try (cases h; done)
    rename_i es c hm
    split at h <;> try (cases h; done)
    · rename_i l1 i y ho
      cases h
      have hk := fndS_ok hR hf ho
      simp only [HPok, heapA, hu, evO_den, h1, h2, h3, Option.map_some, SV.den, mapAtS_ok hm, hk, ← hD_put, SO.den, modify_den, den_undef]
    · rename_i l1 ho
      cases h
      have hk := fndS_ok hR hf ho
      simp only [HPok, heapA, hu, evO_den, h1, h2, h3, Option.map_some, Option.map_none, SV.den, mapAtS_ok hm, hk, ← hD_put, SO.den, den_undef, List.map_append, List.map_cons, List.map_nil, enD]
  case range t x =>
    split at h <;> try (cases h; done)
    · rename_i hu h1
      cases h
      simp only [HPok, heapA, hu, evO_den, h1, Option.map_some, SV.den, ← hD_lay, SO.den]
    · rename_i r hu h1
      split at h <;> try (cases h; done)
      rename_i es c hm
      cases h
      simp only [HPok, heapA, hu, evO_den, h1, Option.map_some, SV.den, mapAtS_ok hm, ← hD_lay, SO.den]
  case next it s =>
    cases s <;> simp only [heapS] at h <;> try (cases h; done)
    split at h <;> try (cases h; done)
    rename_i n h1
    split at h <;> try (cases h; done)
    · rename_i hg
      cases h
      simp only [HPok, heapA, evO_den, h1, Option.map_some, SV.den, hD_get, hg, SO.den, SV.dens]
      rfl
    · rename_i r since seen last hg
      split at h <;> try (cases h; done)
      rename_i es c hm
      have hnx := nextA_map (SV.den ρ) es since seen last
      rw [show (es.map fun e => (e.1.den ρ, e.2.1.den ρ, e.2.2)) = es.map (enD ρ) from rfl] at hnx
      split at h <;> try (cases h; done)
      · rename_i hn1
        cases h
        rw [hn1] at hnx
        simp only [HPok, heapA, evO_den, h1, Option.map_some, SV.den, hD_get, hg, SO.den, SV.dens, mapAtS_ok hm, hnx, Option.map_none]
        rfl
      · rename_i e hn1
        cases h
        rw [hn1] at hnx
        simp only [HPok, heapA, evO_den, h1, Option.map_some, SV.den, hD_get, hg, SO.den, SV.dens, mapAtS_ok hm, hnx, ← hD_put]
        rfl
  case entry it =>
    split at h <;> try (cases h; done)
    rename_i n h1
    split at h <;> try (cases h; done)
    rename_i r since seen last hg
    split at h <;> try (cases h; done)
    rename_i es c bb hm hl
    cases hc : c.beq last <;> rw [hc] at h <;> simp only [cond_true, cond_false] at h <;> try (cases h; done)
    split at h <;> cases h
    rename_i e he
    have hfind : (es.map (enD ρ)).find? (fun e => Nat.beq e.2.2 bb) = some (enD ρ e) := by
      rw [List.find?_map]
      rw [show ((fun e : AV × AV × Nat => Nat.beq e.2.2 bb) ∘ enD ρ) = fun e => Nat.beq e.2.2 bb from rfl, he]; rfl
    simp only [HPok, heapA, evO_den, h1, Option.map_some, SV.den, hD_get, hg, SO.den, mapAtS_ok hm, hl, hc, cond_true, hfind, SV.dens, enD]
  case call c =>
    obtain ⟨callee, args, ats⟩ := c
    cases callee <;> try (cases h; done)
    case value f =>
      dsimp only at h
      split at h <;> cases h
      · rename_i g first cap vs h1 h2
        simp only [HPok, heapA, evO_den, evOL_den, h1, h2, Option.map_some, SV.den, callV, dens_append]
        cases rec (Task.call g (SV.dens ρ first ++ SV.dens ρ vs ++ SV.dens ρ cap) (hD ρ H) nx) with
        | none => rfl
        | some r => cases r <;> rfl
      · rename_i l1 vs h1 h2
        simp only [HPok, heapA, evO_den, evOL_den, h1, h2, Option.map_some, SV.den, callV]
    case builtin b =>
      cases b <;> try (cases h; done)
      case len =>
        dsimp only at h
        split at h <;> try (cases h; done)
        rename_i x t h1 h2
        split at h <;> try (cases h; done)
        rename_i l1 n hl
        obtain ⟨rfl, rfl⟩ := PR.ok_inj h
        obtain ⟨m, g1, g2⟩ := lenS_ok hR hf hl hn
        simp only [HPok, heapA, evOL_den, h1, h2, Option.map_some, SV.dens, g1, SV.den, g2]
      case append =>
        dsimp only at h
        split at h <;> try (cases h; done)
        rename_i s x t xt h1 h2 h3
        obtain ⟨v, H', nx', rfl, g⟩ := appS_ok hR hf h hn
        simp only [HPok, heapA, evOL_den, h1, h2, h3, Option.map_some, SV.dens, g]
      case copy =>
        dsimp only at h
        split at h <;> try (cases h; done)
        rename_i s x t h1 h2
        obtain ⟨v, H', rfl, g⟩ := copyS_ok hR hf h hn
        simp only [HPok, heapA, evOL_den, h1, h2, Option.map_some, SV.dens, g]
      case clear =>
        dsimp only at h
        split at h <;> try (cases h; done)
        rename_i x t h1 h2
        split at h <;> cases h
        rename_i H' hc
        have g : clearA P t (x.den ρ) (hD ρ H) = some (hD ρ H') := by
          unfold clearS at hc
          unfold clearA
          split at hc <;> try (cases hc; done)
          · rename_i hu; cases hc; simp only [hu, SV.den]
          · rename_i e n oc eo len cap esz ex hu
            simp only [hu, SV.den, X.den_lit, Int.ofNat_eq_natCast, Int.toNat_natCast]
            cases hz : len.beq 0 <;> rw [hz] at hc <;> simp only [cond_true, cond_false] at hc ⊢
            · split at hc <;> try (cases hc; done)
              rename_i z hzz
              have hz' : zero P e = some (z.den ρ) := by rw [zeroS_den (ρ := ρ), hzz]; rfl
              cases h4 : z.cells.length.beq esz <;> rw [h4] at hc <;> simp only [cond_true, cond_false] at hc <;> try (cases hc; done)
              cases h5 : z.cells.all SV.oneCell <;> rw [h5] at hc <;> simp only [cond_true, cond_false] at hc <;> try (cases hc; done)
              cases h6 : esz.beq 0 <;> rw [h6] at hc <;> simp only [cond_true, cond_false] at hc <;> try (cases hc; done)
              obtain ⟨cs, cs', g1, g2, g3⟩ := setC_ok (ρ := ρ) hc
              simp only [hz', g1, den_cells, dens_length, h4, all_oneCell, h5, h6, cond_true, cond_false, repS_den, g2, g3]
            · cases hc; rfl
        simp only [HPok, heapA, evOL_den, h1, h2, Option.map_some, SV.dens, g, SV.den]
end
end Sx
end Abs
end Go.Proofs.YtekmmeikkafpmaaGreat
