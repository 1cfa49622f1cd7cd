/- TopZoneDial: what is known in the law, and its tree. -/
import Derived.Test.YtanmiffgmiikfaaGreatZd0
set_option linter.unusedSimpArgs false
set_option linter.unusedVariables false
namespace Go.Proofs.YtanmiffgmiikfaaGreat
open Abs Sx
set_option maxRecDepth 100000
namespace Zd
def aX : X := rem (v 0) (lit 3601)
def cX : X := rem (v 1) (lit 3601)
def atX : X := add (v 2) (lit 1)
def t0X : X := v 2
def t1X : X := add (v 2) (add (lit 1) (v 3))
def qq (x : X) (n : Int) : X := quo (sub x (modX x (lit n))) (lit n)
def plX (t : X) : X := sub t (modX t (lit 1))
def haX (t s : X) : X := add (plX t) s
def plF (t s : X) : List X := [le (plX t) t, lt t (add (plX t) (lit 1)), lt (sub (add (modX (haX t s) (lit 43200)) (haX t s)) (haX t s)) (lit 43200)]
def mnX (x sh : X) : X := add (qq x 60) (modX (sub sh (qq x 60)) (lit 720))
def loopF (x sh : X) : List X := [le (mnX x sh) (qq x 60), lt (qq x 60) (add (mnX x sh) (lit 720)), le (qq x 60) (mnX x sh), le sh (lit 719)]
def seX (x : X) : X := rem (modX x (lit 86400)) (lit 43200)
def sh0 (t : X) : X := quo (rem t (lit 43200)) (lit 60)
def sh1 (x : X) : X := quo (seX x) (lit 60)
def oneF (t s : X) : List X := plF t s ++ (loopF t (sh0 t) ++ loopF (add t s) (sh1 (add t s)))
def zF : List X := oneF t0X aX ++ (oneF t1X cX ++ [lt t0X atX, X.not (lt t1X atX), le atX t1X, lt (v 2) t1X, X.not (le t1X (v 2)), le (sub t1X t1X) (lit 86400)])
def zdP : List X := rg (-32768) 32767 (v 0) ++ rg (-32768) 32767 (v 1) ++ rg 0 65535 (v 2) ++ rg 0 65535 (v 3)
def fF : OT SV := .leaf (.bool (lit 0))
def tT : OT SV := .leaf (.bool (lit 1))
def b0X (t : X) : X := mul (mnX t (sh0 t)) (lit 60)
def b1X (t s : X) : X := sub (mul (mnX (add t s) (sh1 (add t s))) (lit 60)) s
def loX (t s : X) : X := .bin .max (.bin .max t (b0X t)) (.bin .max t (b1X t s))
def hiX (t s : X) : X := .bin .min (.bin .min t (add (b0X t) (lit 59))) (.bin .min t (add (b1X t s) (lit 59)))
def body (t s : X) (r : OT SV) : OT SV := .ask (X.not (.bin .and (eq (modX (haX t s) (lit 43200)) (seX (add t s))) (eq (sub (add (modX (haX t s) (lit 43200)) (haX t s)) (haX t s)) (seX (add t s))))) fF (.ask (le (loX t s) (hiX t s)) (.ask (X.not (.bin .and (eq (loX t s) t) (eq (hiX t s) t))) fF r) fF)
def half (t s : X) (r : OT SV) : OT SV := .ask (lt (modX (plX t) (lit 3600)) (lit 1800)) (body t s r) (body t s r)
def pTw : Pr := ⟨9, [], [], fun _ => .leaf (.bool (lit 1))⟩
def pDi : Pr := ⟨8, [], [], fun _ => .leaf (.bool (lit 1))⟩
def zdL : List PrN := [pLen.toN, pTw.toN, pDi.toN]
def zdA : List SV := [.int .i16 (v 0), .int .i16 (v 1), .agg [.int .u16 (v 2), .int .u16 (v 3)]]
def zdR (P : Program) : OT SV := (exS P R0 (ksN R0 zdL) 800 (zF ++ zdP) (.call 3 zdA ⟨tplT [], [], 0⟩ 0)).map retV
theorem zd_run : zdR Tryz.prog = half t0X aX (half t1X cX tT) := by unfold zdR; kernel_rfl
end Zd
end Go.Proofs.YtanmiffgmiikfaaGreat
