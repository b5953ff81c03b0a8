/-
  Decimal digits and their text.
-/
import Derived.Test.YtogjobmekjighaaDoorBdN
import Derived.Test.YtogjobmekjighaaDoorBnS
set_option linter.unusedSimpArgs false
set_option linter.unusedVariables false
namespace Go.Bd
open Go.Lib (decDigits)
open Go.Bn (dec_small dec_big)
/-- the text of digits, most significant first -/
def text (ds : List Nat) : List UInt8 := if ds = [] then [48] else ds.reverse.map fun d => UInt8.ofNat (48 + d)
theorem text_dec : ∀ {ds : List Nat}, Dig ds → Nrm ds → text ds = decDigits (val ds)
  | [], _, _ => by rw [val_nil, dec_small (by decide)]; rfl
  | [d], h, _ => by
    have hd : d < 10 := h d (by simp)
    rw [val_cons, val_nil, Nat.mul_zero, Nat.add_zero, dec_small hd]
    simp [text]
  | d :: e :: r, h, hn => by
    have hd : d < 10 := h d (by simp)
    have hp := val_pos (nrm_tail hn) (by simp : e :: r ≠ [])
    have ih := text_dec (dig_tail h) (nrm_tail hn)
    have e1 : val (d :: e :: r) = d + 10 * val (e :: r) := val_cons _ _
    rw [e1, dec_big (by omega), show (d + 10 * val (e :: r)) / 10 = val (e :: r) by omega, show (d + 10 * val (e :: r)) % 10 = d by omega, ← ih]
    simp [text]
theorem val_digs_inj {a b : List Nat} (h1 : Dig a) (h2 : Dig b) (h3 : Nrm a) (h4 : Nrm b) (h : decDigits (val a) = decDigits (val b)) : text a = text b := by rw [text_dec h1 h3, text_dec h2 h4, h]
end Go.Bd
