/-
  BitsetSubsets: the walk.
-/
import Derived.Test.YtjneboajbmabbaaDoorMB1
import Derived.Test.YtjneboajbmabbaaDoorMB2
import Derived.Test.YtjneboajbmabbaaDoorMLB1
import Derived.Test.YtjneboajbmabbaaDoorMLB2
import Derived.Test.YtjneboajbmabbaaDoorMLB3
import Derived.Test.YtjneboajbmabbaaDoorMLB4
import Derived.Test.YtjneboajbmabbaaDoorMLB5
import Derived.Test.YtjneboajbmabbaaDoorMLB6
import Derived.Test.YtjneboajbmabbaaDoorMLB7
import Derived.Test.YtjneboajbmabbaaDoorMLB8
set_option linter.unusedSimpArgs false
set_option linter.unusedVariables false
namespace Go.Proofs.YtjneboajbmabbaaDoor.bitsetSubsets
open Go.RowKit Go.Own Go.Rw Go.SetL Go.Bits Go.Proofs.YtjneboajbmabbaaDoor.ref1
set_option maxHeartbeats 1000000
set_option maxRecDepth 100000

theorem sumsS : Can.RecOk Tryd.prog [0, 1, 2] (Can.knownSm 24 tab [0, 1, 2]) := Can.knownSm_ok pc (Can.noSm_ok) tabAt tabPlain knownTrue
/-- the examples hold in every world that comes behind one where the tables are laid -/
theorem known_calls {W : World} (hL : laidMetH Tryd.prog Rows.bitsetSubsetsRow.laid W) (X : World) (hb : Below W.heap.size W X) : Calls Tryd.prog 24 #[] X fun e w' => e = .returned (.bool true) ∧ ∃ y, w' = beyond X y := by
  have hk : Can.Known (H0 (Can.tyAt W)) (Can.onG [0, 1, 2]) X := by
    refine Can.known_onG fun g hg => ?_
    have hg' := hg
    simp only [List.mem_cons, List.not_mem_nil, or_false] at hg
    rcases hg with rfl | rfl | rfl
    · have h0 : W.heap[0]? = some (.cells (tab 0) (Can.tyAt W 0) (0, 0)) := Can.laid_tab hL (by kernel_rfl) (List.mem_of_getElem? (i := 1) rfl) (by kernel_rfl) (by kernel_rfl) (by decide +kernel)
      exact ⟨tab 0, Can.tyAt W 0, rfl, (hb.block 0 (Array.getElem?_eq_some_iff.1 h0).1).trans h0, by kernel_rfl⟩
    · have h0 : W.heap[1]? = some (.cells (tab 1) (Can.tyAt W 1) (0, 0)) := Can.laid_tab hL (by kernel_rfl) (List.mem_of_getElem? (i := 2) rfl) (by kernel_rfl) (by kernel_rfl) (by decide +kernel)
      exact ⟨tab 1, Can.tyAt W 1, rfl, (hb.block 1 (Array.getElem?_eq_some_iff.1 h0).1).trans h0, by kernel_rfl⟩
    · have h0 : W.heap[2]? = some (.cells (tab 2) (Can.tyAt W 2) (0, 0)) := Can.laid_tab hL (by kernel_rfl) (List.mem_of_getElem? (i := 0) rfl) (by kernel_rfl) (by kernel_rfl) (by decide +kernel)
      exact ⟨tab 2, Can.tyAt W 2, rfl, (hb.block 2 (Array.getElem?_eq_some_iff.1 h0).1).trans h0, by kernel_rfl⟩
  exact Can.true_callsS pc sumsS (n := 5) (by kernel_rfl) hk (Can.gl_onG _) (Can.plain_args (by kernel_rfl))
theorem tzW {W : World} (hL : laidMetH Tryd.prog Rows.bitsetSubsetsRow.laid W) : TzW W :=
  tzW_of (T := Can.tyAt W 0) (Can.laid_tab hL (by kernel_rfl) (List.mem_of_getElem? (i := 1) rfl) (by kernel_rfl) (by kernel_rfl) (by decide +kernel))
theorem size_pos {W : World} (hL : laidMetH Tryd.prog Rows.bitsetSubsetsRow.laid W) : 0 < W.heap.size :=
  (Array.getElem?_eq_some_iff.1 (Can.laid_tab hL (g := 0) (by kernel_rfl) (List.mem_of_getElem? (i := 1) rfl) (by kernel_rfl) (by kernel_rfl) (by decide +kernel))).1
theorem walk {W : World} (hL : laidMetH Tryd.prog Rows.bitsetSubsetsRow.laid W) (q : Option Addr) (n c b off : Nat) (V : Nat → Int) (hl : n ≤ c) (hm : c ≤ maxLen) (hq : 0 < n → q = some ⟨b, off, none⟩ ∧ b < W.heap.size)
    (hx : ∀ i, i < n → W.cell? ⟨b, off + i, none⟩ = some (.int .u16 (V i)) ∧ (Lit.int .u16 (V i)).wf = true) (s : Int) (hs : 0 ≤ s ∧ s ≤ 65535) :
    Calls Tryd.prog 9 #[.slice q n c, .int .u16 s] W fun e w' => e = .returned (.bool true) ∧ ∃ x, w' = beyond W x :=
  sub_main q n c b off V hl hm hq (fun i hi => ⟨(hx i hi).1, by have h := (hx i hi).2; simp [Lit.wf] at h; exact ⟨h.1, h.2⟩⟩) s hs (fun X hb => known_calls hL X hb) (tzW hL) (size_pos hL)
end Go.Proofs.YtjneboajbmabbaaDoor.bitsetSubsets
