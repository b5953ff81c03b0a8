/-
  Texts of sets, both ways: what the law over Parse wants.
-/
import Derived.Test.YtjneboajbmabbaaDoorMB1
import Derived.Test.YtjneboajbmabbaaDoorMB2
import Derived.Test.YtjneboajbmabbaaDoorMLP1
import Derived.Test.YtjneboajbmabbaaDoorMLP2
import Derived.Test.YtjneboajbmabbaaDoorMLP3
import Derived.Test.YtjneboajbmabbaaDoorMLP4
import Derived.Test.YtjneboajbmabbaaDoorMLP5
import Derived.Test.YtjneboajbmabbaaDoorMLP6
import Derived.Test.YtjneboajbmabbaaDoorMLP7
import Derived.Test.YtjneboajbmabbaaDoorMLP8
import Derived.Test.YtjneboajbmabbaaDoorMLP9
import Derived.Test.YtjneboajbmabbaaDoorMLP10
set_option linter.unusedSimpArgs false
set_option linter.unusedVariables false
namespace Go.Proofs.YtjneboajbmabbaaDoor.ref1
open Go.RowKit Go.Own Go.Rw Go.SetL Go.Bits Go.Tz Go.SetT Go.PlainAid
set_option maxHeartbeats 1000000
set_option maxRecDepth 100000

theorem ofL_asc {s : List Int} (hs : s.Pairwise (· < ·)) (hr : ∀ x ∈ s, 0 ≤ x ∧ x < 1024) : ofL s = s := by
  refine ext_sorted (foldl_sorted .nil) hs fun x => ?_
  simp only [ofL, foldl_with, List.not_mem_nil, false_or]
  exact ⟨fun h => h.1, fun h => ⟨h, (hr x h).1, (hr x h).2⟩⟩
theorem parse_fine (s : ByteArray) {l : List Int} (h : parseS (bt s) s.size = (l, 0)) : s = ⟨(textL (elems (rowOf l))).toArray⟩ := by
  obtain ⟨L, rfl, -⟩ := tl_at s
  have hs : (ByteArray.mk L.toArray).size = L.length := by simp [ByteArray.size]
  rw [hs] at h
  obtain ⟨h1, h2, h3⟩ := parseS_ok (b := bt ⟨L.toArray⟩) (L := L) (fun k c hk => by
    obtain ⟨e1, e2⟩ := List.getElem?_eq_some_iff.1 hk
    rw [bt_lit _ k e1, e2]) h
  rw [elems_rowOf, ofL_asc h2 h3, ← h1]
end Go.Proofs.YtjneboajbmabbaaDoor.ref1
