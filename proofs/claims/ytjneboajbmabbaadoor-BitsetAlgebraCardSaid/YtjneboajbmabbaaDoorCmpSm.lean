/-
  Comparing two sets, on any rows of words: the order of sets, ps a contract that is looked up.
-/
import Derived.Test.YtjneboajbmabbaaDoorBitSm
import Derived.Test.YtjneboajbmabbaaDoorCaseBitsetCmp
set_option linter.unusedSimpArgs false
set_option linter.unusedVariables false
namespace Go.Proofs.YtjneboajbmabbaaDoor.bits
open Go.Can Go.RowKit Go.Bits Go.Own
set_option maxRecDepth 100000
set_option maxHeartbeats 1000000
theorem cmp_calls {ps qs : List Int} (ha : ps.length = 16) (hb : qs.length = 16) (w : World) : Calls Tryd.prog 39 #[rowV .u64 ps, rowV .u64 qs] w fun e w' => e = .returned (.int .i64 (cmpV ps qs)) ∧ ∃ y, w' = beyond w y := by
  obtain ⟨a0, a1, a2, a3, a4, a5, a6, a7, a8, a9, a10, a11, a12, a13, a14, a15, rfl⟩ := len16 ha
  obtain ⟨b0, b1, b2, b3, b4, b5, b6, b7, b8, b9, b10, b11, b12, b13, b14, b15, rfl⟩ := len16 hb
  have go : ∀ {orc : List Site → FuncId → Orc} {m : Int} {l : Obl} {tags : List Nat}, evDInt .i64 m (evD Tryd.prog [] (liftSm noSm) orc 300 [] (.call 39 #[rowV .u64 [a0, a1, a2, a3, a4, a5, a6, a7, a8, a9, a10, a11, a12, a13, a14, a15], rowV .u64 [b0, b1, b2, b3, b4, b5, b6, b7, b8, b9, b10, b11, b12, b13, b14, b15]]) (AW.start #[])) = some (Obl.tab l tags) → l.Ok →
      Calls Tryd.prog 39 #[rowV .u64 [a0, a1, a2, a3, a4, a5, a6, a7, a8, a9, a10, a11, a12, a13, a14, a15], rowV .u64 [b0, b1, b2, b3, b4, b5, b6, b7, b8, b9, b10, b11, b12, b13, b14, b15]] w fun e w' => e = .returned (.int .i64 m) ∧ ∃ y, w' = beyond w y :=
    fun h ok => int_callsD pc (liftSm_ok noSm_ok) h (Obl.tab_ok ok) (plain2 _ _) w
  rw [show cmpV [a0, a1, a2, a3, a4, a5, a6, a7, a8, a9, a10, a11, a12, a13, a14, a15] [b0, b1, b2, b3, b4, b5, b6, b7, b8, b9, b10, b11, b12, b13, b14, b15] = cmpT [(a15, b15), (a14, b14), (a13, b13), (a12, b12), (a11, b11), (a10, b10), (a9, b9), (a8, b8), (a7, b7), (a6, b6), (a5, b5), (a4, b4), (a3, b3), (a2, b2), (a1, b1), (a0, b0)] from rfl]
  by_cases p15 : a15 < b15
  · rw [cmpT, if_pos p15]
    exact go (cmp_lt15 (fun _ => 0) a0 a1 a2 a3 a4 a5 a6 a7 a8 a9 a10 a11 a12 a13 a14 a15 b0 b1 b2 b3 b4 b5 b6 b7 b8 b9 b10 b11 b12 b13 b14 b15) (Obl.ok_more (decide_eq_true p15) (Obl.ok_nil))
  have x15 : decide (a15 < b15) = false := decide_eq_false p15
  by_cases q15 : b15 < a15
  · rw [cmpT, if_neg p15, if_pos q15]
    exact go (cmp_gt15 (fun _ => 0) a0 a1 a2 a3 a4 a5 a6 a7 a8 a9 a10 a11 a12 a13 a14 a15 b0 b1 b2 b3 b4 b5 b6 b7 b8 b9 b10 b11 b12 b13 b14 b15) (Obl.ok_more x15 (Obl.ok_more (decide_eq_true q15) (Obl.ok_nil)))
  have y15 : decide (b15 < a15) = false := decide_eq_false q15
  rw [cmpT, if_neg p15, if_neg q15]
  by_cases p14 : a14 < b14
  · rw [cmpT, if_pos p14]
    exact go (cmp_lt14 (fun _ => 0) a0 a1 a2 a3 a4 a5 a6 a7 a8 a9 a10 a11 a12 a13 a14 a15 b0 b1 b2 b3 b4 b5 b6 b7 b8 b9 b10 b11 b12 b13 b14 b15) (Obl.ok_more x15 (Obl.ok_more y15 (Obl.ok_more (decide_eq_true p14) (Obl.ok_nil))))
  have x14 : decide (a14 < b14) = false := decide_eq_false p14
  by_cases q14 : b14 < a14
  · rw [cmpT, if_neg p14, if_pos q14]
    exact go (cmp_gt14 (fun _ => 0) a0 a1 a2 a3 a4 a5 a6 a7 a8 a9 a10 a11 a12 a13 a14 a15 b0 b1 b2 b3 b4 b5 b6 b7 b8 b9 b10 b11 b12 b13 b14 b15) (Obl.ok_more x15 (Obl.ok_more y15 (Obl.ok_more x14 (Obl.ok_more (decide_eq_true q14) (Obl.ok_nil)))))
  have y14 : decide (b14 < a14) = false := decide_eq_false q14
  rw [cmpT, if_neg p14, if_neg q14]
  by_cases p13 : a13 < b13
  · rw [cmpT, if_pos p13]
    exact go (cmp_lt13 (fun _ => 0) a0 a1 a2 a3 a4 a5 a6 a7 a8 a9 a10 a11 a12 a13 a14 a15 b0 b1 b2 b3 b4 b5 b6 b7 b8 b9 b10 b11 b12 b13 b14 b15) (Obl.ok_more x15 (Obl.ok_more y15 (Obl.ok_more x14 (Obl.ok_more y14 (Obl.ok_more (decide_eq_true p13) (Obl.ok_nil))))))
  have x13 : decide (a13 < b13) = false := decide_eq_false p13
  by_cases q13 : b13 < a13
  · rw [cmpT, if_neg p13, if_pos q13]
    exact go (cmp_gt13 (fun _ => 0) a0 a1 a2 a3 a4 a5 a6 a7 a8 a9 a10 a11 a12 a13 a14 a15 b0 b1 b2 b3 b4 b5 b6 b7 b8 b9 b10 b11 b12 b13 b14 b15) (Obl.ok_more x15 (Obl.ok_more y15 (Obl.ok_more x14 (Obl.ok_more y14 (Obl.ok_more x13 (Obl.ok_more (decide_eq_true q13) (Obl.ok_nil)))))))
  have y13 : decide (b13 < a13) = false := decide_eq_false q13
  rw [cmpT, if_neg p13, if_neg q13]
  by_cases p12 : a12 < b12
  · rw [cmpT, if_pos p12]
    exact go (cmp_lt12 (fun _ => 0) a0 a1 a2 a3 a4 a5 a6 a7 a8 a9 a10 a11 a12 a13 a14 a15 b0 b1 b2 b3 b4 b5 b6 b7 b8 b9 b10 b11 b12 b13 b14 b15) (Obl.ok_more x15 (Obl.ok_more y15 (Obl.ok_more x14 (Obl.ok_more y14 (Obl.ok_more x13 (Obl.ok_more y13 (Obl.ok_more (decide_eq_true p12) (Obl.ok_nil))))))))
  have x12 : decide (a12 < b12) = false := decide_eq_false p12
  by_cases q12 : b12 < a12
  · rw [cmpT, if_neg p12, if_pos q12]
    exact go (cmp_gt12 (fun _ => 0) a0 a1 a2 a3 a4 a5 a6 a7 a8 a9 a10 a11 a12 a13 a14 a15 b0 b1 b2 b3 b4 b5 b6 b7 b8 b9 b10 b11 b12 b13 b14 b15) (Obl.ok_more x15 (Obl.ok_more y15 (Obl.ok_more x14 (Obl.ok_more y14 (Obl.ok_more x13 (Obl.ok_more y13 (Obl.ok_more x12 (Obl.ok_more (decide_eq_true q12) (Obl.ok_nil)))))))))
  have y12 : decide (b12 < a12) = false := decide_eq_false q12
  rw [cmpT, if_neg p12, if_neg q12]
  by_cases p11 : a11 < b11
  · rw [cmpT, if_pos p11]
    exact go (cmp_lt11 (fun _ => 0) a0 a1 a2 a3 a4 a5 a6 a7 a8 a9 a10 a11 a12 a13 a14 a15 b0 b1 b2 b3 b4 b5 b6 b7 b8 b9 b10 b11 b12 b13 b14 b15) (Obl.ok_more x15 (Obl.ok_more y15 (Obl.ok_more x14 (Obl.ok_more y14 (Obl.ok_more x13 (Obl.ok_more y13 (Obl.ok_more x12 (Obl.ok_more y12 (Obl.ok_more (decide_eq_true p11) (Obl.ok_nil))))))))))
  have x11 : decide (a11 < b11) = false := decide_eq_false p11
  by_cases q11 : b11 < a11
  · rw [cmpT, if_neg p11, if_pos q11]
    exact go (cmp_gt11 (fun _ => 0) a0 a1 a2 a3 a4 a5 a6 a7 a8 a9 a10 a11 a12 a13 a14 a15 b0 b1 b2 b3 b4 b5 b6 b7 b8 b9 b10 b11 b12 b13 b14 b15) (Obl.ok_more x15 (Obl.ok_more y15 (Obl.ok_more x14 (Obl.ok_more y14 (Obl.ok_more x13 (Obl.ok_more y13 (Obl.ok_more x12 (Obl.ok_more y12 (Obl.ok_more x11 (Obl.ok_more (decide_eq_true q11) (Obl.ok_nil)))))))))))
  have y11 : decide (b11 < a11) = false := decide_eq_false q11
  rw [cmpT, if_neg p11, if_neg q11]
  by_cases p10 : a10 < b10
  · rw [cmpT, if_pos p10]
    exact go (cmp_lt10 (fun _ => 0) a0 a1 a2 a3 a4 a5 a6 a7 a8 a9 a10 a11 a12 a13 a14 a15 b0 b1 b2 b3 b4 b5 b6 b7 b8 b9 b10 b11 b12 b13 b14 b15) (Obl.ok_more x15 (Obl.ok_more y15 (Obl.ok_more x14 (Obl.ok_more y14 (Obl.ok_more x13 (Obl.ok_more y13 (Obl.ok_more x12 (Obl.ok_more y12 (Obl.ok_more x11 (Obl.ok_more y11 (Obl.ok_more (decide_eq_true p10) (Obl.ok_nil))))))))))))
  have x10 : decide (a10 < b10) = false := decide_eq_false p10
  by_cases q10 : b10 < a10
  · rw [cmpT, if_neg p10, if_pos q10]
    exact go (cmp_gt10 (fun _ => 0) a0 a1 a2 a3 a4 a5 a6 a7 a8 a9 a10 a11 a12 a13 a14 a15 b0 b1 b2 b3 b4 b5 b6 b7 b8 b9 b10 b11 b12 b13 b14 b15) (Obl.ok_more x15 (Obl.ok_more y15 (Obl.ok_more x14 (Obl.ok_more y14 (Obl.ok_more x13 (Obl.ok_more y13 (Obl.ok_more x12 (Obl.ok_more y12 (Obl.ok_more x11 (Obl.ok_more y11 (Obl.ok_more x10 (Obl.ok_more (decide_eq_true q10) (Obl.ok_nil)))))))))))))
  have y10 : decide (b10 < a10) = false := decide_eq_false q10
  rw [cmpT, if_neg p10, if_neg q10]
  by_cases p9 : a9 < b9
  · rw [cmpT, if_pos p9]
    exact go (cmp_lt9 (fun _ => 0) a0 a1 a2 a3 a4 a5 a6 a7 a8 a9 a10 a11 a12 a13 a14 a15 b0 b1 b2 b3 b4 b5 b6 b7 b8 b9 b10 b11 b12 b13 b14 b15) (Obl.ok_more x15 (Obl.ok_more y15 (Obl.ok_more x14 (Obl.ok_more y14 (Obl.ok_more x13 (Obl.ok_more y13 (Obl.ok_more x12 (Obl.ok_more y12 (Obl.ok_more x11 (Obl.ok_more y11 (Obl.ok_more x10 (Obl.ok_more y10 (Obl.ok_more (decide_eq_true p9) (Obl.ok_nil))))))))))))))
  have x9 : decide (a9 < b9) = false := decide_eq_false p9
  by_cases q9 : b9 < a9
  · rw [cmpT, if_neg p9, if_pos q9]
    exact go (cmp_gt9 (fun _ => 0) a0 a1 a2 a3 a4 a5 a6 a7 a8 a9 a10 a11 a12 a13 a14 a15 b0 b1 b2 b3 b4 b5 b6 b7 b8 b9 b10 b11 b12 b13 b14 b15) (Obl.ok_more x15 (Obl.ok_more y15 (Obl.ok_more x14 (Obl.ok_more y14 (Obl.ok_more x13 (Obl.ok_more y13 (Obl.ok_more x12 (Obl.ok_more y12 (Obl.ok_more x11 (Obl.ok_more y11 (Obl.ok_more x10 (Obl.ok_more y10 (Obl.ok_more x9 (Obl.ok_more (decide_eq_true q9) (Obl.ok_nil)))))))))))))))
  have y9 : decide (b9 < a9) = false := decide_eq_false q9
  rw [cmpT, if_neg p9, if_neg q9]
  by_cases p8 : a8 < b8
  · rw [cmpT, if_pos p8]
    exact go (cmp_lt8 (fun _ => 0) a0 a1 a2 a3 a4 a5 a6 a7 a8 a9 a10 a11 a12 a13 a14 a15 b0 b1 b2 b3 b4 b5 b6 b7 b8 b9 b10 b11 b12 b13 b14 b15) (Obl.ok_more x15 (Obl.ok_more y15 (Obl.ok_more x14 (Obl.ok_more y14 (Obl.ok_more x13 (Obl.ok_more y13 (Obl.ok_more x12 (Obl.ok_more y12 (Obl.ok_more x11 (Obl.ok_more y11 (Obl.ok_more x10 (Obl.ok_more y10 (Obl.ok_more x9 (Obl.ok_more y9 (Obl.ok_more (decide_eq_true p8) (Obl.ok_nil))))))))))))))))
  have x8 : decide (a8 < b8) = false := decide_eq_false p8
  by_cases q8 : b8 < a8
  · rw [cmpT, if_neg p8, if_pos q8]
    exact go (cmp_gt8 (fun _ => 0) a0 a1 a2 a3 a4 a5 a6 a7 a8 a9 a10 a11 a12 a13 a14 a15 b0 b1 b2 b3 b4 b5 b6 b7 b8 b9 b10 b11 b12 b13 b14 b15) (Obl.ok_more x15 (Obl.ok_more y15 (Obl.ok_more x14 (Obl.ok_more y14 (Obl.ok_more x13 (Obl.ok_more y13 (Obl.ok_more x12 (Obl.ok_more y12 (Obl.ok_more x11 (Obl.ok_more y11 (Obl.ok_more x10 (Obl.ok_more y10 (Obl.ok_more x9 (Obl.ok_more y9 (Obl.ok_more x8 (Obl.ok_more (decide_eq_true q8) (Obl.ok_nil)))))))))))))))))
  have y8 : decide (b8 < a8) = false := decide_eq_false q8
  rw [cmpT, if_neg p8, if_neg q8]
  by_cases p7 : a7 < b7
  · rw [cmpT, if_pos p7]
    exact go (cmp_lt7 (fun _ => 0) a0 a1 a2 a3 a4 a5 a6 a7 a8 a9 a10 a11 a12 a13 a14 a15 b0 b1 b2 b3 b4 b5 b6 b7 b8 b9 b10 b11 b12 b13 b14 b15) (Obl.ok_more x15 (Obl.ok_more y15 (Obl.ok_more x14 (Obl.ok_more y14 (Obl.ok_more x13 (Obl.ok_more y13 (Obl.ok_more x12 (Obl.ok_more y12 (Obl.ok_more x11 (Obl.ok_more y11 (Obl.ok_more x10 (Obl.ok_more y10 (Obl.ok_more x9 (Obl.ok_more y9 (Obl.ok_more x8 (Obl.ok_more y8 (Obl.ok_more (decide_eq_true p7) (Obl.ok_nil))))))))))))))))))
  have x7 : decide (a7 < b7) = false := decide_eq_false p7
  by_cases q7 : b7 < a7
  · rw [cmpT, if_neg p7, if_pos q7]
    exact go (cmp_gt7 (fun _ => 0) a0 a1 a2 a3 a4 a5 a6 a7 a8 a9 a10 a11 a12 a13 a14 a15 b0 b1 b2 b3 b4 b5 b6 b7 b8 b9 b10 b11 b12 b13 b14 b15) (Obl.ok_more x15 (Obl.ok_more y15 (Obl.ok_more x14 (Obl.ok_more y14 (Obl.ok_more x13 (Obl.ok_more y13 (Obl.ok_more x12 (Obl.ok_more y12 (Obl.ok_more x11 (Obl.ok_more y11 (Obl.ok_more x10 (Obl.ok_more y10 (Obl.ok_more x9 (Obl.ok_more y9 (Obl.ok_more x8 (Obl.ok_more y8 (Obl.ok_more x7 (Obl.ok_more (decide_eq_true q7) (Obl.ok_nil)))))))))))))))))))
  have y7 : decide (b7 < a7) = false := decide_eq_false q7
  rw [cmpT, if_neg p7, if_neg q7]
  by_cases p6 : a6 < b6
  · rw [cmpT, if_pos p6]
    exact go (cmp_lt6 (fun _ => 0) a0 a1 a2 a3 a4 a5 a6 a7 a8 a9 a10 a11 a12 a13 a14 a15 b0 b1 b2 b3 b4 b5 b6 b7 b8 b9 b10 b11 b12 b13 b14 b15) (Obl.ok_more x15 (Obl.ok_more y15 (Obl.ok_more x14 (Obl.ok_more y14 (Obl.ok_more x13 (Obl.ok_more y13 (Obl.ok_more x12 (Obl.ok_more y12 (Obl.ok_more x11 (Obl.ok_more y11 (Obl.ok_more x10 (Obl.ok_more y10 (Obl.ok_more x9 (Obl.ok_more y9 (Obl.ok_more x8 (Obl.ok_more y8 (Obl.ok_more x7 (Obl.ok_more y7 (Obl.ok_more (decide_eq_true p6) (Obl.ok_nil))))))))))))))))))))
  have x6 : decide (a6 < b6) = false := decide_eq_false p6
  by_cases q6 : b6 < a6
  · rw [cmpT, if_neg p6, if_pos q6]
    exact go (cmp_gt6 (fun _ => 0) a0 a1 a2 a3 a4 a5 a6 a7 a8 a9 a10 a11 a12 a13 a14 a15 b0 b1 b2 b3 b4 b5 b6 b7 b8 b9 b10 b11 b12 b13 b14 b15) (Obl.ok_more x15 (Obl.ok_more y15 (Obl.ok_more x14 (Obl.ok_more y14 (Obl.ok_more x13 (Obl.ok_more y13 (Obl.ok_more x12 (Obl.ok_more y12 (Obl.ok_more x11 (Obl.ok_more y11 (Obl.ok_more x10 (Obl.ok_more y10 (Obl.ok_more x9 (Obl.ok_more y9 (Obl.ok_more x8 (Obl.ok_more y8 (Obl.ok_more x7 (Obl.ok_more y7 (Obl.ok_more x6 (Obl.ok_more (decide_eq_true q6) (Obl.ok_nil)))))))))))))))))))))
  have y6 : decide (b6 < a6) = false := decide_eq_false q6
  rw [cmpT, if_neg p6, if_neg q6]
  by_cases p5 : a5 < b5
  · rw [cmpT, if_pos p5]
    exact go (cmp_lt5 (fun _ => 0) a0 a1 a2 a3 a4 a5 a6 a7 a8 a9 a10 a11 a12 a13 a14 a15 b0 b1 b2 b3 b4 b5 b6 b7 b8 b9 b10 b11 b12 b13 b14 b15) (Obl.ok_more x15 (Obl.ok_more y15 (Obl.ok_more x14 (Obl.ok_more y14 (Obl.ok_more x13 (Obl.ok_more y13 (Obl.ok_more x12 (Obl.ok_more y12 (Obl.ok_more x11 (Obl.ok_more y11 (Obl.ok_more x10 (Obl.ok_more y10 (Obl.ok_more x9 (Obl.ok_more y9 (Obl.ok_more x8 (Obl.ok_more y8 (Obl.ok_more x7 (Obl.ok_more y7 (Obl.ok_more x6 (Obl.ok_more y6 (Obl.ok_more (decide_eq_true p5) (Obl.ok_nil))))))))))))))))))))))
  have x5 : decide (a5 < b5) = false := decide_eq_false p5
  by_cases q5 : b5 < a5
  · rw [cmpT, if_neg p5, if_pos q5]
    exact go (cmp_gt5 (fun _ => 0) a0 a1 a2 a3 a4 a5 a6 a7 a8 a9 a10 a11 a12 a13 a14 a15 b0 b1 b2 b3 b4 b5 b6 b7 b8 b9 b10 b11 b12 b13 b14 b15) (Obl.ok_more x15 (Obl.ok_more y15 (Obl.ok_more x14 (Obl.ok_more y14 (Obl.ok_more x13 (Obl.ok_more y13 (Obl.ok_more x12 (Obl.ok_more y12 (Obl.ok_more x11 (Obl.ok_more y11 (Obl.ok_more x10 (Obl.ok_more y10 (Obl.ok_more x9 (Obl.ok_more y9 (Obl.ok_more x8 (Obl.ok_more y8 (Obl.ok_more x7 (Obl.ok_more y7 (Obl.ok_more x6 (Obl.ok_more y6 (Obl.ok_more x5 (Obl.ok_more (decide_eq_true q5) (Obl.ok_nil)))))))))))))))))))))))
  have y5 : decide (b5 < a5) = false := decide_eq_false q5
  rw [cmpT, if_neg p5, if_neg q5]
  by_cases p4 : a4 < b4
  · rw [cmpT, if_pos p4]
    exact go (cmp_lt4 (fun _ => 0) a0 a1 a2 a3 a4 a5 a6 a7 a8 a9 a10 a11 a12 a13 a14 a15 b0 b1 b2 b3 b4 b5 b6 b7 b8 b9 b10 b11 b12 b13 b14 b15) (Obl.ok_more x15 (Obl.ok_more y15 (Obl.ok_more x14 (Obl.ok_more y14 (Obl.ok_more x13 (Obl.ok_more y13 (Obl.ok_more x12 (Obl.ok_more y12 (Obl.ok_more x11 (Obl.ok_more y11 (Obl.ok_more x10 (Obl.ok_more y10 (Obl.ok_more x9 (Obl.ok_more y9 (Obl.ok_more x8 (Obl.ok_more y8 (Obl.ok_more x7 (Obl.ok_more y7 (Obl.ok_more x6 (Obl.ok_more y6 (Obl.ok_more x5 (Obl.ok_more y5 (Obl.ok_more (decide_eq_true p4) (Obl.ok_nil))))))))))))))))))))))))
  have x4 : decide (a4 < b4) = false := decide_eq_false p4
  by_cases q4 : b4 < a4
  · rw [cmpT, if_neg p4, if_pos q4]
    exact go (cmp_gt4 (fun _ => 0) a0 a1 a2 a3 a4 a5 a6 a7 a8 a9 a10 a11 a12 a13 a14 a15 b0 b1 b2 b3 b4 b5 b6 b7 b8 b9 b10 b11 b12 b13 b14 b15) (Obl.ok_more x15 (Obl.ok_more y15 (Obl.ok_more x14 (Obl.ok_more y14 (Obl.ok_more x13 (Obl.ok_more y13 (Obl.ok_more x12 (Obl.ok_more y12 (Obl.ok_more x11 (Obl.ok_more y11 (Obl.ok_more x10 (Obl.ok_more y10 (Obl.ok_more x9 (Obl.ok_more y9 (Obl.ok_more x8 (Obl.ok_more y8 (Obl.ok_more x7 (Obl.ok_more y7 (Obl.ok_more x6 (Obl.ok_more y6 (Obl.ok_more x5 (Obl.ok_more y5 (Obl.ok_more x4 (Obl.ok_more (decide_eq_true q4) (Obl.ok_nil)))))))))))))))))))))))))
  have y4 : decide (b4 < a4) = false := decide_eq_false q4
  rw [cmpT, if_neg p4, if_neg q4]
  by_cases p3 : a3 < b3
  · rw [cmpT, if_pos p3]
    exact go (cmp_lt3 (fun _ => 0) a0 a1 a2 a3 a4 a5 a6 a7 a8 a9 a10 a11 a12 a13 a14 a15 b0 b1 b2 b3 b4 b5 b6 b7 b8 b9 b10 b11 b12 b13 b14 b15) (Obl.ok_more x15 (Obl.ok_more y15 (Obl.ok_more x14 (Obl.ok_more y14 (Obl.ok_more x13 (Obl.ok_more y13 (Obl.ok_more x12 (Obl.ok_more y12 (Obl.ok_more x11 (Obl.ok_more y11 (Obl.ok_more x10 (Obl.ok_more y10 (Obl.ok_more x9 (Obl.ok_more y9 (Obl.ok_more x8 (Obl.ok_more y8 (Obl.ok_more x7 (Obl.ok_more y7 (Obl.ok_more x6 (Obl.ok_more y6 (Obl.ok_more x5 (Obl.ok_more y5 (Obl.ok_more x4 (Obl.ok_more y4 (Obl.ok_more (decide_eq_true p3) (Obl.ok_nil))))))))))))))))))))))))))
  have x3 : decide (a3 < b3) = false := decide_eq_false p3
  by_cases q3 : b3 < a3
  · rw [cmpT, if_neg p3, if_pos q3]
    exact go (cmp_gt3 (fun _ => 0) a0 a1 a2 a3 a4 a5 a6 a7 a8 a9 a10 a11 a12 a13 a14 a15 b0 b1 b2 b3 b4 b5 b6 b7 b8 b9 b10 b11 b12 b13 b14 b15) (Obl.ok_more x15 (Obl.ok_more y15 (Obl.ok_more x14 (Obl.ok_more y14 (Obl.ok_more x13 (Obl.ok_more y13 (Obl.ok_more x12 (Obl.ok_more y12 (Obl.ok_more x11 (Obl.ok_more y11 (Obl.ok_more x10 (Obl.ok_more y10 (Obl.ok_more x9 (Obl.ok_more y9 (Obl.ok_more x8 (Obl.ok_more y8 (Obl.ok_more x7 (Obl.ok_more y7 (Obl.ok_more x6 (Obl.ok_more y6 (Obl.ok_more x5 (Obl.ok_more y5 (Obl.ok_more x4 (Obl.ok_more y4 (Obl.ok_more x3 (Obl.ok_more (decide_eq_true q3) (Obl.ok_nil)))))))))))))))))))))))))))
  have y3 : decide (b3 < a3) = false := decide_eq_false q3
  rw [cmpT, if_neg p3, if_neg q3]
  by_cases p2 : a2 < b2
  · rw [cmpT, if_pos p2]
    exact go (cmp_lt2 (fun _ => 0) a0 a1 a2 a3 a4 a5 a6 a7 a8 a9 a10 a11 a12 a13 a14 a15 b0 b1 b2 b3 b4 b5 b6 b7 b8 b9 b10 b11 b12 b13 b14 b15) (Obl.ok_more x15 (Obl.ok_more y15 (Obl.ok_more x14 (Obl.ok_more y14 (Obl.ok_more x13 (Obl.ok_more y13 (Obl.ok_more x12 (Obl.ok_more y12 (Obl.ok_more x11 (Obl.ok_more y11 (Obl.ok_more x10 (Obl.ok_more y10 (Obl.ok_more x9 (Obl.ok_more y9 (Obl.ok_more x8 (Obl.ok_more y8 (Obl.ok_more x7 (Obl.ok_more y7 (Obl.ok_more x6 (Obl.ok_more y6 (Obl.ok_more x5 (Obl.ok_more y5 (Obl.ok_more x4 (Obl.ok_more y4 (Obl.ok_more x3 (Obl.ok_more y3 (Obl.ok_more (decide_eq_true p2) (Obl.ok_nil))))))))))))))))))))))))))))
  have x2 : decide (a2 < b2) = false := decide_eq_false p2
  by_cases q2 : b2 < a2
  · rw [cmpT, if_neg p2, if_pos q2]
    exact go (cmp_gt2 (fun _ => 0) a0 a1 a2 a3 a4 a5 a6 a7 a8 a9 a10 a11 a12 a13 a14 a15 b0 b1 b2 b3 b4 b5 b6 b7 b8 b9 b10 b11 b12 b13 b14 b15) (Obl.ok_more x15 (Obl.ok_more y15 (Obl.ok_more x14 (Obl.ok_more y14 (Obl.ok_more x13 (Obl.ok_more y13 (Obl.ok_more x12 (Obl.ok_more y12 (Obl.ok_more x11 (Obl.ok_more y11 (Obl.ok_more x10 (Obl.ok_more y10 (Obl.ok_more x9 (Obl.ok_more y9 (Obl.ok_more x8 (Obl.ok_more y8 (Obl.ok_more x7 (Obl.ok_more y7 (Obl.ok_more x6 (Obl.ok_more y6 (Obl.ok_more x5 (Obl.ok_more y5 (Obl.ok_more x4 (Obl.ok_more y4 (Obl.ok_more x3 (Obl.ok_more y3 (Obl.ok_more x2 (Obl.ok_more (decide_eq_true q2) (Obl.ok_nil)))))))))))))))))))))))))))))
  have y2 : decide (b2 < a2) = false := decide_eq_false q2
  rw [cmpT, if_neg p2, if_neg q2]
  by_cases p1 : a1 < b1
  · rw [cmpT, if_pos p1]
    exact go (cmp_lt1 (fun _ => 0) a0 a1 a2 a3 a4 a5 a6 a7 a8 a9 a10 a11 a12 a13 a14 a15 b0 b1 b2 b3 b4 b5 b6 b7 b8 b9 b10 b11 b12 b13 b14 b15) (Obl.ok_more x15 (Obl.ok_more y15 (Obl.ok_more x14 (Obl.ok_more y14 (Obl.ok_more x13 (Obl.ok_more y13 (Obl.ok_more x12 (Obl.ok_more y12 (Obl.ok_more x11 (Obl.ok_more y11 (Obl.ok_more x10 (Obl.ok_more y10 (Obl.ok_more x9 (Obl.ok_more y9 (Obl.ok_more x8 (Obl.ok_more y8 (Obl.ok_more x7 (Obl.ok_more y7 (Obl.ok_more x6 (Obl.ok_more y6 (Obl.ok_more x5 (Obl.ok_more y5 (Obl.ok_more x4 (Obl.ok_more y4 (Obl.ok_more x3 (Obl.ok_more y3 (Obl.ok_more x2 (Obl.ok_more y2 (Obl.ok_more (decide_eq_true p1) (Obl.ok_nil))))))))))))))))))))))))))))))
  have x1 : decide (a1 < b1) = false := decide_eq_false p1
  by_cases q1 : b1 < a1
  · rw [cmpT, if_neg p1, if_pos q1]
    exact go (cmp_gt1 (fun _ => 0) a0 a1 a2 a3 a4 a5 a6 a7 a8 a9 a10 a11 a12 a13 a14 a15 b0 b1 b2 b3 b4 b5 b6 b7 b8 b9 b10 b11 b12 b13 b14 b15) (Obl.ok_more x15 (Obl.ok_more y15 (Obl.ok_more x14 (Obl.ok_more y14 (Obl.ok_more x13 (Obl.ok_more y13 (Obl.ok_more x12 (Obl.ok_more y12 (Obl.ok_more x11 (Obl.ok_more y11 (Obl.ok_more x10 (Obl.ok_more y10 (Obl.ok_more x9 (Obl.ok_more y9 (Obl.ok_more x8 (Obl.ok_more y8 (Obl.ok_more x7 (Obl.ok_more y7 (Obl.ok_more x6 (Obl.ok_more y6 (Obl.ok_more x5 (Obl.ok_more y5 (Obl.ok_more x4 (Obl.ok_more y4 (Obl.ok_more x3 (Obl.ok_more y3 (Obl.ok_more x2 (Obl.ok_more y2 (Obl.ok_more x1 (Obl.ok_more (decide_eq_true q1) (Obl.ok_nil)))))))))))))))))))))))))))))))
  have y1 : decide (b1 < a1) = false := decide_eq_false q1
  rw [cmpT, if_neg p1, if_neg q1]
  by_cases p0 : a0 < b0
  · rw [cmpT, if_pos p0]
    exact go (cmp_lt0 (fun _ => 0) a0 a1 a2 a3 a4 a5 a6 a7 a8 a9 a10 a11 a12 a13 a14 a15 b0 b1 b2 b3 b4 b5 b6 b7 b8 b9 b10 b11 b12 b13 b14 b15) (Obl.ok_more x15 (Obl.ok_more y15 (Obl.ok_more x14 (Obl.ok_more y14 (Obl.ok_more x13 (Obl.ok_more y13 (Obl.ok_more x12 (Obl.ok_more y12 (Obl.ok_more x11 (Obl.ok_more y11 (Obl.ok_more x10 (Obl.ok_more y10 (Obl.ok_more x9 (Obl.ok_more y9 (Obl.ok_more x8 (Obl.ok_more y8 (Obl.ok_more x7 (Obl.ok_more y7 (Obl.ok_more x6 (Obl.ok_more y6 (Obl.ok_more x5 (Obl.ok_more y5 (Obl.ok_more x4 (Obl.ok_more y4 (Obl.ok_more x3 (Obl.ok_more y3 (Obl.ok_more x2 (Obl.ok_more y2 (Obl.ok_more x1 (Obl.ok_more y1 (Obl.ok_more (decide_eq_true p0) (Obl.ok_nil))))))))))))))))))))))))))))))))
  have x0 : decide (a0 < b0) = false := decide_eq_false p0
  by_cases q0 : b0 < a0
  · rw [cmpT, if_neg p0, if_pos q0]
    exact go (cmp_gt0 (fun _ => 0) a0 a1 a2 a3 a4 a5 a6 a7 a8 a9 a10 a11 a12 a13 a14 a15 b0 b1 b2 b3 b4 b5 b6 b7 b8 b9 b10 b11 b12 b13 b14 b15) (Obl.ok_more x15 (Obl.ok_more y15 (Obl.ok_more x14 (Obl.ok_more y14 (Obl.ok_more x13 (Obl.ok_more y13 (Obl.ok_more x12 (Obl.ok_more y12 (Obl.ok_more x11 (Obl.ok_more y11 (Obl.ok_more x10 (Obl.ok_more y10 (Obl.ok_more x9 (Obl.ok_more y9 (Obl.ok_more x8 (Obl.ok_more y8 (Obl.ok_more x7 (Obl.ok_more y7 (Obl.ok_more x6 (Obl.ok_more y6 (Obl.ok_more x5 (Obl.ok_more y5 (Obl.ok_more x4 (Obl.ok_more y4 (Obl.ok_more x3 (Obl.ok_more y3 (Obl.ok_more x2 (Obl.ok_more y2 (Obl.ok_more x1 (Obl.ok_more y1 (Obl.ok_more x0 (Obl.ok_more (decide_eq_true q0) (Obl.ok_nil)))))))))))))))))))))))))))))))))
  have y0 : decide (b0 < a0) = false := decide_eq_false q0
  rw [cmpT, if_neg p0, if_neg q0]
  exact go (cmp_same (fun _ => 0) a0 a1 a2 a3 a4 a5 a6 a7 a8 a9 a10 a11 a12 a13 a14 a15 b0 b1 b2 b3 b4 b5 b6 b7 b8 b9 b10 b11 b12 b13 b14 b15) (Obl.ok_more x15 (Obl.ok_more y15 (Obl.ok_more x14 (Obl.ok_more y14 (Obl.ok_more x13 (Obl.ok_more y13 (Obl.ok_more x12 (Obl.ok_more y12 (Obl.ok_more x11 (Obl.ok_more y11 (Obl.ok_more x10 (Obl.ok_more y10 (Obl.ok_more x9 (Obl.ok_more y9 (Obl.ok_more x8 (Obl.ok_more y8 (Obl.ok_more x7 (Obl.ok_more y7 (Obl.ok_more x6 (Obl.ok_more y6 (Obl.ok_more x5 (Obl.ok_more y5 (Obl.ok_more x4 (Obl.ok_more y4 (Obl.ok_more x3 (Obl.ok_more y3 (Obl.ok_more x2 (Obl.ok_more y2 (Obl.ok_more x1 (Obl.ok_more y1 (Obl.ok_more x0 (Obl.ok_more y0 (Obl.ok_nil)))))))))))))))))))))))))))))))))
noncomputable def cmpSm : Rec := fnSm 39 (two fun ps qs => .int .i64 (cmpV ps qs))
theorem cmpSm_ok (G : List Nat) : RecOk Tryd.prog G cmpSm := fnSm_ok fun x v h => by
  obtain ⟨ps, qs, ha, hb, rfl, rfl⟩ := two_some h
  exact ⟨plain2 ps qs, rfl, fun w => cmp_calls ha hb w⟩
noncomputable def setSm : Rec := orSm cmpSm (orSm unionSm (orSm interSm minusSm))
theorem setSm_ok (G : List Nat) : RecOk Tryd.prog G setSm := orSm_ok (cmpSm_ok G) (orSm_ok (unionSm_ok G) (orSm_ok (interSm_ok G) (minusSm_ok G)))
end Go.Proofs.YtjneboajbmabbaaDoor.bits
