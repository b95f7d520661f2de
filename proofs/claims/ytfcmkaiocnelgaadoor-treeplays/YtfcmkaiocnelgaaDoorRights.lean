/- A number between two others, and a span that may be: the program's and the document's. -/
import Derived.Test.YtfcmkaiocnelgaaDoorGen
import Derived.Test.YtfcmkaiocnelgaaDoorFMath
namespace Go.Proofs.YtfcmkaiocnelgaaDoor
open Go.RowKit

set_option maxHeartbeats 400000 in
theorem ref_in (n lo hi : Int) (w : World) :
    Calls Tryd.prog 51 #[.int .i64 n, .int .i64 lo, .int .i64 hi] w fun e w' => e = .returned (.bool (inB n lo hi)) ∧ w' = w := by
  by_cases h1 : lo ≤ n
  · by_cases h2 : n ≤ hi
    · have e : inB n lo hi = true := by simp [inB, h1, h2]
      rw [e]
      clear e
      go_enter Tryd.func51, Tryd.ntmps51
      go_wp2
      go_ret
      exact ⟨rfl, rfl⟩
    · have e : inB n lo hi = false := by simp [inB, h2]
      rw [e]
      clear e
      go_enter Tryd.func51, Tryd.ntmps51
      go_wp2
      go_ret
      exact ⟨rfl, rfl⟩
  · have e : inB n lo hi = false := by simp [inB, h1]
    rw [e]
    clear e
    go_enter Tryd.func51, Tryd.ntmps51
    go_wp2
    go_ret
    exact ⟨rfl, rfl⟩

theorem ref_in_is (n lo hi : Int) (b : Bool) (h : inB n lo hi = b) (w : World) :
    Calls Tryd.prog 51 #[.int .i64 n, .int .i64 lo, .int .i64 hi] w fun e w' => e = .returned (.bool b) ∧ w' = w := h ▸ ref_in n lo hi w

set_option maxHeartbeats 400000 in
theorem span_Right (a b : Int) (w : World) :
    Calls Tryd.prog 55 #[.agg #[.int .i64 a, .int .i64 b]] w fun e w' => e = .returned (.bool (rightB a b)) ∧ w' = w.alloc (.cells #[.int .i64 a, .int .i64 b] 29) := by
  by_cases h1 : -1099511627776 ≤ a
  · by_cases h2 : b ≤ 1099511627776
    · by_cases h3 : a < b
      · have e : rightB a b = true := by simp [rightB, h1, h2, h3]
        rw [e]
        clear e
        go_enter Tryd.func55, Tryd.ntmps55
        go_wp2
        go_ret
        exact ⟨rfl, rfl⟩
      · have e : rightB a b = false := by simp [rightB, h1, h2, h3]
        rw [e]
        clear e
        go_enter Tryd.func55, Tryd.ntmps55
        go_wp2
        go_ret
        exact ⟨rfl, rfl⟩
    · have e : rightB a b = false := by simp [rightB, h1, h2]
      rw [e]
      clear e
      go_enter Tryd.func55, Tryd.ntmps55
      go_wp2
      go_ret
      exact ⟨rfl, rfl⟩
  · have e : rightB a b = false := by simp [rightB, h1]
    rw [e]
    clear e
    go_enter Tryd.func55, Tryd.ntmps55
    go_wp2
    go_ret
    exact ⟨rfl, rfl⟩

set_option maxHeartbeats 400000 in
theorem ref_Right (a b : Int) (w : World) :
    Calls Tryd.prog 8 #[.agg #[.int .i64 a, .int .i64 b]] w fun e w' => e = .returned (.bool (rightB a b)) ∧ w' = w.alloc (.cells #[.int .i64 a, .int .i64 b] 29) := by
  by_cases h1 : -1099511627776 ≤ a ∧ a ≤ 1099511627776
  · have k1 : inB a (-1099511627776) 1099511627776 = true := by simp [inB, h1]
    by_cases h2 : -1099511627776 ≤ b ∧ b ≤ 1099511627776
    · have k2 : inB b (-1099511627776) 1099511627776 = true := by simp [inB, h2]
      by_cases h3 : a < b
      · have e : rightB a b = true := by simp [rightB, h1, h2, h3]
        rw [e]
        clear e
        go_enter Tryd.func8, Tryd.ntmps8
        go_wp2_with fail
        refine (ref_in_is _ _ _ _ k1 _).mono ?_
        rintro e w' ⟨rfl, rfl⟩
        go_wp2_with fail
        refine (ref_in_is _ _ _ _ k2 _).mono ?_
        rintro e w' ⟨rfl, rfl⟩
        go_wp2
        go_ret
        exact ⟨rfl, rfl⟩
      · have e : rightB a b = false := by simp [rightB, h3]
        rw [e]
        clear e
        go_enter Tryd.func8, Tryd.ntmps8
        go_wp2_with fail
        refine (ref_in_is _ _ _ _ k1 _).mono ?_
        rintro e w' ⟨rfl, rfl⟩
        go_wp2_with fail
        refine (ref_in_is _ _ _ _ k2 _).mono ?_
        rintro e w' ⟨rfl, rfl⟩
        go_wp2
        go_ret
        exact ⟨by simp [h3], rfl⟩
    · have k2 : inB b (-1099511627776) 1099511627776 = false := by simp [inB]; omega
      have e : rightB a b = false := by simp [rightB]; omega
      rw [e]
      clear e
      go_enter Tryd.func8, Tryd.ntmps8
      go_wp2_with fail
      refine (ref_in_is _ _ _ _ k1 _).mono ?_
      rintro e w' ⟨rfl, rfl⟩
      go_wp2_with fail
      refine (ref_in_is _ _ _ _ k2 _).mono ?_
      rintro e w' ⟨rfl, rfl⟩
      go_wp2
      go_ret
      exact ⟨rfl, rfl⟩
  · have k1 : inB a (-1099511627776) 1099511627776 = false := by simp [inB]; omega
    have e : rightB a b = false := by simp [rightB]; omega
    rw [e]
    clear e
    go_enter Tryd.func8, Tryd.ntmps8
    go_wp2_with fail
    refine (ref_in_is _ _ _ _ k1 _).mono ?_
    rintro e w' ⟨rfl, rfl⟩
    go_wp2
    go_ret
    exact ⟨rfl, rfl⟩

end Go.Proofs.YtfcmkaiocnelgaaDoor
