/- A number between two others, and a span that may be: the program's and the document's. -/
import Derived.Test.YtfcmkaiocnelgaaGen
import Derived.Test.YtfcmkaiocnelgaaFMath
namespace Go.Proofs.Ytfcmkaiocnelgaa
open Go.RowKit

set_option maxHeartbeats 400000 in
theorem span_Right (a b : Int) (w : World) :
    Calls Try.prog 6 #[.agg #[.int .i64 a, .int .i64 b]] w fun e w' => e = .returned (.bool (rightB a b)) ∧ w' = w.alloc (.cells #[.int .i64 a, .int .i64 b] 23) := by
  by_cases h1 : -1099511627776 ≤ a
  · by_cases h2 : b ≤ 1099511627776
    · by_cases h3 : a < b
      · have e : rightB a b = true := by simp [rightB, h1, h2, h3]
        rw [e]
        clear e
        go_enter Try.func6, Try.ntmps6
        go_wp2
        go_ret
        exact ⟨rfl, rfl⟩
      · have e : rightB a b = false := by simp [rightB, h1, h2, h3]
        rw [e]
        clear e
        go_enter Try.func6, Try.ntmps6
        go_wp2
        go_ret
        exact ⟨rfl, rfl⟩
    · have e : rightB a b = false := by simp [rightB, h1, h2]
      rw [e]
      clear e
      go_enter Try.func6, Try.ntmps6
      go_wp2
      go_ret
      exact ⟨rfl, rfl⟩
  · have e : rightB a b = false := by simp [rightB, h1]
    rw [e]
    clear e
    go_enter Try.func6, Try.ntmps6
    go_wp2
    go_ret
    exact ⟨rfl, rfl⟩

end Go.Proofs.Ytfcmkaiocnelgaa
