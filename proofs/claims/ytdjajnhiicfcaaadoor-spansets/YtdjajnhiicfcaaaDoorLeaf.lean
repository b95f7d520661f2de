/- What the small functions on one span or two return: Right, Has, in. -/
import Derived.Test.YtdjajnhiicfcaaaDoorProg
import Derived.Test.YtdjajnhiicfcaaaDoorMath
import Derived.WalkKit
import Derived.WalkSpells
import Derived.WalkLawsBesides
namespace Go.Proofs.YtdjajnhiicfcaaaDoor
open Go.RowKit

def hasB (a b t : Int) : Bool := decide (a ≤ t ∧ t < b)
def rightB (a b : Int) : Bool := decide (-1099511627776 ≤ a ∧ b ≤ 1099511627776 ∧ a < b)
def inB (n lo hi : Int) : Bool := decide (lo ≤ n ∧ n ≤ hi)

set_option maxHeartbeats 400000 in
theorem span_Right (a b : Int) (w : World) :
    Calls Tryd.prog 24 #[.agg #[.int .i64 a, .int .i64 b]] w fun e w' => e = .returned (.bool (rightB a b)) ∧ w' = w.alloc (.cells #[.int .i64 a, .int .i64 b] 29) := by
  by_cases h1 : -1099511627776 ≤ a
  · by_cases h2 : b ≤ 1099511627776
    · by_cases h3 : a < b
      · have e : rightB a b = true := by simp [rightB, h1, h2, h3]
        rw [e]
        go_enter Tryd.func24, Tryd.ntmps24
        go_wp2
        go_ret
        exact ⟨rfl, rfl⟩
      · have e : rightB a b = false := by simp [rightB, h1, h2, h3]
        rw [e]
        go_enter Tryd.func24, Tryd.ntmps24
        go_wp2
        go_ret
        exact ⟨rfl, rfl⟩
    · have e : rightB a b = false := by simp [rightB, h1, h2]
      rw [e]
      go_enter Tryd.func24, Tryd.ntmps24
      go_wp2
      go_ret
      exact ⟨rfl, rfl⟩
  · have e : rightB a b = false := by simp [rightB, h1]
    rw [e]
    go_enter Tryd.func24, Tryd.ntmps24
    go_wp2
    go_ret
    exact ⟨rfl, rfl⟩

set_option maxHeartbeats 400000 in
theorem ref_Has (a b t : Int) (w : World) :
    Calls Tryd.prog 23 #[.agg #[.int .i64 a, .int .i64 b], .int .i64 t] w fun e w' => e = .returned (.bool (hasB a b t)) ∧ w' = w.alloc (.cells #[.int .i64 a, .int .i64 b] 29) := by
  by_cases h1 : a ≤ t
  · by_cases h2 : t < b
    · have e : hasB a b t = true := by simp [hasB, h1, h2]
      rw [e]
      go_enter Tryd.func23, Tryd.ntmps23
      go_wp2
      go_ret
      exact ⟨rfl, rfl⟩
    · have e : hasB a b t = false := by simp [hasB, h2]
      rw [e]
      go_enter Tryd.func23, Tryd.ntmps23
      go_wp2
      go_ret
      exact ⟨rfl, rfl⟩
  · have e : hasB a b t = false := by simp [hasB, h1]
    rw [e]
    go_enter Tryd.func23, Tryd.ntmps23
    go_wp2
    go_ret
    exact ⟨rfl, rfl⟩

set_option maxHeartbeats 400000 in
theorem ref_in (n lo hi : Int) (w : World) :
    Calls Tryd.prog 20 #[.int .i64 n, .int .i64 lo, .int .i64 hi] w fun e w' => e = .returned (.bool (inB n lo hi)) ∧ w' = w := by
  by_cases h1 : lo ≤ n
  · by_cases h2 : n ≤ hi
    · have e : inB n lo hi = true := by simp [inB, h1, h2]
      rw [e]
      go_enter Tryd.func20, Tryd.ntmps20
      go_wp2
      go_ret
      exact ⟨rfl, rfl⟩
    · have e : inB n lo hi = false := by simp [inB, h2]
      rw [e]
      go_enter Tryd.func20, Tryd.ntmps20
      go_wp2
      go_ret
      exact ⟨rfl, rfl⟩
  · have e : inB n lo hi = false := by simp [inB, h1]
    rw [e]
    go_enter Tryd.func20, Tryd.ntmps20
    go_wp2
    go_ret
    exact ⟨rfl, rfl⟩

theorem ref_in_yes (n lo hi : Int) (w : World) (h : inB n lo hi = true) :
    Calls Tryd.prog 20 #[.int .i64 n, .int .i64 lo, .int .i64 hi] w fun e w' => e = .returned (.bool true) ∧ w' = w := by
  have := ref_in n lo hi w
  rw [h] at this
  exact this
theorem ref_in_no (n lo hi : Int) (w : World) (h : inB n lo hi = false) :
    Calls Tryd.prog 20 #[.int .i64 n, .int .i64 lo, .int .i64 hi] w fun e w' => e = .returned (.bool false) ∧ w' = w := by
  have := ref_in n lo hi w
  rw [h] at this
  exact this

set_option maxHeartbeats 400000 in
theorem ref_Right (a b : Int) (w : World) :
    Calls Tryd.prog 5 #[.agg #[.int .i64 a, .int .i64 b]] w fun e w' => e = .returned (.bool (rightB a b)) ∧ w' = w.alloc (.cells #[.int .i64 a, .int .i64 b] 29) := by
  by_cases h1 : -1099511627776 ≤ a ∧ a ≤ 1099511627776
  · have k1 : inB a (-1099511627776) 1099511627776 = true := by simp [inB, h1]
    by_cases h2 : -1099511627776 ≤ b ∧ b ≤ 1099511627776
    · have k2 : inB b (-1099511627776) 1099511627776 = true := by simp [inB, h2]
      by_cases h3 : a < b
      · have e : rightB a b = true := by simp [rightB, h1, h2, h3]
        rw [e]
        clear e
        go_enter Tryd.func5, Tryd.ntmps5
        go_wp2_with fail
        refine (ref_in_yes _ _ _ _ k1).mono ?_
        rintro e w' ⟨rfl, rfl⟩
        go_wp2_with fail
        refine (ref_in_yes _ _ _ _ k2).mono ?_
        rintro e w' ⟨rfl, rfl⟩
        go_wp2
        go_ret
        exact ⟨rfl, rfl⟩
      · have e : rightB a b = false := by simp [rightB, h3]
        rw [e]
        clear e
        go_enter Tryd.func5, Tryd.ntmps5
        go_wp2_with fail
        refine (ref_in_yes _ _ _ _ k1).mono ?_
        rintro e w' ⟨rfl, rfl⟩
        go_wp2_with fail
        refine (ref_in_yes _ _ _ _ k2).mono ?_
        rintro e w' ⟨rfl, rfl⟩
        go_wp2
        go_ret
        exact ⟨by simp [h3], rfl⟩
    · have k2 : inB b (-1099511627776) 1099511627776 = false := by simp [inB]; omega
      have e : rightB a b = false := by simp [rightB]; omega
      rw [e]
      clear e
      go_enter Tryd.func5, Tryd.ntmps5
      go_wp2_with fail
      refine (ref_in_yes _ _ _ _ k1).mono ?_
      rintro e w' ⟨rfl, rfl⟩
      go_wp2_with fail
      refine (ref_in_no _ _ _ _ k2).mono ?_
      rintro e w' ⟨rfl, rfl⟩
      go_wp2
      go_ret
      exact ⟨rfl, rfl⟩
  · have k1 : inB a (-1099511627776) 1099511627776 = false := by simp [inB]; omega
    have e : rightB a b = false := by simp [rightB]; omega
    rw [e]
    clear e
    go_enter Tryd.func5, Tryd.ntmps5
    go_wp2_with fail
    refine (ref_in_no _ _ _ _ k1).mono ?_
    rintro e w' ⟨rfl, rfl⟩
    go_wp2
    go_ret
    exact ⟨rfl, rfl⟩

/-- The common part of two spans: its first time, the first one behind it. -/
def mlo (a b : Int) : Int := if a < b then b else a
def mhi (a b : Int) : Int := if b < a then b else a

end Go.Proofs.YtdjajnhiicfcaaaDoor
