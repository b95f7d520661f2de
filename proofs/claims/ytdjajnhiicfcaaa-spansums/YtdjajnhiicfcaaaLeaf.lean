/- What the small functions on one span or two return: Right, Has, in. -/
import Derived.Test.YtdjajnhiicfcaaaProg
import Derived.Test.YtdjajnhiicfcaaaMath
import Derived.WalkKit
import Derived.WalkSpells
import Derived.WalkLawsBesides
namespace Go.Proofs.Ytdjajnhiicfcaaa
open Go.RowKit

def hasB (a b t : Int) : Bool := decide (a ≤ t ∧ t < b)
def rightB (a b : Int) : Bool := decide (-1099511627776 ≤ a ∧ b ≤ 1099511627776 ∧ a < b)
def inB (n lo hi : Int) : Bool := decide (lo ≤ n ∧ n ≤ hi)

set_option maxHeartbeats 400000 in
theorem span_Right (a b : Int) (w : World) :
    Calls Try.prog 5 #[.agg #[.int .i64 a, .int .i64 b]] w fun e w' => e = .returned (.bool (rightB a b)) ∧ w' = w.alloc (.cells #[.int .i64 a, .int .i64 b] 23) := by
  by_cases h1 : -1099511627776 ≤ a
  · by_cases h2 : b ≤ 1099511627776
    · by_cases h3 : a < b
      · have e : rightB a b = true := by simp [rightB, h1, h2, h3]
        rw [e]
        go_enter Try.func5, Try.ntmps5
        go_wp2
        go_ret
        exact ⟨rfl, rfl⟩
      · have e : rightB a b = false := by simp [rightB, h1, h2, h3]
        rw [e]
        go_enter Try.func5, Try.ntmps5
        go_wp2
        go_ret
        exact ⟨rfl, rfl⟩
    · have e : rightB a b = false := by simp [rightB, h1, h2]
      rw [e]
      go_enter Try.func5, Try.ntmps5
      go_wp2
      go_ret
      exact ⟨rfl, rfl⟩
  · have e : rightB a b = false := by simp [rightB, h1]
    rw [e]
    go_enter Try.func5, Try.ntmps5
    go_wp2
    go_ret
    exact ⟨rfl, rfl⟩

set_option maxHeartbeats 400000 in
theorem span_Has (a b t : Int) (w : World) :
    Calls Try.prog 7 #[.agg #[.int .i64 a, .int .i64 b], .int .i64 t] w fun e w' => e = .returned (.bool (hasB a b t)) ∧ w' = w.alloc (.cells #[.int .i64 a, .int .i64 b] 23) := by
  by_cases h1 : a ≤ t
  · by_cases h2 : t < b
    · have e : hasB a b t = true := by simp [hasB, h1, h2]
      rw [e]
      go_enter Try.func7, Try.ntmps7
      go_wp2
      go_ret
      exact ⟨rfl, rfl⟩
    · have e : hasB a b t = false := by simp [hasB, h2]
      rw [e]
      go_enter Try.func7, Try.ntmps7
      go_wp2
      go_ret
      exact ⟨rfl, rfl⟩
  · have e : hasB a b t = false := by simp [hasB, h1]
    rw [e]
    go_enter Try.func7, Try.ntmps7
    go_wp2
    go_ret
    exact ⟨rfl, rfl⟩

set_option maxHeartbeats 400000 in
theorem ref_Has (a b t : Int) (w : World) :
    Calls Try.prog 8 #[.agg #[.int .i64 a, .int .i64 b], .int .i64 t] w fun e w' => e = .returned (.bool (hasB a b t)) ∧ w' = w.alloc (.cells #[.int .i64 a, .int .i64 b] 23) := by
  by_cases h1 : a ≤ t
  · by_cases h2 : t < b
    · have e : hasB a b t = true := by simp [hasB, h1, h2]
      rw [e]
      go_enter Try.func8, Try.ntmps8
      go_wp2
      go_ret
      exact ⟨rfl, rfl⟩
    · have e : hasB a b t = false := by simp [hasB, h2]
      rw [e]
      go_enter Try.func8, Try.ntmps8
      go_wp2
      go_ret
      exact ⟨rfl, rfl⟩
  · have e : hasB a b t = false := by simp [hasB, h1]
    rw [e]
    go_enter Try.func8, Try.ntmps8
    go_wp2
    go_ret
    exact ⟨rfl, rfl⟩

set_option maxHeartbeats 400000 in
theorem ref_in (n lo hi : Int) (w : World) :
    Calls Try.prog 24 #[.int .i64 n, .int .i64 lo, .int .i64 hi] w fun e w' => e = .returned (.bool (inB n lo hi)) ∧ w' = w := by
  by_cases h1 : lo ≤ n
  · by_cases h2 : n ≤ hi
    · have e : inB n lo hi = true := by simp [inB, h1, h2]
      rw [e]
      go_enter Try.func24, Try.ntmps24
      go_wp2
      go_ret
      exact ⟨rfl, rfl⟩
    · have e : inB n lo hi = false := by simp [inB, h2]
      rw [e]
      go_enter Try.func24, Try.ntmps24
      go_wp2
      go_ret
      exact ⟨rfl, rfl⟩
  · have e : inB n lo hi = false := by simp [inB, h1]
    rw [e]
    go_enter Try.func24, Try.ntmps24
    go_wp2
    go_ret
    exact ⟨rfl, rfl⟩

theorem ref_in_yes (n lo hi : Int) (w : World) (h : inB n lo hi = true) :
    Calls Try.prog 24 #[.int .i64 n, .int .i64 lo, .int .i64 hi] w fun e w' => e = .returned (.bool true) ∧ w' = w := by
  have := ref_in n lo hi w
  rw [h] at this
  exact this
theorem ref_in_no (n lo hi : Int) (w : World) (h : inB n lo hi = false) :
    Calls Try.prog 24 #[.int .i64 n, .int .i64 lo, .int .i64 hi] w fun e w' => e = .returned (.bool false) ∧ w' = w := by
  have := ref_in n lo hi w
  rw [h] at this
  exact this

set_option maxHeartbeats 400000 in
theorem ref_Right (a b : Int) (w : World) :
    Calls Try.prog 6 #[.agg #[.int .i64 a, .int .i64 b]] w fun e w' => e = .returned (.bool (rightB a b)) ∧ w' = w.alloc (.cells #[.int .i64 a, .int .i64 b] 23) := by
  by_cases h1 : -1099511627776 ≤ a ∧ a ≤ 1099511627776
  · have k1 : inB a (-1099511627776) 1099511627776 = true := by simp [inB, h1]
    by_cases h2 : -1099511627776 ≤ b ∧ b ≤ 1099511627776
    · have k2 : inB b (-1099511627776) 1099511627776 = true := by simp [inB, h2]
      by_cases h3 : a < b
      · have e : rightB a b = true := by simp [rightB, h1, h2, h3]
        rw [e]
        clear e
        go_enter Try.func6, Try.ntmps6
        go_wp2_with fail
        refine (ref_in_yes _ _ _ _ k1).mono ?_
        rintro e w' ⟨rfl, rfl⟩
        go_wp2_with fail
        refine (ref_in_yes _ _ _ _ k2).mono ?_
        rintro e w' ⟨rfl, rfl⟩
        go_wp2
        go_ret
        exact ⟨rfl, rfl⟩
      · have e : rightB a b = false := by simp [rightB, h3]
        rw [e]
        clear e
        go_enter Try.func6, Try.ntmps6
        go_wp2_with fail
        refine (ref_in_yes _ _ _ _ k1).mono ?_
        rintro e w' ⟨rfl, rfl⟩
        go_wp2_with fail
        refine (ref_in_yes _ _ _ _ k2).mono ?_
        rintro e w' ⟨rfl, rfl⟩
        go_wp2
        go_ret
        exact ⟨by simp [h3], rfl⟩
    · have k2 : inB b (-1099511627776) 1099511627776 = false := by simp [inB]; omega
      have e : rightB a b = false := by simp [rightB]; omega
      rw [e]
      clear e
      go_enter Try.func6, Try.ntmps6
      go_wp2_with fail
      refine (ref_in_yes _ _ _ _ k1).mono ?_
      rintro e w' ⟨rfl, rfl⟩
      go_wp2_with fail
      refine (ref_in_no _ _ _ _ k2).mono ?_
      rintro e w' ⟨rfl, rfl⟩
      go_wp2
      go_ret
      exact ⟨rfl, rfl⟩
  · have k1 : inB a (-1099511627776) 1099511627776 = false := by simp [inB]; omega
    have e : rightB a b = false := by simp [rightB]; omega
    rw [e]
    clear e
    go_enter Try.func6, Try.ntmps6
    go_wp2_with fail
    refine (ref_in_no _ _ _ _ k1).mono ?_
    rintro e w' ⟨rfl, rfl⟩
    go_wp2
    go_ret
    exact ⟨rfl, rfl⟩

/-- The common part of two spans: its first time, the first one behind it. -/
def mlo (a b : Int) : Int := if a < b then b else a
def mhi (a b : Int) : Int := if b < a then b else a

theorem below4 (w : World) (a b c d : Obj) : Below w.heap.size w ((((w.alloc a).alloc b).alloc c).alloc d) :=
  ((((Below.refl _ _).alloc (Nat.le_refl _) _).alloc (by simp) _).alloc (by simp; omega) _).alloc (by simp; omega) _

set_option maxHeartbeats 1000000 in
theorem span_Meet_yes (a1 a2 b1 b2 : Int) (w : World) (h : mlo a1 b1 < mhi a2 b2) :
    Calls Try.prog 12 #[.agg #[.int .i64 a1, .int .i64 a2], .agg #[.int .i64 b1, .int .i64 b2]] w fun e w' =>
      e = .returned (.tuple #[.agg #[.int .i64 (mlo a1 b1), .int .i64 (mhi a2 b2)], .bool true]) ∧ Below w.heap.size w w' := by
  by_cases h1 : a1 < b1
  all_goals by_cases h2 : b2 < a2
  all_goals
    simp only [mlo, mhi, h1, h2, if_true, if_false] at h ⊢
    go_enter Try.func12, Try.ntmps12
    go_wp2
    refine bodyPost_ret (v := .tuple #[.agg #[.int .i64 _, .int .i64 _], .bool true]) (by simp [results, Try.results12, go_sem]) rfl ⟨rfl, below4 _ _ _ _ _⟩

set_option maxHeartbeats 1000000 in
theorem span_Meet_no (a1 a2 b1 b2 : Int) (w : World) (h : ¬ mlo a1 b1 < mhi a2 b2) :
    Calls Try.prog 12 #[.agg #[.int .i64 a1, .int .i64 a2], .agg #[.int .i64 b1, .int .i64 b2]] w fun e w' =>
      e = .returned (.tuple #[.agg #[.int .i64 0, .int .i64 0], .bool false]) ∧ Below w.heap.size w w' := by
  by_cases h1 : a1 < b1
  all_goals by_cases h2 : b2 < a2
  all_goals
    simp only [mlo, mhi, h1, h2, if_true, if_false] at h
    go_enter Try.func12, Try.ntmps12
    go_wp2
    refine bodyPost_ret (v := .tuple #[.agg #[.int .i64 0, .int .i64 0], .bool false]) (by simp [results, Try.results12, go_sem]) rfl ⟨rfl, below4 _ _ _ _ _⟩

end Go.Proofs.Ytdjajnhiicfcaaa
