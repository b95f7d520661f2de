/- The order of keys: the program's answer. -/
import Derived.Test.YtcgdmehdocaooaaDoorOps
import Derived.Deep.RegionHeld3
import Derived.Lib.Small
namespace Go.Proofs.YtcgdmehdocaooaaDoor
open Go.RowKit

set_option maxHeartbeats 400000 in
theorem nan_int (n : Int) (w : World) : Calls Tryd.prog 71 #[.int .i64 n] w fun e w' => e = .returned (.bool false) ∧ w' = w := by
  go_enter Tryd.func71, Tryd.ntmps71
  go_wp2
  go_ret
  exact ⟨ret_bool (by simp), rfl⟩

set_option maxHeartbeats 400000 in
theorem nan_string (s : ByteArray) (w : World) : Calls Tryd.prog 79 #[.string s] w fun e w' => e = .returned (.bool false) ∧ w' = w := by
  go_enter Tryd.func79, Tryd.ntmps79
  go_wp2
  go_ret
  exact ⟨ret_bool (by simp), rfl⟩

theorem ret_int {a b : Int} (h : b = a) : Ending.returned (.int .i64 a) = .returned (.int .i64 b) := by rw [h]

set_option maxHeartbeats 1000000 in
theorem compare_int (x y : Int) (w : World) : Calls Tryd.prog 44 #[.int .i64 x, .int .i64 y] w fun e w' => e = .returned (.int .i64 (Lib.compareInt x y)) ∧ w' = w := by
  have HN := hide (fun n W => nan_int n W)
  by_cases h1 : x < y
  · have e : Lib.compareInt x y = -1 := by simp [Lib.compareInt, h1]
    rw [e]
    clear e
    go_enter Tryd.func44, Tryd.ntmps44
    go_wp2_with (go_at_call 71; refine (unhide HN _ _).mono ?_; rintro e w' ⟨rfl, rfl⟩)
    go_ret
    exact ⟨rfl, rfl⟩
  · by_cases h2 : y < x
    · have e : Lib.compareInt x y = 1 := by simp [Lib.compareInt, h1, h2]
      rw [e]
      clear e
      go_enter Tryd.func44, Tryd.ntmps44
      go_wp2_with (go_at_call 71; refine (unhide HN _ _).mono ?_; rintro e w' ⟨rfl, rfl⟩)
      go_ret
      exact ⟨rfl, rfl⟩
    · have e : Lib.compareInt x y = 0 := by simp [Lib.compareInt, h1, h2]
      rw [e]
      clear e
      go_enter Tryd.func44, Tryd.ntmps44
      go_wp2_with (go_at_call 71; refine (unhide HN _ _).mono ?_; rintro e w' ⟨rfl, rfl⟩)
      go_ret
      exact ⟨rfl, rfl⟩

/-- Texts, byte by byte, a beginning first. -/
def compareS (x y : ByteArray) : Int := if Op.bytesLess x.toList y.toList then -1 else if x.toList == y.toList then 0 else 1

set_option maxHeartbeats 1000000 in
theorem compare_string (x y : ByteArray) (w : World) : Calls Tryd.prog 65 #[.string x, .string y] w fun e w' => e = .returned (.int .i64 (compareS x y)) ∧ w' = w := by
  have HN := hide (fun n W => nan_string n W)
  cases h1 : Op.bytesLess x.toList y.toList
  · cases h2 : (x.toList == y.toList)
    · have e : compareS x y = 1 := by simp only [compareS, h1, h2]; rfl
      rw [e]
      clear e
      go_enter Tryd.func65, Tryd.ntmps65
      go_wp2_with (go_at_call 79; refine (unhide HN _ _).mono ?_; rintro e w' ⟨rfl, rfl⟩)
      go_ret
      exact ⟨rfl, rfl⟩
    · have e : compareS x y = 0 := by simp only [compareS, h1, h2]; rfl
      rw [e]
      clear e
      go_enter Tryd.func65, Tryd.ntmps65
      go_wp2_with (go_at_call 79; refine (unhide HN _ _).mono ?_; rintro e w' ⟨rfl, rfl⟩)
      go_ret
      exact ⟨rfl, rfl⟩
  · have e : compareS x y = -1 := by simp only [compareS, h1]; rfl
    rw [e]
    clear e
    go_enter Tryd.func65, Tryd.ntmps65
    go_wp2_with (go_at_call 79; refine (unhide HN _ _).mono ?_; rintro e w' ⟨rfl, rfl⟩)
    go_ret
    exact ⟨rfl, rfl⟩

/-- The first one that is not nought. -/
def orL : List Int → Int
  | [] => 0
  | x :: l => if x = 0 then orL l else x

theorem orL_zero (l : List Int) (h : ∀ x, x ∈ l → x = 0) : orL l = 0 := by
  induction l with
  | nil => rfl
  | cons x l ih => rw [orL, if_pos (h x (by simp)), ih (fun y hy => h y (by simp [hy]))]

theorem orL_at (l : List Int) (k : Nat) (hk : k < l.length) (h : ∀ j, (hj : j < k) → l[j] = 0) (h2 : l[k] ≠ 0) : orL l = l[k] := by
  induction l generalizing k with
  | nil => simp at hk
  | cons x l ih =>
    cases k with
    | zero => simp at h2 ⊢; rw [orL, if_neg h2]
    | succ k =>
      have h0 := h 0 (by omega)
      simp at h0
      rw [orL, if_pos h0]
      simp only [List.getElem_cons_succ] at h2 ⊢
      exact ih k (by simpa using hk) (fun j hj => by have := h (j + 1) (by omega); simpa using this) h2

set_option maxHeartbeats 2000000 in
theorem or_int (xs : List Int) (b o c : Nat) (w : World) (hn : xs.length < 1099511627776) (hc : ∀ k, (hk : k < xs.length) → w.cell? ⟨b, o + k, none⟩ = some (.int .i64 xs[k])) :
    Calls Tryd.prog 64 #[.slice (some ⟨b, o, none⟩) xs.length c] w fun e w' => e = .returned (.int .i64 (orL xs)) ∧ w' = w := by
  have HC := hide hc
  clear hc
  go_enter Tryd.func64, Tryd.ntmps64
  go_wp2
  go_loop [8] (fun i => ∃ k : Nat, k ≤ xs.length ∧ i = .int .i64 k ∧ ∀ j, (hj : j < xs.length) → j < k → xs[j] = 0) (fun i => xs.length - (intOf i).toNat)
  case atStart => exact ⟨0, Nat.zero_le _, rfl, fun j _ h => absurd h (Nat.not_lt_zero _)⟩
  case round =>
    obtain ⟨k, hk, rfl, hz⟩ := hrel
    have HZ := hide hz
    clear hz
    by_cases hlt : k < xs.length
    · have hlt' : (k : Int) < (xs.length : Int) := by omega
      have c1 := unhide HC k hlt
      have hF : ∃ y, y = xs[k] := ⟨_, rfl⟩
      obtain ⟨y, hy⟩ := hF
      have HY := hide hy
      rw [← hy] at c1
      clear hy
      by_cases h0 : y = 0
      · subst h0
        go_wp2
        go_round
        case rel =>
          refine ⟨k + 1, by omega, by go_num, fun j hj hjk => ?_⟩
          by_cases e : j = k
          · subst e; exact (unhide HY).symm
          · exact unhide HZ j hj (by omega)
        case measure => simp [intOf]; omega
      · have h0' : (y == 0) = false := by simp [h0]
        have E := hide (orL_at xs k hlt (fun j hj => unhide HZ j (by omega) hj) (by rw [← unhide HY]; exact h0))
        go_wp2
        go_ret
        exact ⟨ret_int (by rw [unhide E, unhide HY]), rfl⟩
    · have hlt' : ¬ (k : Int) < (xs.length : Int) := by omega
      have E := hide (orL_zero xs (fun x hx => by
        obtain ⟨j, hj, rfl⟩ := List.getElem_of_mem hx
        exact unhide HZ j hj (by omega)))
      go_wp2
      go_ret
      exact ⟨ret_int (unhide E), rfl⟩

/-- The order of keys. -/
def keyCmp (k a : Int) (s : ByteArray) (b k' a' : Int) (s' : ByteArray) (b' : Int) : Int :=
  orL [Lib.compareInt k k', Lib.compareInt a a', compareS s s', Lib.compareInt b b']

end Go.Proofs.YtcgdmehdocaooaaDoor
