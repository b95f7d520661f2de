/- What the small functions on words, numbers and spans return, the program's and the document's. -/
import Derived.Test.YtcgdmehdocaooaaGreatDoorProg
import Derived.Test.YtcgdmehdocaooaaGreatDoorFMath
import Derived.WalkKit
import Derived.WalkSpells
import Derived.WalkLawsBesides
import Derived.Deep.QuietTactic
import Derived.BigQuiet
namespace Go.Proofs.YtcgdmehdocaooaaGreatDoor
open Go.RowKit

theorem hide {p : Prop} (h : p) : Hid p := h
theorem unhide {p : Prop} (h : Hid p) : p := h.out
theorem lt_of_cell {w : World} {a : Addr} {v : Value} (h : w.cell? a = some v) : a.block < w.heap.size := World.block_lt_of_cell? w a h
theorem ret_bool {a b : Bool} (h : b = a) : Ending.returned (.bool a) = .returned (.bool b) := by rw [h]

def ltrI (n : Int) : Bool := decide (97 ≤ n ∧ n ≤ 122) || decide (48 ≤ n ∧ n ≤ 57)
theorem ltrI_letter (c : UInt8) : letterB c = ltrI (c.toNat : Int) := by
  unfold letterB ltrI
  congr 1
  · apply decide_eq_decide.2; omega
  · apply decide_eq_decide.2; omega

theorem ltrI_yes (n : Int) (h : ltrI n = true) : (97 ≤ n ∧ n ≤ 122) ∨ (48 ≤ n ∧ n ≤ 57) := by simpa [ltrI] using h
theorem ltrI_no (n : Int) (h : ltrI n = false) : ¬ (97 ≤ n ∧ n ≤ 122) ∧ ¬ (48 ≤ n ∧ n ≤ 57) := by
  have h' : ¬ (ltrI n = true) := by rw [h]; decide
  constructor <;> (intro h2; apply h'; unfold ltrI; simp only [Bool.or_eq_true, decide_eq_true_eq])
  · exact Or.inl h2
  · exact Or.inr h2

set_option maxHeartbeats 400000 in
theorem fact_letter (n : Int) (w : World) :
    Calls Tryz.prog 72 #[.int .u8 n] w fun e w' => e = .returned (.bool (ltrI n)) ∧ w' = w := by
  cases h : ltrI n
  · obtain ⟨h1, h2⟩ := ltrI_no n h
    by_cases k1 : 97 ≤ n
    · have k2 : ¬ n ≤ 122 := by omega
      have k3 : 48 ≤ n := by omega
      have k4 : ¬ n ≤ 57 := by omega
      clear h1 h2 h
      go_enter Tryz.func72, Tryz.ntmps72
      go_wp2
      go_ret
      exact ⟨rfl, rfl⟩
    · by_cases k3 : 48 ≤ n
      · have k4 : ¬ n ≤ 57 := by omega
        clear h1 h2 h
        go_enter Tryz.func72, Tryz.ntmps72
        go_wp2
        go_ret
        exact ⟨rfl, rfl⟩
      · clear h1 h2 h
        go_enter Tryz.func72, Tryz.ntmps72
        go_wp2
        go_ret
        exact ⟨rfl, rfl⟩
  · rcases ltrI_yes n h with ⟨k1, k2⟩ | ⟨k1, k2⟩
    · clear h
      go_enter Tryz.func72, Tryz.ntmps72
      go_wp2
      go_ret
      exact ⟨rfl, rfl⟩
    · have k3 : ¬ 97 ≤ n := by omega
      clear h
      go_enter Tryz.func72, Tryz.ntmps72
      go_wp2
      go_ret
      exact ⟨rfl, rfl⟩

/-- The first letters of a text are letters. -/
def lettersTo (s : ByteArray) (k : Nat) : Prop := ∀ j, j < k → (h : j < s.size) → ltrI (s[j].toNat : Int) = true

theorem word_iff (s : ByteArray) : wordB s = true ↔ 1 ≤ s.size ∧ s.size ≤ 12 ∧ lettersTo s s.size := by
  unfold wordB wordL lettersTo
  have e : s.data.toList.length = s.size := Array.length_toList
  simp only [Bool.and_eq_true, decide_eq_true_eq, e, List.all_eq_true, and_assoc]
  refine and_congr_right fun _ => and_congr_right fun _ => ⟨fun h j _ hj => ?_, fun h c hc => ?_⟩
  · rw [← ltrI_letter]
    exact h _ (by
      have : s[j] = s.data[j]'hj := rfl
      rw [this]
      exact Array.mem_toList_iff.2 (Array.getElem_mem _))
  · obtain ⟨j, hj, rfl⟩ := List.getElem_of_mem hc
    rw [ltrI_letter]
    have hj' : j < s.size := by rw [← e]; exact hj
    have := h j hj' hj'
    exact this

theorem word_no (s : ByteArray) (j : Nat) (hj : j < s.size) (h : ltrI (s[j].toNat : Int) = false) : wordB s = false := by
  cases e : wordB s
  · rfl
  · have := ((word_iff s).1 e).2.2 j hj hj
    rw [h] at this; cases this

theorem word_len_no (s : ByteArray) (h : ¬ (1 ≤ s.size ∧ s.size ≤ 12)) : wordB s = false := by
  cases e : wordB s
  · rfl
  · exact absurd ⟨((word_iff s).1 e).1, ((word_iff s).1 e).2.1⟩ h

set_option maxHeartbeats 1000000 in
theorem fact_Word (s : ByteArray) (w : World) (hs : s.size ≤ maxLen) :
    Calls Tryz.prog 51 #[.string s] w fun e w' => e = .returned (.bool (wordB s)) ∧ w' = w := by
  unfold maxLen at hs
  by_cases h1 : s.size < 1
  · have e : wordB s = false := word_len_no s (by omega)
    rw [e]
    have h1' : (s.size : Int) < 1 := by omega
    clear e
    go_enter Tryz.func51, Tryz.ntmps51
    go_wp2
    go_ret
    exact ⟨rfl, rfl⟩
  · by_cases h2 : 12 < s.size
    · have e : wordB s = false := word_len_no s (by omega)
      rw [e]
      have h1' : ¬ (s.size : Int) < 1 := by omega
      have h2' : 12 < (s.size : Int) := by omega
      clear e
      go_enter Tryz.func51, Tryz.ntmps51
      go_wp2
      go_ret
      exact ⟨rfl, rfl⟩
    · have h1' : ¬ (s.size : Int) < 1 := by omega
      have h2' : ¬ 12 < (s.size : Int) := by omega
      go_enter Tryz.func51, Tryz.ntmps51
      go_wp2
      go_loop [14] (fun i => ∃ k : Nat, k ≤ s.size ∧ i = .int .i64 k ∧ lettersTo s k) (fun i => s.size - (intOf i).toNat)
      case atStart => exact ⟨0, Nat.zero_le _, rfl, fun j hj => absurd hj (Nat.not_lt_zero _)⟩
      case round =>
        obtain ⟨k, hk, rfl, hl⟩ := hrel
        have HL := hide hl
        clear hl
        by_cases hlt : k < s.size
        · have hlt' : (k : Int) < (s.size : Int) := by omega
          have HF := hide (fact_letter (s[k].toNat : Int) w)
          cases hq : ltrI (s[k].toNat : Int)
          · rw [hq] at HF
            have e := hide (word_no s k hlt hq)
            clear hq
            go_wp2_with (go_at_call 72; refine (unhide HF).mono ?_; rintro e w' ⟨rfl, rfl⟩)
            go_ret
            exact ⟨ret_bool (unhide e), rfl⟩
          · rw [hq] at HF
            have HQ := hide hq
            clear hq
            go_wp2_with (go_at_call 72; refine (unhide HF).mono ?_; rintro e w' ⟨rfl, rfl⟩)
            go_round
            case rel =>
              refine ⟨k + 1, by omega, by go_num, fun j hj hjs => ?_⟩
              by_cases e : j = k
              · subst e; exact unhide HQ
              · exact unhide HL j (by omega) hjs
            case measure => simp [intOf]; omega
        · have hlt' : ¬ (k : Int) < (s.size : Int) := by omega
          have hks : k = s.size := by omega
          have E := hide ((word_iff s).2 ⟨by omega, by omega, hks ▸ unhide HL⟩)
          clear hks
          go_wp2
          go_ret
          exact ⟨ret_bool (unhide E), rfl⟩

set_option maxHeartbeats 400000 in
theorem fact_id (n : Int) (w : World) :
    Calls Tryz.prog 71 #[.int .i64 n] w fun e w' => e = .returned (.bool (idB n)) ∧ w' = w := by
  by_cases h1 : 0 ≤ n
  · by_cases h2 : n ≤ 1048576
    · have e : idB n = true := by simp [idB, h1, h2]
      rw [e]
      clear e
      go_enter Tryz.func71, Tryz.ntmps71
      go_wp2
      go_ret
      exact ⟨rfl, rfl⟩
    · have e : idB n = false := by simp [idB, h2]
      rw [e]
      clear e
      go_enter Tryz.func71, Tryz.ntmps71
      go_wp2
      go_ret
      exact ⟨rfl, rfl⟩
  · have e : idB n = false := by simp [idB, h1]
    rw [e]
    clear e
    go_enter Tryz.func71, Tryz.ntmps71
    go_wp2
    go_ret
    exact ⟨rfl, rfl⟩

set_option maxHeartbeats 400000 in
theorem ref_in (n lo hi : Int) (w : World) :
    Calls Tryz.prog 21 #[.int .i64 n, .int .i64 lo, .int .i64 hi] w fun e w' => e = .returned (.bool (inB n lo hi)) ∧ w' = w := by
  by_cases h1 : lo ≤ n
  · by_cases h2 : n ≤ hi
    · have e : inB n lo hi = true := by simp [inB, h1, h2]
      rw [e]
      clear e
      go_enter Tryz.func21, Tryz.ntmps21
      go_wp2
      go_ret
      exact ⟨rfl, rfl⟩
    · have e : inB n lo hi = false := by simp [inB, h2]
      rw [e]
      clear e
      go_enter Tryz.func21, Tryz.ntmps21
      go_wp2
      go_ret
      exact ⟨rfl, rfl⟩
  · have e : inB n lo hi = false := by simp [inB, h1]
    rw [e]
    clear e
    go_enter Tryz.func21, Tryz.ntmps21
    go_wp2
    go_ret
    exact ⟨rfl, rfl⟩

theorem ref_in_is (n lo hi : Int) (b : Bool) (h : inB n lo hi = b) (w : World) :
    Calls Tryz.prog 21 #[.int .i64 n, .int .i64 lo, .int .i64 hi] w fun e w' => e = .returned (.bool b) ∧ w' = w := h ▸ ref_in n lo hi w

set_option maxHeartbeats 400000 in
theorem span_Right (a b : Int) (w : World) :
    Calls Tryz.prog 50 #[.agg #[.int .i64 a, .int .i64 b]] w fun e w' => e = .returned (.bool (rightB a b)) ∧ w' = w.alloc (.cells #[.int .i64 a, .int .i64 b] 42) := by
  by_cases h1 : -1099511627776 ≤ a
  · by_cases h2 : b ≤ 1099511627776
    · by_cases h3 : a < b
      · have e : rightB a b = true := by simp [rightB, h1, h2, h3]
        rw [e]
        clear e
        go_enter Tryz.func50, Tryz.ntmps50
        go_wp2
        go_ret
        exact ⟨rfl, rfl⟩
      · have e : rightB a b = false := by simp [rightB, h1, h2, h3]
        rw [e]
        clear e
        go_enter Tryz.func50, Tryz.ntmps50
        go_wp2
        go_ret
        exact ⟨rfl, rfl⟩
    · have e : rightB a b = false := by simp [rightB, h1, h2]
      rw [e]
      clear e
      go_enter Tryz.func50, Tryz.ntmps50
      go_wp2
      go_ret
      exact ⟨rfl, rfl⟩
  · have e : rightB a b = false := by simp [rightB, h1]
    rw [e]
    clear e
    go_enter Tryz.func50, Tryz.ntmps50
    go_wp2
    go_ret
    exact ⟨rfl, rfl⟩

set_option maxHeartbeats 400000 in
theorem ref_Right (a b : Int) (w : World) :
    Calls Tryz.prog 44 #[.agg #[.int .i64 a, .int .i64 b]] w fun e w' => e = .returned (.bool (rightB a b)) ∧ w' = w.alloc (.cells #[.int .i64 a, .int .i64 b] 42) := by
  by_cases h1 : -1099511627776 ≤ a ∧ a ≤ 1099511627776
  · have k1 : inB a (-1099511627776) 1099511627776 = true := by simp [inB, h1]
    by_cases h2 : -1099511627776 ≤ b ∧ b ≤ 1099511627776
    · have k2 : inB b (-1099511627776) 1099511627776 = true := by simp [inB, h2]
      by_cases h3 : a < b
      · have e : rightB a b = true := by simp [rightB, h1, h2, h3]
        rw [e]
        clear e
        go_enter Tryz.func44, Tryz.ntmps44
        go_wp2_with fail
        refine (ref_in_is _ _ _ _ k1 _).mono ?_
        rintro e w' ⟨rfl, rfl⟩
        go_wp2_with fail
        refine (ref_in_is _ _ _ _ k2 _).mono ?_
        rintro e w' ⟨rfl, rfl⟩
        go_wp2
        go_ret
        exact ⟨rfl, rfl⟩
      · have e : rightB a b = false := by simp [rightB, h3]
        rw [e]
        clear e
        go_enter Tryz.func44, Tryz.ntmps44
        go_wp2_with fail
        refine (ref_in_is _ _ _ _ k1 _).mono ?_
        rintro e w' ⟨rfl, rfl⟩
        go_wp2_with fail
        refine (ref_in_is _ _ _ _ k2 _).mono ?_
        rintro e w' ⟨rfl, rfl⟩
        go_wp2
        go_ret
        exact ⟨by simp [h3], rfl⟩
    · have k2 : inB b (-1099511627776) 1099511627776 = false := by simp [inB]; omega
      have e : rightB a b = false := by simp [rightB]; omega
      rw [e]
      clear e
      go_enter Tryz.func44, Tryz.ntmps44
      go_wp2_with fail
      refine (ref_in_is _ _ _ _ k1 _).mono ?_
      rintro e w' ⟨rfl, rfl⟩
      go_wp2_with fail
      refine (ref_in_is _ _ _ _ k2 _).mono ?_
      rintro e w' ⟨rfl, rfl⟩
      go_wp2
      go_ret
      exact ⟨rfl, rfl⟩
  · have k1 : inB a (-1099511627776) 1099511627776 = false := by simp [inB]; omega
    have e : rightB a b = false := by simp [rightB]; omega
    rw [e]
    clear e
    go_enter Tryz.func44, Tryz.ntmps44
    go_wp2_with fail
    refine (ref_in_is _ _ _ _ k1 _).mono ?_
    rintro e w' ⟨rfl, rfl⟩
    go_wp2
    go_ret
    exact ⟨rfl, rfl⟩

end Go.Proofs.YtcgdmehdocaooaaGreatDoor
