/- Which words, keys and changes may be: the program's answer, and the document's. -/
import Derived.Test.YtcgdmehdocaooaaGreatDoorLeaf
namespace Go.Proofs.YtcgdmehdocaooaaGreatDoor
open Go.RowKit

set_option maxHeartbeats 1000000 in
theorem ref_Word (s : ByteArray) (w : World) (hs : s.size ≤ maxLen) :
    Calls Tryz.prog 45 #[.string s] w fun e w' => e = .returned (.bool (wordB s)) ∧ w' = w := by
  unfold maxLen at hs
  go_enter Tryz.func45, Tryz.ntmps45
  go_wp2
  go_loop [7] (fun i => ∃ k : Nat, k ≤ s.size ∧ i = .int .i64 k ∧ lettersTo s k) (fun i => s.size - (intOf i).toNat)
  case atStart => exact ⟨0, Nat.zero_le _, rfl, fun j hj => absurd hj (Nat.not_lt_zero _)⟩
  case round =>
    obtain ⟨k, hk, rfl, hl⟩ := hrel
    have HL := hide hl
    clear hl
    by_cases hlt : k < s.size
    · have hlt' : (k : Int) < (s.size : Int) := by omega
      cases hq : ltrI (s[k].toNat : Int)
      · have E := hide (word_no s k hlt hq)
        obtain ⟨h1, h2⟩ := ltrI_no _ hq
        clear hq
        by_cases k1 : 97 ≤ (s[k].toNat : Int)
        · have k2 : ¬ (s[k].toNat : Int) ≤ 122 := by omega
          have k3 : 48 ≤ (s[k].toNat : Int) := by omega
          have k4 : ¬ (s[k].toNat : Int) ≤ 57 := by omega
          clear h1 h2
          go_wp2
          go_ret
          exact ⟨ret_bool (unhide E), rfl⟩
        · by_cases k3 : 48 ≤ (s[k].toNat : Int)
          · have k4 : ¬ (s[k].toNat : Int) ≤ 57 := by omega
            clear h1 h2
            go_wp2
            go_ret
            exact ⟨ret_bool (unhide E), rfl⟩
          · clear h1 h2
            go_wp2
            go_ret
            exact ⟨ret_bool (unhide E), rfl⟩
      · have HQ := hide hq
        have hnext : lettersTo s (k + 1) := fun j hj hjs => by
          by_cases e : j = k
          · subst e; exact hq
          · exact unhide HL j (by omega) hjs
        have HN := hide hnext
        have hy := ltrI_yes _ hq
        clear hq hnext
        rcases hy with ⟨k1, k2⟩ | ⟨k1, k2⟩
        · go_wp2
          go_round
          case rel => exact ⟨k + 1, by omega, by go_num, unhide HN⟩
          case measure => simp [intOf]; omega
        · have k3 : ¬ 97 ≤ (s[k].toNat : Int) := by omega
          go_wp2
          go_round
          case rel => exact ⟨k + 1, by omega, by go_num, unhide HN⟩
          case measure => simp [intOf]; omega
    · have hlt' : ¬ (k : Int) < (s.size : Int) := by omega
      have hks : k = s.size := by omega
      have hw : inB (s.size : Int) 1 12 = wordB s := by
        cases e : wordB s
        · cases e2 : inB (s.size : Int) 1 12
          · rfl
          · exfalso
            unfold inB at e2
            simp only [decide_eq_true_eq] at e2
            have := (word_iff s).2 ⟨by omega, by omega, hks ▸ unhide HL⟩
            rw [e] at this; cases this
        · have := (word_iff s).1 e
          unfold inB
          simp only [decide_eq_true_eq]; omega
      have HW := hide (ref_in_is _ _ _ _ hw w)
      clear hks hw
      go_wp2_with (go_at_call 21; refine (unhide HW).mono ?_; rintro e w' ⟨rfl, rfl⟩)
      go_ret
      exact ⟨rfl, rfl⟩

theorem below_box (w : World) (o : Obj) : Below w.heap.size w (w.alloc o) := (Below.refl _ _).alloc (Nat.le_refl _) _

theorem dec_zero (b : Int) : decide (b = 0) = (b == 0) := by rw [Bool.eq_iff_iff]; simp

set_option maxHeartbeats 2000000 in
theorem fact_Key (k a : Int) (wd : ByteArray) (b : Int) (w : World) (hs : wd.size ≤ maxLen) :
    Calls Tryz.prog 49 #[.agg #[.int .i64 k, .int .i64 a, .string wd, .int .i64 b]] w fun e w' => e = .returned (.bool (keyB k a wd b)) ∧ w' = w.alloc (.cells #[.int .i64 k, .int .i64 a, .string wd, .int .i64 b] 40) := by
  have HW := hide (fun W => fact_Word wd W hs)
  by_cases k1 : k = 1
  · subst k1
    have e : keyB 1 a wd b = (idB a && emptyB wd && decide (b = 0)) := by simp [keyB]
    rw [e]
    clear e
    have HI := hide (fun W => fact_id a W)
    cases h1 : idB a
    · rw [h1] at HI
      clear h1
      go_enter Tryz.func49, Tryz.ntmps49
      go_wp2_with (go_at_call 71; refine (unhide HI _).mono ?_; rintro e w' ⟨rfl, rfl⟩)
      go_ret
      exact ⟨rfl, rfl⟩
    · rw [h1] at HI
      clear h1
      by_cases h2 : wd.toList = []
      · by_cases h3 : b = 0
        · have h3' : (b == 0) = true := by simp [h3]
          have e : (true && emptyB wd && decide (b = 0)) = true := by simp [emptyB, h2, h3]
          rw [e]
          clear e h3
          go_enter Tryz.func49, Tryz.ntmps49
          go_wp2_with (go_at_call 71; refine (unhide HI _).mono ?_; rintro e w' ⟨rfl, rfl⟩)
          go_ret
          exact ⟨rfl, rfl⟩
        · have h3' : (b == 0) = false := by simp [h3]
          have e : (true && emptyB wd && decide (b = 0)) = false := by simp [h3]
          rw [e]
          clear e h3
          go_enter Tryz.func49, Tryz.ntmps49
          go_wp2_with (go_at_call 71; refine (unhide HI _).mono ?_; rintro e w' ⟨rfl, rfl⟩)
          go_ret
          exact ⟨rfl, rfl⟩
      · have e : (true && emptyB wd && decide (b = 0)) = false := by simp [emptyB, h2]
        rw [e]
        clear e
        go_enter Tryz.func49, Tryz.ntmps49
        go_wp2_with (go_at_call 71; refine (unhide HI _).mono ?_; rintro e w' ⟨rfl, rfl⟩)
        go_ret
        exact ⟨rfl, rfl⟩
  · have k1' : (k == 1) = false := by simp [k1]
    by_cases k2 : k = 2
    · subst k2
      have e : keyB 2 a wd b = (idB a && idB b && wordB wd) := by simp [keyB]
      rw [e]
      clear e k1 k1'
      have HI := hide (fun W => fact_id a W)
      have HJ := hide (fun W => fact_id b W)
      generalize idB a = x at HI ⊢
      generalize idB b = y at HJ ⊢
      generalize wordB wd = z at HW ⊢
      cases x
      · go_enter Tryz.func49, Tryz.ntmps49
        go_wp2_with fail
        refine (unhide HI _).mono ?_; rintro e w' ⟨rfl, rfl⟩
        go_wp2
        go_ret
        exact ⟨rfl, rfl⟩
      · cases y
        · go_enter Tryz.func49, Tryz.ntmps49
          go_wp2_with fail
          refine (unhide HI _).mono ?_; rintro e w' ⟨rfl, rfl⟩
          go_wp2_with fail
          refine (unhide HJ _).mono ?_; rintro e w' ⟨rfl, rfl⟩
          go_wp2
          go_ret
          exact ⟨rfl, rfl⟩
        · go_enter Tryz.func49, Tryz.ntmps49
          go_wp2_with fail
          refine (unhide HI _).mono ?_; rintro e w' ⟨rfl, rfl⟩
          go_wp2_with fail
          refine (unhide HJ _).mono ?_; rintro e w' ⟨rfl, rfl⟩
          go_wp2_with fail
          refine (unhide HW _).mono ?_; rintro e w' ⟨rfl, rfl⟩
          go_wp2
          go_ret
          exact ⟨rfl, rfl⟩
    · have k2' : (k == 2) = false := by simp [k2]
      by_cases k3 : k = 3
      · subst k3
        have e : keyB 3 a wd b = (idB a && wordB wd && decide (b = 0)) := by simp [keyB]
        rw [e]
        clear e k1 k1' k2 k2'
        have HI := hide (fun W => fact_id a W)
        generalize idB a = x at HI ⊢
        generalize wordB wd = z at HW ⊢
        cases x
        · go_enter Tryz.func49, Tryz.ntmps49
          go_wp2_with fail
          refine (unhide HI _).mono ?_; rintro e w' ⟨rfl, rfl⟩
          go_wp2
          go_ret
          exact ⟨rfl, rfl⟩
        · cases z
          · go_enter Tryz.func49, Tryz.ntmps49
            go_wp2_with fail
            refine (unhide HI _).mono ?_; rintro e w' ⟨rfl, rfl⟩
            go_wp2_with fail
            refine (unhide HW _).mono ?_; rintro e w' ⟨rfl, rfl⟩
            go_wp2
            go_ret
            exact ⟨rfl, rfl⟩
          · go_enter Tryz.func49, Tryz.ntmps49
            go_wp2_with fail
            refine (unhide HI _).mono ?_; rintro e w' ⟨rfl, rfl⟩
            go_wp2_with fail
            refine (unhide HW _).mono ?_; rintro e w' ⟨rfl, rfl⟩
            go_wp2
            go_ret
            exact ⟨ret_bool (by simp [dec_zero]), rfl⟩
      · have k3' : (k == 3) = false := by simp [k3]
        have e : keyB k a wd b = false := by simp [keyB, k1, k2, k3]
        rw [e]
        clear e k1 k2 k3
        go_enter Tryz.func49, Tryz.ntmps49
        go_wp2
        go_ret
        exact ⟨rfl, rfl⟩

set_option maxHeartbeats 2000000 in
theorem ref_Key (k a : Int) (wd : ByteArray) (b : Int) (w : World) (hs : wd.size ≤ maxLen) :
    Calls Tryz.prog 43 #[.agg #[.int .i64 k, .int .i64 a, .string wd, .int .i64 b]] w fun e w' => e = .returned (.bool (keyB k a wd b)) ∧ w' = w.alloc (.cells #[.int .i64 k, .int .i64 a, .string wd, .int .i64 b] 40) := by
  have HW := hide (fun W => ref_Word wd W hs)
  have HI := hide (fun W => ref_in a 0 1048576 W)
  have HJ := hide (fun W => ref_in b 0 1048576 W)
  have ea : idB a = inB a 0 1048576 := rfl
  have eb : idB b = inB b 0 1048576 := rfl
  have e : keyB k a wd b = (inB a 0 1048576 && (if k = 1 then emptyB wd && decide (b = 0) else if k = 2 then inB b 0 1048576 && wordB wd else if k = 3 then wordB wd && decide (b = 0) else false)) := by
    rw [← ea, ← eb]
    unfold keyB
    by_cases k1 : k = 1
    · simp [k1, Bool.and_assoc]
    · by_cases k2 : k = 2
      · simp [k2, Bool.and_assoc]
      · by_cases k3 : k = 3
        · simp [k3, Bool.and_assoc]
        · simp [k1, k2, k3]
  rw [e]
  clear e ea eb
  generalize inB a 0 1048576 = x at HI ⊢
  generalize inB b 0 1048576 = y at HJ ⊢
  generalize wordB wd = z at HW ⊢
  cases x
  · rw [Bool.false_and]
    go_enter Tryz.func43, Tryz.ntmps43
    go_wp2_with fail
    refine (unhide HI _).mono ?_; rintro e w' ⟨rfl, rfl⟩
    go_wp2
    go_ret
    exact ⟨rfl, rfl⟩
  · by_cases k1 : k = 1
    · subst k1
      rw [if_pos rfl]
      by_cases h2 : wd.toList = []
      · have e : (true && (emptyB wd && decide (b = 0))) = (b == 0) := by simp [emptyB, h2, dec_zero]
        rw [e]
        clear e
        go_enter Tryz.func43, Tryz.ntmps43
        go_wp2_with fail
        refine (unhide HI _).mono ?_; rintro e w' ⟨rfl, rfl⟩
        go_wp2
        go_ret
        exact ⟨rfl, rfl⟩
      · have e : (true && (emptyB wd && decide (b = 0))) = false := by simp [emptyB, h2]
        rw [e]
        clear e
        go_enter Tryz.func43, Tryz.ntmps43
        go_wp2_with fail
        refine (unhide HI _).mono ?_; rintro e w' ⟨rfl, rfl⟩
        go_wp2
        go_ret
        exact ⟨rfl, rfl⟩
    · have k1' : (k == 1) = false := by simp [k1]
      rw [if_neg k1]
      by_cases k2 : k = 2
      · subst k2
        clear k1 k1'
        rw [if_pos rfl]
        cases z
        · go_enter Tryz.func43, Tryz.ntmps43
          go_wp2_with fail
          refine (unhide HI _).mono ?_; rintro e w' ⟨rfl, rfl⟩
          go_wp2_with fail
          refine (unhide HW _).mono ?_; rintro e w' ⟨rfl, rfl⟩
          go_wp2
          go_ret
          exact ⟨ret_bool (by simp), rfl⟩
        · go_enter Tryz.func43, Tryz.ntmps43
          go_wp2_with fail
          refine (unhide HI _).mono ?_; rintro e w' ⟨rfl, rfl⟩
          go_wp2_with fail
          refine (unhide HW _).mono ?_; rintro e w' ⟨rfl, rfl⟩
          go_wp2_with fail
          refine (unhide HJ _).mono ?_; rintro e w' ⟨rfl, rfl⟩
          go_wp2
          go_ret
          exact ⟨ret_bool (by simp), rfl⟩
      · have k2' : (k == 2) = false := by simp [k2]
        rw [if_neg k2]
        by_cases k3 : k = 3
        · subst k3
          clear k1 k1' k2 k2'
          rw [if_pos rfl]
          cases z
          · go_enter Tryz.func43, Tryz.ntmps43
            go_wp2_with fail
            refine (unhide HI _).mono ?_; rintro e w' ⟨rfl, rfl⟩
            go_wp2_with fail
            refine (unhide HW _).mono ?_; rintro e w' ⟨rfl, rfl⟩
            go_wp2
            go_ret
            exact ⟨rfl, rfl⟩
          · go_enter Tryz.func43, Tryz.ntmps43
            go_wp2_with fail
            refine (unhide HI _).mono ?_; rintro e w' ⟨rfl, rfl⟩
            go_wp2_with fail
            refine (unhide HW _).mono ?_; rintro e w' ⟨rfl, rfl⟩
            go_wp2
            go_ret
            exact ⟨ret_bool (by simp [dec_zero]), rfl⟩
        · have k3' : (k == 3) = false := by simp [k3]
          rw [if_neg k3]
          clear k1 k2 k3
          go_enter Tryz.func43, Tryz.ntmps43
          go_wp2_with fail
          refine (unhide HI _).mono ?_; rintro e w' ⟨rfl, rfl⟩
          go_wp2
          go_ret
          exact ⟨rfl, rfl⟩

end Go.Proofs.YtcgdmehdocaooaaGreatDoor
