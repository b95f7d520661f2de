/- Texts of one proof, one behind the other. -/
import Derived.Test.YtfoojmflbifkpaaGreatDoorEa
import Derived.Test.YtfoojmflbifkpaaGreatDoorShelf
set_option maxRecDepth 100000
set_option maxHeartbeats 16000000
namespace Go.Proofs.YtfoojmflbifkpaaGreatDoor
open Go.RowKit
def ltrI (n : Int) : Bool := decide (97 <= n /\ n <= 122) || decide (48 <= n /\ n <= 57)
theorem ltrI_letter (c : UInt8) : letterB c = ltrI (c.toNat : Int) := by
 unfold letterB ltrI
 congr 1
 ·apply decide_eq_decide.2; omega
 ·apply decide_eq_decide.2; omega
theorem ltrI_yes (n : Int) (h : ltrI n = true) : (97 <= n /\ n <= 122) \/ (48 <= n /\ n <= 57) := by simpa [ltrI] using h
theorem ltrI_no (n : Int) (h : ltrI n = false) : ¬ (97 <= n /\ n <= 122) /\ ¬ (48 <= n /\ n <= 57) := by
 have h' : ¬ (ltrI n = true) := by rw [h]; decide
 constructor <;> (intro h2; apply h'; unfold ltrI; simp only [Bool.or_eq_true, decide_eq_true_eq])
 ·exact Or.inl h2
 ·exact Or.inr h2
theorem fact_letter (n : Int) (w : World) :
  Calls Tryz.prog 181 #[.int .u8 n] w fun e w' => e = .returned (.bool (ltrI n)) /\ w' = w := by
 cases h : ltrI n
 ·obtain ⟨h1, h2⟩ := ltrI_no n h
  by_cases k1 : 97 <= n
  ·have k2 : ¬ n <= 122 := by omega
   have k3 : 48 <= n := by omega
   have k4 : ¬ n <= 57 := by omega
   clear h1 h2 h
   go_enter Tryz.func181, Tryz.ntmps181
   go_wp2
   go_ret
   exact ⟨rfl, rfl⟩
  ·by_cases k3 : 48 <= n
   ·have k4 : ¬ n <= 57 := by omega
    clear h1 h2 h
    go_enter Tryz.func181, Tryz.ntmps181
    go_wp2
    go_ret
    exact ⟨rfl, rfl⟩
   ·clear h1 h2 h
    go_enter Tryz.func181, Tryz.ntmps181
    go_wp2
    go_ret
    exact ⟨rfl, rfl⟩
 ·rcases ltrI_yes n h with ⟨k1, k2⟩ | ⟨k1, k2⟩
  ·clear h
   go_enter Tryz.func181, Tryz.ntmps181
   go_wp2
   go_ret
   exact ⟨rfl, rfl⟩
  ·have k3 : ¬ 97 <= n := by omega
   clear h
   go_enter Tryz.func181, Tryz.ntmps181
   go_wp2
   go_ret
   exact ⟨rfl, rfl⟩
def lettersTo (s : ByteArray) (k : Nat) : Prop := ∀ j, j < k -> (h : j < s.size) -> ltrI (s[j].toNat : Int) = true
theorem word_iff (s : ByteArray) : wordB s = true ↔ 1 <= s.size /\ s.size <= 12 /\ lettersTo s s.size := by
 unfold wordB wordL lettersTo
 have e : s.data.toList.length = s.size := Array.length_toList
 simp only [Bool.and_eq_true, decide_eq_true_eq, e, List.all_eq_true, and_assoc]
 refine and_congr_right fun _ => and_congr_right fun _ => ⟨fun h j _ hj => ?_, fun h c hc => ?_⟩
 ·rw [<- ltrI_letter]
  exact h _ (by
   have : s[j] = s.data[j]'hj := rfl
   rw [this]
   exact Array.mem_toList_iff.2 (Array.getElem_mem _))
 ·obtain ⟨j, hj, rfl⟩ := List.getElem_of_mem hc
  rw [ltrI_letter]
  have hj' : j < s.size := by rw [<- e]; exact hj
  have := h j hj' hj'
  exact this
theorem word_no (s : ByteArray) (j : Nat) (hj : j < s.size) (h : ltrI (s[j].toNat : Int) = false) : wordB s = false := by
 cases e : wordB s
 ·rfl
 ·have := ((word_iff s).1 e).2.2 j hj hj
  rw [h] at this; cases this
theorem word_len_no (s : ByteArray) (h : ¬ (1 <= s.size /\ s.size <= 12)) : wordB s = false := by
 cases e : wordB s
 ·rfl
 ·exact absurd ⟨((word_iff s).1 e).1, ((word_iff s).1 e).2.1⟩ h
theorem fact_Word (s : ByteArray) (w : World) (hs : s.size <= maxLen) :
  Calls Tryz.prog 133 #[.string s] w fun e w' => e = .returned (.bool (wordB s)) /\ w' = w := by
 unfold maxLen at hs
 by_cases h1 : s.size < 1
 ·have e : wordB s = false := word_len_no s (by omega)
  rw [e]
  have h1' : (s.size : Int) < 1 := by omega
  clear e
  go_enter Tryz.func133, Tryz.ntmps133
  go_wp2
  go_ret
  exact ⟨rfl, rfl⟩
 ·by_cases h2 : 12 < s.size
  ·have e : wordB s = false := word_len_no s (by omega)
   rw [e]
   have h1' : ¬ (s.size : Int) < 1 := by omega
   have h2' : 12 < (s.size : Int) := by omega
   clear e
   go_enter Tryz.func133, Tryz.ntmps133
   go_wp2
   go_ret
   exact ⟨rfl, rfl⟩
  ·have h1' : ¬ (s.size : Int) < 1 := by omega
   have h2' : ¬ 12 < (s.size : Int) := by omega
   go_enter Tryz.func133, Tryz.ntmps133
   go_wp2
   go_loop [14] (fun i => ∃ k : Nat, k <= s.size /\ i = .int .i64 k /\ lettersTo s k) (fun i => s.size - (intOf i).toNat)
   case atStart => exact ⟨0, Nat.zero_le _, rfl, fun j hj => absurd hj (Nat.not_lt_zero _)⟩
   case round =>
    obtain ⟨k, hk, rfl, hl⟩ := hrel
    have HL := zh hl
    clear hl
    by_cases hlt : k < s.size
    ·have hlt' : (k : Int) < (s.size : Int) := by omega
     have HF := zh (fact_letter (s[k].toNat : Int) w)
     cases hq : ltrI (s[k].toNat : Int)
     ·rw [hq] at HF
      have e := zh (word_no s k hlt hq)
      clear hq
      go_wp2_with (go_at_call 181; refine (uh HF).mono ?_; rintro e w' ⟨rfl, rfl⟩)
      go_ret
      exact ⟨ret_bool (uh e), rfl⟩
     ·rw [hq] at HF
      have HQ := zh hq
      clear hq
      go_wp2_with (go_at_call 181; refine (uh HF).mono ?_; rintro e w' ⟨rfl, rfl⟩)
      go_round
      case rel =>
       refine ⟨k + 1, by omega, by go_num, fun j hj hjs => ?_⟩
       by_cases e : j = k
       ·subst e; exact uh HQ
       ·exact uh HL j (by omega) hjs
      case measure => simp [intOf]; omega
    ·have hlt' : ¬ (k : Int) < (s.size : Int) := by omega
     have hks : k = s.size := by omega
     have E := zh ((word_iff s).2 ⟨by omega, by omega, hks ▸ uh HL⟩)
     clear hks
     go_wp2
     go_ret
     exact ⟨ret_bool (uh E), rfl⟩
theorem fact_id (n : Int) (w : World) :
  Calls Tryz.prog 144 #[.int .i64 n] w fun e w' => e = .returned (.bool (idB n)) /\ w' = w := by
 by_cases h1 : 0 <= n
 ·by_cases h2 : n <= 1048576
  ·have e : idB n = true := by simp [idB, h1, h2]
   rw [e]
   clear e
   go_enter Tryz.func144, Tryz.ntmps144
   go_wp2
   go_ret
   exact ⟨rfl, rfl⟩
  ·have e : idB n = false := by simp [idB, h2]
   rw [e]
   clear e
   go_enter Tryz.func144, Tryz.ntmps144
   go_wp2
   go_ret
   exact ⟨rfl, rfl⟩
 ·have e : idB n = false := by simp [idB, h1]
  rw [e]
  clear e
  go_enter Tryz.func144, Tryz.ntmps144
  go_wp2
  go_ret
  exact ⟨rfl, rfl⟩
theorem ref_Word (s : ByteArray) (w : World) (hs : s.size <= maxLen) :
  Calls Tryz.prog 143 #[.string s] w fun e w' => e = .returned (.bool (wordB s)) /\ w' = w := by
 unfold maxLen at hs
 go_enter Tryz.func143, Tryz.ntmps143
 go_wp2
 go_loop [7] (fun i => ∃ k : Nat, k <= s.size /\ i = .int .i64 k /\ lettersTo s k) (fun i => s.size - (intOf i).toNat)
 case atStart => exact ⟨0, Nat.zero_le _, rfl, fun j hj => absurd hj (Nat.not_lt_zero _)⟩
 case round =>
  obtain ⟨k, hk, rfl, hl⟩ := hrel
  have HL := zh hl
  clear hl
  by_cases hlt : k < s.size
  ·have hlt' : (k : Int) < (s.size : Int) := by omega
   cases hq : ltrI (s[k].toNat : Int)
   ·have E := zh (word_no s k hlt hq)
    obtain ⟨h1, h2⟩ := ltrI_no _ hq
    clear hq
    by_cases k1 : 97 <= (s[k].toNat : Int)
    ·have k2 : ¬ (s[k].toNat : Int) <= 122 := by omega
     have k3 : 48 <= (s[k].toNat : Int) := by omega
     have k4 : ¬ (s[k].toNat : Int) <= 57 := by omega
     clear h1 h2
     go_wp2
     go_ret
     exact ⟨ret_bool (uh E), rfl⟩
    ·by_cases k3 : 48 <= (s[k].toNat : Int)
     ·have k4 : ¬ (s[k].toNat : Int) <= 57 := by omega
      clear h1 h2
      go_wp2
      go_ret
      exact ⟨ret_bool (uh E), rfl⟩
     ·clear h1 h2
      go_wp2
      go_ret
      exact ⟨ret_bool (uh E), rfl⟩
   ·have HQ := zh hq
    have hnext : lettersTo s (k + 1) := fun j hj hjs => by
     by_cases e : j = k
     ·subst e; exact hq
     ·exact uh HL j (by omega) hjs
    have HN := zh hnext
    have hy := ltrI_yes _ hq
    clear hq hnext
    rcases hy with ⟨k1, k2⟩ | ⟨k1, k2⟩
    ·go_wp2
     go_round
     case rel => exact ⟨k + 1, by omega, by go_num, uh HN⟩
     case measure => simp [intOf]; omega
    ·have k3 : ¬ 97 <= (s[k].toNat : Int) := by omega
     go_wp2
     go_round
     case rel => exact ⟨k + 1, by omega, by go_num, uh HN⟩
     case measure => simp [intOf]; omega
  ·have hlt' : ¬ (k : Int) < (s.size : Int) := by omega
   have hks : k = s.size := by omega
   have hw : inB (s.size : Int) 1 12 = wordB s := by
    cases e : wordB s
    ·cases e2 : inB (s.size : Int) 1 12
     ·rfl
     ·exfalso
      unfold inB at e2
      simp only [decide_eq_true_eq] at e2
      have := (word_iff s).2 ⟨by omega, by omega, hks ▸ uh HL⟩
      rw [e] at this; cases this
    ·have := (word_iff s).1 e
     unfold inB
     simp only [decide_eq_true_eq]; omega
   have HW := zh (ref_in_is _ _ _ _ hw w)
   clear hks hw
   go_wp2_with (go_at_call 47; refine (uh HW).mono ?_; rintro e w' ⟨rfl, rfl⟩)
   go_ret
   exact ⟨rfl, rfl⟩
theorem dec_zero (b : Int) : decide (b = 0) = (b == 0) := by rw [Bool.eq_iff_iff]; simp
theorem fact_Key (k a : Int) (wd : ByteArray) (b : Int) (w : World) (hs : wd.size <= maxLen) :
  Calls Tryz.prog 100 #[.agg #[.int .i64 k, .int .i64 a, .string wd, .int .i64 b]] w fun e w' => e = .returned (.bool (keyB k a wd b)) /\ w' = w.alloc (.cells #[.int .i64 k, .int .i64 a, .string wd, .int .i64 b] 32) := by
 have HW := zh (fun W => fact_Word wd W hs)
 by_cases k1 : k = 1
 ·subst k1
  have e : keyB 1 a wd b = (idB a && emptyB wd && decide (b = 0)) := by simp [keyB]
  rw [e]
  clear e
  have HI := zh (fun W => fact_id a W)
  cases h1 : idB a
  ·rw [h1] at HI
   clear h1
   go_enter Tryz.func100, Tryz.ntmps100
   go_wp2_with (go_at_call 144; refine (uh HI _).mono ?_; rintro e w' ⟨rfl, rfl⟩)
   go_ret
   exact ⟨rfl, rfl⟩
  ·rw [h1] at HI
   clear h1
   by_cases h2 : wd.toList = []
   ·by_cases h3 : b = 0
    ·have h3' : (b == 0) = true := by simp [h3]
     have e : (true && emptyB wd && decide (b = 0)) = true := by simp [emptyB, h2, h3]
     rw [e]
     clear e h3
     go_enter Tryz.func100, Tryz.ntmps100
     go_wp2_with (go_at_call 144; refine (uh HI _).mono ?_; rintro e w' ⟨rfl, rfl⟩)
     go_ret
     exact ⟨rfl, rfl⟩
    ·have h3' : (b == 0) = false := by simp [h3]
     have e : (true && emptyB wd && decide (b = 0)) = false := by simp [h3]
     rw [e]
     clear e h3
     go_enter Tryz.func100, Tryz.ntmps100
     go_wp2_with (go_at_call 144; refine (uh HI _).mono ?_; rintro e w' ⟨rfl, rfl⟩)
     go_ret
     exact ⟨rfl, rfl⟩
   ·have e : (true && emptyB wd && decide (b = 0)) = false := by simp [emptyB, h2]
    rw [e]
    clear e
    go_enter Tryz.func100, Tryz.ntmps100
    go_wp2_with (go_at_call 144; refine (uh HI _).mono ?_; rintro e w' ⟨rfl, rfl⟩)
    go_ret
    exact ⟨rfl, rfl⟩
 ·have k1' : (k == 1) = false := by simp [k1]
  by_cases k2 : k = 2
  ·subst k2
   have e : keyB 2 a wd b = (idB a && idB b && wordB wd) := by simp [keyB]
   rw [e]
   clear e k1 k1'
   have HI := zh (fun W => fact_id a W)
   have HJ := zh (fun W => fact_id b W)
   generalize idB a = x at HI ⊢
   generalize idB b = y at HJ ⊢
   generalize wordB wd = z at HW ⊢
   cases x
   ·go_enter Tryz.func100, Tryz.ntmps100
    go_wp2_with fail
    refine (uh HI _).mono ?_; rintro e w' ⟨rfl, rfl⟩
    go_wp2
    go_ret
    exact ⟨rfl, rfl⟩
   ·cases y
    ·go_enter Tryz.func100, Tryz.ntmps100
     go_wp2_with fail
     refine (uh HI _).mono ?_; rintro e w' ⟨rfl, rfl⟩
     go_wp2_with fail
     refine (uh HJ _).mono ?_; rintro e w' ⟨rfl, rfl⟩
     go_wp2
     go_ret
     exact ⟨rfl, rfl⟩
    ·go_enter Tryz.func100, Tryz.ntmps100
     go_wp2_with fail
     refine (uh HI _).mono ?_; rintro e w' ⟨rfl, rfl⟩
     go_wp2_with fail
     refine (uh HJ _).mono ?_; rintro e w' ⟨rfl, rfl⟩
     go_wp2_with fail
     refine (uh HW _).mono ?_; rintro e w' ⟨rfl, rfl⟩
     go_wp2
     go_ret
     exact ⟨rfl, rfl⟩
  ·have k2' : (k == 2) = false := by simp [k2]
   by_cases k3 : k = 3
   ·subst k3
    have e : keyB 3 a wd b = (idB a && wordB wd && decide (b = 0)) := by simp [keyB]
    rw [e]
    clear e k1 k1' k2 k2'
    have HI := zh (fun W => fact_id a W)
    generalize idB a = x at HI ⊢
    generalize wordB wd = z at HW ⊢
    cases x
    ·go_enter Tryz.func100, Tryz.ntmps100
     go_wp2_with fail
     refine (uh HI _).mono ?_; rintro e w' ⟨rfl, rfl⟩
     go_wp2
     go_ret
     exact ⟨rfl, rfl⟩
    ·cases z
     ·go_enter Tryz.func100, Tryz.ntmps100
      go_wp2_with fail
      refine (uh HI _).mono ?_; rintro e w' ⟨rfl, rfl⟩
      go_wp2_with fail
      refine (uh HW _).mono ?_; rintro e w' ⟨rfl, rfl⟩
      go_wp2
      go_ret
      exact ⟨rfl, rfl⟩
     ·go_enter Tryz.func100, Tryz.ntmps100
      go_wp2_with fail
      refine (uh HI _).mono ?_; rintro e w' ⟨rfl, rfl⟩
      go_wp2_with fail
      refine (uh HW _).mono ?_; rintro e w' ⟨rfl, rfl⟩
      go_wp2
      go_ret
      exact ⟨ret_bool (by simp [dec_zero]), rfl⟩
   ·have k3' : (k == 3) = false := by simp [k3]
    have e : keyB k a wd b = false := by simp [keyB, k1, k2, k3]
    rw [e]
    clear e k1 k2 k3
    go_enter Tryz.func100, Tryz.ntmps100
    go_wp2
    go_ret
    exact ⟨rfl, rfl⟩
theorem ref_Key (k a : Int) (wd : ByteArray) (b : Int) (w : World) (hs : wd.size <= maxLen) :
  Calls Tryz.prog 97 #[.agg #[.int .i64 k, .int .i64 a, .string wd, .int .i64 b]] w fun e w' => e = .returned (.bool (keyB k a wd b)) /\ w' = w.alloc (.cells #[.int .i64 k, .int .i64 a, .string wd, .int .i64 b] 32) := by
 have HW := zh (fun W => ref_Word wd W hs)
 have HI := zh (fun W => ref_in a 0 1048576 W)
 have HJ := zh (fun W => ref_in b 0 1048576 W)
 have ea : idB a = inB a 0 1048576 := rfl
 have eb : idB b = inB b 0 1048576 := rfl
 have e : keyB k a wd b = (inB a 0 1048576 && (if k = 1 then emptyB wd && decide (b = 0) else if k = 2 then inB b 0 1048576 && wordB wd else if k = 3 then wordB wd && decide (b = 0) else false)) := by
  rw [<- ea, <- eb]
  unfold keyB
  by_cases k1 : k = 1
  ·simp [k1, Bool.and_assoc]
  ·by_cases k2 : k = 2
   ·simp [k2, Bool.and_assoc]
   ·by_cases k3 : k = 3
    ·simp [k3, Bool.and_assoc]
    ·simp [k1, k2, k3]
 rw [e]
 clear e ea eb
 generalize inB a 0 1048576 = x at HI ⊢
 generalize inB b 0 1048576 = y at HJ ⊢
 generalize wordB wd = z at HW ⊢
 cases x
 ·rw [Bool.false_and]
  go_enter Tryz.func97, Tryz.ntmps97
  go_wp2_with fail
  refine (uh HI _).mono ?_; rintro e w' ⟨rfl, rfl⟩
  go_wp2
  go_ret
  exact ⟨rfl, rfl⟩
 ·by_cases k1 : k = 1
  ·subst k1
   rw [if_pos rfl]
   by_cases h2 : wd.toList = []
   ·have e : (true && (emptyB wd && decide (b = 0))) = (b == 0) := by simp [emptyB, h2, dec_zero]
    rw [e]
    clear e
    go_enter Tryz.func97, Tryz.ntmps97
    go_wp2_with fail
    refine (uh HI _).mono ?_; rintro e w' ⟨rfl, rfl⟩
    go_wp2
    go_ret
    exact ⟨rfl, rfl⟩
   ·have e : (true && (emptyB wd && decide (b = 0))) = false := by simp [emptyB, h2]
    rw [e]
    clear e
    go_enter Tryz.func97, Tryz.ntmps97
    go_wp2_with fail
    refine (uh HI _).mono ?_; rintro e w' ⟨rfl, rfl⟩
    go_wp2
    go_ret
    exact ⟨rfl, rfl⟩
  ·have k1' : (k == 1) = false := by simp [k1]
   rw [if_neg k1]
   by_cases k2 : k = 2
   ·subst k2
    clear k1 k1'
    rw [if_pos rfl]
    cases z
    ·go_enter Tryz.func97, Tryz.ntmps97
     go_wp2_with fail
     refine (uh HI _).mono ?_; rintro e w' ⟨rfl, rfl⟩
     go_wp2_with fail
     refine (uh HW _).mono ?_; rintro e w' ⟨rfl, rfl⟩
     go_wp2
     go_ret
     exact ⟨ret_bool (by simp), rfl⟩
    ·go_enter Tryz.func97, Tryz.ntmps97
     go_wp2_with fail
     refine (uh HI _).mono ?_; rintro e w' ⟨rfl, rfl⟩
     go_wp2_with fail
     refine (uh HW _).mono ?_; rintro e w' ⟨rfl, rfl⟩
     go_wp2_with fail
     refine (uh HJ _).mono ?_; rintro e w' ⟨rfl, rfl⟩
     go_wp2
     go_ret
     exact ⟨ret_bool (by simp), rfl⟩
   ·have k2' : (k == 2) = false := by simp [k2]
    rw [if_neg k2]
    by_cases k3 : k = 3
    ·subst k3
     clear k1 k1' k2 k2'
     rw [if_pos rfl]
     cases z
     ·go_enter Tryz.func97, Tryz.ntmps97
      go_wp2_with fail
      refine (uh HI _).mono ?_; rintro e w' ⟨rfl, rfl⟩
      go_wp2_with fail
      refine (uh HW _).mono ?_; rintro e w' ⟨rfl, rfl⟩
      go_wp2
      go_ret
      exact ⟨rfl, rfl⟩
     ·go_enter Tryz.func97, Tryz.ntmps97
      go_wp2_with fail
      refine (uh HI _).mono ?_; rintro e w' ⟨rfl, rfl⟩
      go_wp2_with fail
      refine (uh HW _).mono ?_; rintro e w' ⟨rfl, rfl⟩
      go_wp2
      go_ret
      exact ⟨ret_bool (by simp [dec_zero]), rfl⟩
    ·have k3' : (k == 3) = false := by simp [k3]
     rw [if_neg k3]
     clear k1 k2 k3
     go_enter Tryz.func97, Tryz.ntmps97
     go_wp2_with fail
     refine (uh HI _).mono ?_; rintro e w' ⟨rfl, rfl⟩
     go_wp2
     go_ret
     exact ⟨rfl, rfl⟩
def opCells (o : Fop) : List Value := [.int .i64 o.kind, .int .i64 o.a, .string o.word, .int .i64 o.b, .int .i64 o.lo, .int .i64 o.hi, .string o.value]
def opV (o : Fop) : Value := .agg (opCells o).toArray
def Small (o : Fop) : Prop := o.word.size <= maxLen /\ o.value.size <= maxLen
theorem fact_Op (o : Fop) (w : World) (hs : Small o) :
  Calls Tryz.prog 85 #[opV o] w fun e w' => e = .returned (.bool (opB o)) /\ Below w.heap.size w w' := by
 obtain ⟨hs1, hs2⟩ := hs
 have HK := zh (fun W => fact_Key o.kind o.a o.word o.b W hs1)
 have HR := zh (fun W => span_Right o.lo o.hi W)
 have HW := zh (fun W => fact_Word o.value W hs2)
 unfold opB opV opCells
 clear hs1 hs2
 generalize keyB o.kind o.a o.word o.b = x at HK ⊢
 generalize rightB o.lo o.hi = y at HR ⊢
 generalize wordB o.value = z at HW ⊢
 obtain ⟨k, a, wd, b, lo, hi, vl⟩ := o
 dsimp only at *
 have H3 : Hid (Below w.heap.size w (((w.alloc (.cells #[.int .i64 k, .int .i64 a, .string wd, .int .i64 b, .int .i64 lo, .int .i64 hi, .string vl] 36)).alloc (.cells #[.int .i64 k, .int .i64 a, .string wd, .int .i64 b] 32)).alloc (.cells #[.int .i64 lo, .int .i64 hi] 34))) :=
  (((Below.refl _ _).alloc zr _).alloc (by simp) _).alloc (by simp; omega) _
 have H2 : Hid (Below w.heap.size w ((w.alloc (.cells #[.int .i64 k, .int .i64 a, .string wd, .int .i64 b, .int .i64 lo, .int .i64 hi, .string vl] 36)).alloc (.cells #[.int .i64 k, .int .i64 a, .string wd, .int .i64 b] 32))) :=
  ((Below.refl _ _).alloc zr _).alloc (by simp) _
 cases x
 ·rw [Bool.false_and, Bool.false_and]
  go_enter Tryz.func85, Tryz.ntmps85
  go_wp2_with fail
  refine (uh HK _).mono ?_; rintro e w' ⟨rfl, rfl⟩
  go_wp2
  go_ret
  exact ⟨rfl, uh H2⟩
 ·cases y
  ·rw [Bool.and_false, Bool.false_and]
   go_enter Tryz.func85, Tryz.ntmps85
   go_wp2_with fail
   refine (uh HK _).mono ?_; rintro e w' ⟨rfl, rfl⟩
   go_wp2_with fail
   refine (uh HR _).mono ?_; rintro e w' ⟨rfl, rfl⟩
   go_wp2
   go_ret
   exact ⟨rfl, uh H3⟩
  ·rw [Bool.and_true, Bool.true_and]
   by_cases h : vl.toList = []
   ·have e : (emptyB vl || z) = true := by simp [emptyB, h]
    rw [e]
    clear e
    go_enter Tryz.func85, Tryz.ntmps85
    go_wp2_with fail
    refine (uh HK _).mono ?_; rintro e w' ⟨rfl, rfl⟩
    go_wp2_with fail
    refine (uh HR _).mono ?_; rintro e w' ⟨rfl, rfl⟩
    go_wp2
    go_ret
    exact ⟨rfl, uh H3⟩
   ·go_enter Tryz.func85, Tryz.ntmps85
    go_wp2_with fail
    refine (uh HK _).mono ?_; rintro e w' ⟨rfl, rfl⟩
    go_wp2_with fail
    refine (uh HR _).mono ?_; rintro e w' ⟨rfl, rfl⟩
    go_wp2_with fail
    refine (uh HW _).mono ?_; rintro e w' ⟨rfl, rfl⟩
    go_wp2
    go_ret
    exact ⟨rfl, uh H3⟩
theorem ref_Op (o : Fop) (w : World) (hs : Small o) :
  Calls Tryz.prog 92 #[opV o] w fun e w' => e = .returned (.bool (opB o)) /\ Below w.heap.size w w' := by
 obtain ⟨hs1, hs2⟩ := hs
 have HK := zh (fun W => ref_Key o.kind o.a o.word o.b W hs1)
 have HR := zh (fun W => ref_Right o.lo o.hi W)
 have HW := zh (fun W => ref_Word o.value W hs2)
 unfold opB opV opCells
 clear hs1 hs2
 generalize keyB o.kind o.a o.word o.b = x at HK ⊢
 generalize rightB o.lo o.hi = y at HR ⊢
 generalize wordB o.value = z at HW ⊢
 obtain ⟨k, a, wd, b, lo, hi, vl⟩ := o
 dsimp only at *
 have H3 : Hid (Below w.heap.size w (((w.alloc (.cells #[.int .i64 k, .int .i64 a, .string wd, .int .i64 b, .int .i64 lo, .int .i64 hi, .string vl] 36)).alloc (.cells #[.int .i64 k, .int .i64 a, .string wd, .int .i64 b] 32)).alloc (.cells #[.int .i64 lo, .int .i64 hi] 34))) :=
  (((Below.refl _ _).alloc zr _).alloc (by simp) _).alloc (by simp; omega) _
 have H2 : Hid (Below w.heap.size w ((w.alloc (.cells #[.int .i64 k, .int .i64 a, .string wd, .int .i64 b, .int .i64 lo, .int .i64 hi, .string vl] 36)).alloc (.cells #[.int .i64 k, .int .i64 a, .string wd, .int .i64 b] 32))) :=
  ((Below.refl _ _).alloc zr _).alloc (by simp) _
 cases x
 ·rw [Bool.false_and, Bool.false_and]
  go_enter Tryz.func92, Tryz.ntmps92
  go_wp2_with fail
  refine (uh HK _).mono ?_; rintro e w' ⟨rfl, rfl⟩
  go_wp2
  go_ret
  exact ⟨rfl, uh H2⟩
 ·cases y
  ·rw [Bool.and_false, Bool.false_and]
   go_enter Tryz.func92, Tryz.ntmps92
   go_wp2_with fail
   refine (uh HK _).mono ?_; rintro e w' ⟨rfl, rfl⟩
   go_wp2_with fail
   refine (uh HR _).mono ?_; rintro e w' ⟨rfl, rfl⟩
   go_wp2
   go_ret
   exact ⟨rfl, uh H3⟩
  ·rw [Bool.and_true, Bool.true_and]
   by_cases h : vl.toList = []
   ·have e : (emptyB vl || z) = true := by simp [emptyB, h]
    rw [e]
    clear e
    go_enter Tryz.func92, Tryz.ntmps92
    go_wp2_with fail
    refine (uh HK _).mono ?_; rintro e w' ⟨rfl, rfl⟩
    go_wp2_with fail
    refine (uh HR _).mono ?_; rintro e w' ⟨rfl, rfl⟩
    go_wp2
    go_ret
    exact ⟨rfl, uh H3⟩
   ·go_enter Tryz.func92, Tryz.ntmps92
    go_wp2_with fail
    refine (uh HK _).mono ?_; rintro e w' ⟨rfl, rfl⟩
    go_wp2_with fail
    refine (uh HR _).mono ?_; rintro e w' ⟨rfl, rfl⟩
    go_wp2_with fail
    refine (uh HW _).mono ?_; rintro e w' ⟨rfl, rfl⟩
    go_wp2
    go_ret
    exact ⟨rfl, uh H3⟩
def Tab (w : World) : Prop := Lib.TabIs Tryz.prog w "internal/strconv.uint64pow10" .u64 Lib.pow10Tab
theorem Tab.carry {w w' : World} (h : Tab w) (hb : Below w.heap.size w w') : Tab w' := var_carry h hb
theorem itoa (n : Int) (w : World) (h0 : -9223372036854775808 <= n) (h1 : n <= 9223372036854775807) (ht : Tab w) :
  Calls Tryz.prog 81 #[.int .i64 n] w fun e w' => e = .returned (.string ⟨(Lib.itoa n).toArray⟩) /\ Below w.heap.size w w' :=
 (Tryz.strconv_Itoa n h0 h1 w ht).mono fun e w' ⟨h, k, os, hw⟩ => ⟨h, by rw [hw]; exact ⟨rfl, rfl, rfl, by simp [Go.Sort.grow, World.drewN], fun i hi => by simp [Go.Sort.grow, World.drewN, Array.getElem?_append_left hi]⟩⟩
def dashB (s : ByteArray) : ByteArray := if s.toList = [] then ⟨#[45]⟩ else s
theorem dashB_data (s : ByteArray) : (dashB s).data.toList = dashL s.data.toList := by
 unfold dashB dashL
 rw [ByteArray.toList_eq]
 split <;> simp_all
def orS : List ByteArray -> ByteArray
 | [] => ⟨#[]⟩
 | x :: l => if x.toList = [] then orS l else x
theorem orS_none (l : List ByteArray) (h : ∀ x, x ∈ l -> x.toList = []) : orS l = ⟨#[]⟩ := by
 induction l with
 | nil => rfl
 | cons x l ih => rw [orS, if_pos (h x (by simp)), ih (fun y hy => h y (by simp [hy]))]
theorem orS_at (l : List ByteArray) (k : Nat) (hk : k < l.length) (h : ∀ j, (hj : j < k) -> l[j].toList = []) (h2 : l[k].toList ≠ []) : orS l = l[k] := by
 induction l generalizing k with
 | nil => simp at hk
 | cons x l ih =>
  cases k with
  | zero => simp only [List.getElem_cons_zero] at h2 ⊢; rw [orS, if_neg h2]
  | succ k =>
   have h0 := h 0 (by omega)
   simp only [List.getElem_cons_zero] at h0
   rw [orS, if_pos h0]
   simp only [List.getElem_cons_succ] at h2 ⊢
   exact ih k (by simpa using hk) (fun j hj => by have := h (j + 1) (by omega); simpa using this) h2
theorem or_string (xs : List ByteArray) (b o c : Nat) (w : World) (hn : xs.length < 1099511627776) (hc : ∀ k, (hk : k < xs.length) -> w.cell? ⟨b, o + k, none⟩ = some (.string xs[k])) :
  Calls Tryz.prog 134 #[.slice (some ⟨b, o, none⟩) xs.length c] w fun e w' => e = .returned (.string (orS xs)) /\ w' = w := by
 have HC := zh hc
 clear hc
 go_enter Tryz.func134, Tryz.ntmps134
 go_wp2
 go_loop [8] (fun i => ∃ k : Nat, k <= xs.length /\ i = .int .i64 k /\ ∀ j, (hj : j < xs.length) -> j < k -> xs[j].toList = []) (fun i => xs.length - (intOf i).toNat)
 case atStart => exact ⟨0, Nat.zero_le _, rfl, fun j _ h => absurd h (Nat.not_lt_zero _)⟩
 case round =>
  obtain ⟨k, hk, rfl, hz⟩ := hrel
  have HZ := zh hz
  clear hz
  by_cases hlt : k < xs.length
  ·have hlt' : (k : Int) < (xs.length : Int) := by omega
   have c1 := uh HC k hlt
   have hF : ∃ y, y = xs[k] := ⟨_, rfl⟩
   obtain ⟨y, hy⟩ := hF
   have HY := zh hy
   rw [<- hy] at c1
   clear hy
   by_cases h0 : y.toList = []
   ·go_wp2
    go_round
    case rel =>
     refine ⟨k + 1, by omega, by go_num, fun j hj hjk => ?_⟩
     by_cases e : j = k
     ·subst e; rw [<- uh HY]; exact h0
     ·exact uh HZ j hj (by omega)
    case measure => simp [intOf]; omega
   ·have h0' : y.toList.isEmpty = false := by simp [h0]
    have E := zh (orS_at xs k hlt (fun j hj => uh HZ j (by omega) hj) (by rw [<- uh HY]; exact h0))
    go_wp2
    go_ret
    exact ⟨ret_string (by rw [uh E, uh HY]), rfl⟩
  ·have hlt' : ¬ (k : Int) < (xs.length : Int) := by omega
   have E := zh (orS_none xs (fun x hx => by
    obtain ⟨j, hj, rfl⟩ := List.getElem_of_mem hx
    exact uh HZ j hj (by omega)))
   go_wp2
   go_ret
   exact ⟨ret_string (uh E), rfl⟩
theorem or_dash (s : ByteArray) (b c : Nat) (w : World) (h0 : w.cell? ⟨b, 0, none⟩ = some (.string s)) (h1 : w.cell? ⟨b, 1, none⟩ = some (.string ⟨#[45]⟩)) :
  Calls Tryz.prog 134 #[.slice (some ⟨b, 0, none⟩) 2 c] w fun e w' => e = .returned (.string (dashB s)) /\ w' = w := by
 have h := or_string [s, ⟨#[45]⟩] b 0 c w (by simp) (fun k hk => by
  have hk' : k < 2 := hk
  rcases k with _ | _ | k
  ·exact h0
  ·exact h1
  ·omega)
 have e : orS [s, ⟨#[45]⟩] = dashB s := by
  unfold dashB
  rw [orS, orS]
  split
  ·rw [if_neg (by rw [ByteArray.toList_eq]; simp)]
  ·rfl
 rw [e] at h
 exact h
theorem num5_0 (a b c d e : Int) (w : World) : (Instr.index 219 (.agg #[.int .i64 a, .int .i64 b, .int .i64 c, .int .i64 d, .int .i64 e]) (.int .i64 0)).run Tryz.prog w = .ok (.int .i64 a) w := by kernel_rfl
theorem num5_1 (a b c d e : Int) (w : World) : (Instr.index 219 (.agg #[.int .i64 a, .int .i64 b, .int .i64 c, .int .i64 d, .int .i64 e]) (.int .i64 1)).run Tryz.prog w = .ok (.int .i64 b) w := by kernel_rfl
theorem num5_2 (a b c d e : Int) (w : World) : (Instr.index 219 (.agg #[.int .i64 a, .int .i64 b, .int .i64 c, .int .i64 d, .int .i64 e]) (.int .i64 2)).run Tryz.prog w = .ok (.int .i64 c) w := by kernel_rfl
theorem num5_3 (a b c d e : Int) (w : World) : (Instr.index 219 (.agg #[.int .i64 a, .int .i64 b, .int .i64 c, .int .i64 d, .int .i64 e]) (.int .i64 3)).run Tryz.prog w = .ok (.int .i64 d) w := by kernel_rfl
theorem num5_4 (a b c d e : Int) (w : World) : (Instr.index 219 (.agg #[.int .i64 a, .int .i64 b, .int .i64 c, .int .i64 d, .int .i64 e]) (.int .i64 4)).run Tryz.prog w = .ok (.int .i64 e) w := by kernel_rfl
def tcell (ns : List Int) (k j : Nat) : Value := .string (if j < k then ⟨(Lib.itoa (ns.getD j 0)).toArray⟩ else ⟨#[]⟩)
def numsOf (o : Fop) : List Int := [o.kind, o.a, o.b, o.lo, o.hi]
def WrInv (w : World) (o : Fop) (k : Nat) (x : World) : Prop :=
 Below w.heap.size w x /\ x.cell? ⟨w.heap.size, 2, none⟩ = some (.string o.word) /\ x.cell? ⟨w.heap.size, 6, none⟩ = some (.string o.value) /\
 (∀ j, j < 5 -> x.cell? ⟨w.heap.size + 1 + 1, j, none⟩ = some (tcell (numsOf o) k j) /\ x.frozen? ⟨w.heap.size + 1 + 1, j, none⟩ = false)
theorem WrInv.carry {w : World} {o : Fop} {k : Nat} {x y : World} (h : WrInv w o k x) (hb : Below x.heap.size x y) : WrInv w o k y := by
 obtain ⟨h1, h2, h3, h4⟩ := h
 refine ⟨h1.trans (hb.mono h1.size), (hb.cell (lt_of_cell h2)).trans h2, (hb.cell (lt_of_cell h3)).trans h3, fun j hj => ?_⟩
 obtain ⟨c, f⟩ := h4 j hj
 exact ⟨(hb.cell (lt_of_cell c)).trans c, (hb.frozen (lt_of_cell c)).trans f⟩
theorem WrInv.step {w : World} {o : Fop} {k : Nat} {x : World} (h : WrInv w o k x) (hk : k < 5) : WrInv w o (k + 1) (x.setCell ⟨w.heap.size + 1 + 1, k, none⟩ (.string ⟨(Lib.itoa ((numsOf o).getD k 0)).toArray⟩)) := by
 obtain ⟨h1, h2, h3, h4⟩ := h
 refine ⟨h1.setCell (by simp; omega) _, ?_, ?_, fun j hj => ?_⟩
 ·rw [World.cell?_setCell_other]
  ·exact h2
  ·simp
 ·rw [World.cell?_setCell_other]
  ·exact h3
  ·simp
 ·rw [World.frozen?_setCell]
  refine ⟨?_, (h4 j hj).2⟩
  by_cases e : j = k
  ·subst e
   rw [World.cell?_setCell_same' _ _ _ (by rw [(h4 j hj).1]; rfl)]
   simp [tcell]
  ·rw [World.cell?_setCell_other _ _ _ _ (fun h => e (by simpa using h.symm)), (h4 j hj).1]
   unfold tcell
   congr 2
   by_cases hj : j < k
   ·simp [hj, Nat.lt_succ_of_lt hj]
   ·have : ¬ j < k + 1 := by omega
    simp [hj, this]
theorem seven_cells (W : World) (n : Nat) (hn : n = W.heap.size) (a b c d e f g : ByteArray) (j : Nat) (x : ByteArray) (h : [a, b, c, d, e, f, g][j]? = some x) : (W.alloc (.cells #[.string a, .string b, .string c, .string d, .string e, .string f, .string g] 9)).cell? ⟨n, 0 + j, none⟩ = some (.string x) := by
 subst hn
 rcases j with _ | _ | _ | _ | _ | _ | _ | j
 all_goals (simp at h; try (subst h; simp))
theorem fields_map (o : Fop) : ([⟨(Lib.itoa o.kind).toArray⟩, ⟨(Lib.itoa o.a).toArray⟩, dashB o.word, ⟨(Lib.itoa o.b).toArray⟩, ⟨(Lib.itoa o.lo).toArray⟩, ⟨(Lib.itoa o.hi).toArray⟩, dashB o.value] : List ByteArray).map (·.data.toList) = fieldsL o := by
 simp [fieldsL, dashB_data]
def WrHeld (w : World) (o : Fop) (x : World) : Prop :=
 (x.cell? ⟨w.heap.size, 2, none⟩ = some (.string o.word) /\ x.cell? ⟨w.heap.size, 6, none⟩ = some (.string o.value)) /\
 x.cell? ⟨w.heap.size + 1 + 1, 0, none⟩ = some (.string ⟨(Lib.itoa o.kind).toArray⟩) /\ x.cell? ⟨w.heap.size + 1 + 1, 1, none⟩ = some (.string ⟨(Lib.itoa o.a).toArray⟩) /\ x.cell? ⟨w.heap.size + 1 + 1, 2, none⟩ = some (.string ⟨(Lib.itoa o.b).toArray⟩) /\
 x.cell? ⟨w.heap.size + 1 + 1, 3, none⟩ = some (.string ⟨(Lib.itoa o.lo).toArray⟩) /\ x.cell? ⟨w.heap.size + 1 + 1, 4, none⟩ = some (.string ⟨(Lib.itoa o.hi).toArray⟩) /\ Below w.heap.size w x
theorem WrHeld.carry {w : World} {o : Fop} {x y : World} (h : WrHeld w o x) (hb : Below x.heap.size x y) : WrHeld w o y := by
 obtain ⟨⟨h1, h2⟩, h3, h4, h5, h6, h7, h8⟩ := h
 have t : ∀ {a : Addr} {v : Value}, x.cell? a = some v -> y.cell? a = some v := fun {a v} e => (hb.cell (p := a) (lt_of_cell e)).trans e
 exact ⟨⟨t h1, t h2⟩, t h3, t h4, t h5, t h6, t h7, h8.trans (hb.mono h8.size)⟩
theorem WrInv.held {w : World} {o : Fop} {x : World} (h : WrInv w o 5 x) : WrHeld w o x := by
 obtain ⟨h1, h2, h3, h4⟩ := h
 exact ⟨⟨h2, h3⟩, (h4 0 (by omega)).1, (h4 1 (by omega)).1, (h4 2 (by omega)).1, (h4 3 (by omega)).1, (h4 4 (by omega)).1, h1⟩
theorem fact_write (o : Fop) (w : World) (ho : opB o = true) (ht : Tab w) :
    Calls Tryz.prog 86 #[opV o] w fun e w' => e = .returned (.string ⟨(opL o).toArray⟩) /\ Below w.heap.size w w' := by
  have hp := op_parts o ho
  have HB : Hid (∀ j, j < 5 -> -9223372036854775808 <= (numsOf o).getD j 0 /\ (numsOf o).getD j 0 <= 9223372036854775807) := by
    intro j hj
    rcases j with _ | _ | _ | _ | _ | j
    all_goals (simp [numsOf]; try omega)
  have HL := zh (wr_length o ho)
  have HT := zh ht
  clear hp ho ht
  have HI : Hid (WrInv w o 0 (((w.alloc (.cells #[.int .i64 o.kind, .int .i64 o.a, .string o.word, .int .i64 o.b, .int .i64 o.lo, .int .i64 o.hi, .string o.value] 36)).alloc (.cells #[.int .i64 o.kind, .int .i64 o.a, .int .i64 o.b, .int .i64 o.lo, .int .i64 o.hi] 219)).alloc (.cells #[.string ⟨#[]⟩, .string ⟨#[]⟩, .string ⟨#[]⟩, .string ⟨#[]⟩, .string ⟨#[]⟩] 220))) := by
    unfold Hid WrInv
    refine ⟨(((Below.refl _ _).alloc zr _).alloc (by simp) _).alloc (by simp; omega) _, by simp [go_sem], by simp [go_sem], fun j hj => ?_⟩
    rcases j with _ | _ | _ | _ | _ | j
    all_goals (first | (simp [tcell, go_sem]; done) | omega)
  unfold opV opCells
  go_enter Tryz.func86, Tryz.ntmps86
  go_wp2
  generalize (((w.alloc (.cells #[.int .i64 o.kind, .int .i64 o.a, .string o.word, .int .i64 o.b, .int .i64 o.lo, .int .i64 o.hi, .string o.value] 36)).alloc (.cells #[.int .i64 o.kind, .int .i64 o.a, .int .i64 o.b, .int .i64 o.lo, .int .i64 o.hi] 219)).alloc (.cells #[.string ⟨#[]⟩, .string ⟨#[]⟩, .string ⟨#[]⟩, .string ⟨#[]⟩, .string ⟨#[]⟩] 220)) = W at HI ⊢
  go_loopw [24] (fun i x => ∃ k : Nat, k <= 5 /\ i = .int .i64 k /\ WrInv w o k x) (fun i _ => 5 - (intOf i).toNat)
  case atStart => exact ⟨0, Nat.zero_le _, rfl, uh HI⟩
  case round =>
    obtain ⟨k, hk, rfl, hinv⟩ := hrel
    by_cases hlt : k < 5
    · have HN := zh hinv
      clear hinv
      have hk5 : k = 0 \/ k = 1 \/ k = 2 \/ k = 3 \/ k = 4 := by omega
      rcases hk5 with rfl | rfl | rfl | rfl | rfl
      · have ix := fun W => num5_0 o.kind o.a o.b o.lo o.hi W
        have HC := zh (itoa o.kind wr (uh HB 0 (by omega)).1 (uh HB 0 (by omega)).2 ((uh HT).carry (uh HN).1))
        go_wp2_with fail
        refine (uh HC).mono ?_
        rintro e w1 ⟨rfl, b1⟩
        have h1 := (uh HN).carry b1
        have c1 := (h1.2.2.2 0 (by omega)).1
        have f1 := (h1.2.2.2 0 (by omega)).2
        have H2 := zh (h1.step (by omega))
        clear h1 b1
        go_wp2
        exact ⟨⟨1, by omega, rfl, uh H2⟩, by simp [intOf]⟩
      · have ix := fun W => num5_1 o.kind o.a o.b o.lo o.hi W
        have HC := zh (itoa o.a wr (uh HB 1 (by omega)).1 (uh HB 1 (by omega)).2 ((uh HT).carry (uh HN).1))
        go_wp2_with fail
        refine (uh HC).mono ?_
        rintro e w1 ⟨rfl, b1⟩
        have h1 := (uh HN).carry b1
        have c1 := (h1.2.2.2 1 (by omega)).1
        have f1 := (h1.2.2.2 1 (by omega)).2
        have H2 := zh (h1.step (by omega))
        clear h1 b1
        go_wp2
        exact ⟨⟨2, by omega, rfl, uh H2⟩, by simp [intOf]⟩
      · have ix := fun W => num5_2 o.kind o.a o.b o.lo o.hi W
        have HC := zh (itoa o.b wr (uh HB 2 (by omega)).1 (uh HB 2 (by omega)).2 ((uh HT).carry (uh HN).1))
        go_wp2_with fail
        refine (uh HC).mono ?_
        rintro e w1 ⟨rfl, b1⟩
        have h1 := (uh HN).carry b1
        have c1 := (h1.2.2.2 2 (by omega)).1
        have f1 := (h1.2.2.2 2 (by omega)).2
        have H2 := zh (h1.step (by omega))
        clear h1 b1
        go_wp2
        exact ⟨⟨3, by omega, rfl, uh H2⟩, by simp [intOf]⟩
      · have ix := fun W => num5_3 o.kind o.a o.b o.lo o.hi W
        have HC := zh (itoa o.lo wr (uh HB 3 (by omega)).1 (uh HB 3 (by omega)).2 ((uh HT).carry (uh HN).1))
        go_wp2_with fail
        refine (uh HC).mono ?_
        rintro e w1 ⟨rfl, b1⟩
        have h1 := (uh HN).carry b1
        have c1 := (h1.2.2.2 3 (by omega)).1
        have f1 := (h1.2.2.2 3 (by omega)).2
        have H2 := zh (h1.step (by omega))
        clear h1 b1
        go_wp2
        exact ⟨⟨4, by omega, rfl, uh H2⟩, by simp [intOf]⟩
      · have ix := fun W => num5_4 o.kind o.a o.b o.lo o.hi W
        have HC := zh (itoa o.hi wr (uh HB 4 (by omega)).1 (uh HB 4 (by omega)).2 ((uh HT).carry (uh HN).1))
        go_wp2_with fail
        refine (uh HC).mono ?_
        rintro e w1 ⟨rfl, b1⟩
        have h1 := (uh HN).carry b1
        have c1 := (h1.2.2.2 4 (by omega)).1
        have f1 := (h1.2.2.2 4 (by omega)).2
        have H2 := zh (h1.step (by omega))
        clear h1 b1
        go_wp2
        exact ⟨⟨5, by omega, rfl, uh H2⟩, by simp [intOf]⟩
    · have hk5 : k = 5 := by omega
      subst hk5
      have HH := zh hinv.held
      clear hinv hlt hk HI HB
      go_wp2
      go_region_held3 (fun x => (x.cell? ⟨w.heap.size, 2, none⟩ = some (.string o.word) /\ x.cell? ⟨w.heap.size, 6, none⟩ = some (.string o.value)) /\
  x.cell? ⟨w.heap.size + 1 + 1, 0, none⟩ = some (.string ⟨(Lib.itoa o.kind).toArray⟩) /\ x.cell? ⟨w.heap.size + 1 + 1, 1, none⟩ = some (.string ⟨(Lib.itoa o.a).toArray⟩) /\ x.cell? ⟨w.heap.size + 1 + 1, 2, none⟩ = some (.string ⟨(Lib.itoa o.b).toArray⟩) /\
  x.cell? ⟨w.heap.size + 1 + 1, 3, none⟩ = some (.string ⟨(Lib.itoa o.lo).toArray⟩) /\ x.cell? ⟨w.heap.size + 1 + 1, 4, none⟩ = some (.string ⟨(Lib.itoa o.hi).toArray⟩) /\ Below w.heap.size w x)
        (first | exact WrHeld.carry (uh HH) (below_drew _) | (refine WrHeld.carry (by assumption) ?_; exact below_box _ _) | (refine WrHeld.carry (by assumption) ?_; assumption) | assumption)
        (first
          | (go_at_call 134; refine (or_dash _ _ _ _ (by simp [go_sem]; rfl) (by simp [go_sem])).mono ?_; rintro e w1 ⟨rfl, rfl⟩)
          | (go_at_call 87; refine (Tryz.strings_Join _ 0 _ [⟨(Lib.itoa o.kind).toArray⟩, ⟨(Lib.itoa o.a).toArray⟩, dashB o.word, ⟨(Lib.itoa o.b).toArray⟩, ⟨(Lib.itoa o.lo).toArray⟩, ⟨(Lib.itoa o.hi).toArray⟩, dashB o.value] _ _ (by exact seven_cells _ _ (by simp) _ _ _ _ _ _ _) (by simp) (by simp) (by simp) (by rw [fields_map]; exact Nat.le_trans (uh HL) (by decide))).mono ?_; rintro e w1 ⟨rfl, b1⟩))
      all_goals
        rename_i hh
        have HF := zh hh.2.2.2.2.2.2
        clear hh b1
        go_wp2
        go_ret
        refine ⟨ret_string ?_, uh HF⟩
        unfold opL
        rw [<- fields_map]
        simp
end Go.Proofs.YtfoojmflbifkpaaGreatDoor
