/- Texts of one proof, one behind the other. -/
import Derived.Test.YtbmkmfoaoganeaaGreatDoorNa
import Derived.Test.YtbmkmfoaoganeaaGreatDoorShelf
set_option maxRecDepth 100000
set_option maxHeartbeats 16000000
namespace Go.Proofs.YtbmkmfoaoganeaaGreatDoor
open Go.RowKit
def ltrI (n : Int) : Bool := decide (97 <= n /\ n <= 122) || decide (48 <= n /\ n <= 57)
theorem ltrI_letter (c : UInt8) : letterB c = ltrI (c.toNat : Int) := by
 unfold letterB ltrI
 congr 1
 ·apply decide_eq_decide.2; omega
 ·apply decide_eq_decide.2; omega
theorem ltrI_yes (n : Int) (h : ltrI n = true) : (97 <= n /\ n <= 122) \/ (48 <= n /\ n <= 57) := by simpa [ltrI] using h
theorem ltrI_no (n : Int) (h : ltrI n = false) : ¬ (97 <= n /\ n <= 122) /\ ¬ (48 <= n /\ n <= 57) := by
 have h' : ¬ (ltrI n = true) := by rw [h]; decide
 constructor <;> (intro h2; apply h'; unfold ltrI; simp only [Bool.or_eq_true, decide_eq_true_eq])
 ·exact Or.inl h2
 ·exact Or.inr h2
theorem fact_letter (n : Int) (w : World) :
  Calls Tryz.prog 185 #[.int .u8 n] w fun e w' => e = .returned (.bool (ltrI n)) /\ w' = w := by
 cases h : ltrI n
 ·obtain ⟨h1, h2⟩ := ltrI_no n h
  by_cases k1 : 97 <= n
  ·have k2 : ¬ n <= 122 := by omega
   have k3 : 48 <= n := by omega
   have k4 : ¬ n <= 57 := by omega
   clear h1 h2 h
   go_enter Tryz.func185, Tryz.ntmps185
   go_wp2
   go_ret
   exact ⟨rfl, rfl⟩
  ·by_cases k3 : 48 <= n
   ·have k4 : ¬ n <= 57 := by omega
    clear h1 h2 h
    go_enter Tryz.func185, Tryz.ntmps185
    go_wp2
    go_ret
    exact ⟨rfl, rfl⟩
   ·clear h1 h2 h
    go_enter Tryz.func185, Tryz.ntmps185
    go_wp2
    go_ret
    exact ⟨rfl, rfl⟩
 ·rcases ltrI_yes n h with ⟨k1, k2⟩ | ⟨k1, k2⟩
  ·clear h
   go_enter Tryz.func185, Tryz.ntmps185
   go_wp2
   go_ret
   exact ⟨rfl, rfl⟩
  ·have k3 : ¬ 97 <= n := by omega
   clear h
   go_enter Tryz.func185, Tryz.ntmps185
   go_wp2
   go_ret
   exact ⟨rfl, rfl⟩
def lettersTo (s : ByteArray) (k : Nat) : Prop := ∀ j, j < k -> (h : j < s.size) -> ltrI (s[j].toNat : Int) = true
theorem word_iff (s : ByteArray) : wordB s = true ↔ 1 <= s.size /\ s.size <= 12 /\ lettersTo s s.size := by
 unfold wordB wordL lettersTo
 have e : s.data.toList.length = s.size := Array.length_toList
 simp only [Bool.and_eq_true, decide_eq_true_eq, e, List.all_eq_true, and_assoc]
 refine and_congr_right fun _ => and_congr_right fun _ => ⟨fun h j _ hj => ?_, fun h c hc => ?_⟩
 ·rw [<- ltrI_letter]
  exact h _ (by
   have : s[j] = s.data[j]'hj := rfl
   rw [this]
   exact Array.mem_toList_iff.2 (Array.getElem_mem _))
 ·obtain ⟨j, hj, rfl⟩ := List.getElem_of_mem hc
  rw [ltrI_letter]
  have hj' : j < s.size := by rw [<- e]; exact hj
  have := h j hj' hj'
  exact this
theorem word_no (s : ByteArray) (j : Nat) (hj : j < s.size) (h : ltrI (s[j].toNat : Int) = false) : wordB s = false := by
 cases e : wordB s
 ·rfl
 ·have := ((word_iff s).1 e).2.2 j hj hj
  rw [h] at this; cases this
theorem word_len_no (s : ByteArray) (h : ¬ (1 <= s.size /\ s.size <= 12)) : wordB s = false := by
 cases e : wordB s
 ·rfl
 ·exact absurd ⟨((word_iff s).1 e).1, ((word_iff s).1 e).2.1⟩ h
theorem fact_Word (s : ByteArray) (w : World) (hs : s.size <= maxLen) :
  Calls Tryz.prog 141 #[.string s] w fun e w' => e = .returned (.bool (wordB s)) /\ w' = w := by
 unfold maxLen at hs
 by_cases h1 : s.size < 1
 ·have e : wordB s = false := word_len_no s (by omega)
  rw [e]
  have h1' : (s.size : Int) < 1 := by omega
  clear e
  go_enter Tryz.func141, Tryz.ntmps141
  go_wp2
  go_ret
  exact ⟨rfl, rfl⟩
 ·by_cases h2 : 12 < s.size
  ·have e : wordB s = false := word_len_no s (by omega)
   rw [e]
   have h1' : ¬ (s.size : Int) < 1 := by omega
   have h2' : 12 < (s.size : Int) := by omega
   clear e
   go_enter Tryz.func141, Tryz.ntmps141
   go_wp2
   go_ret
   exact ⟨rfl, rfl⟩
  ·have h1' : ¬ (s.size : Int) < 1 := by omega
   have h2' : ¬ 12 < (s.size : Int) := by omega
   go_enter Tryz.func141, Tryz.ntmps141
   go_wp2
   go_loop [14] (fun i => ∃ k : Nat, k <= s.size /\ i = .int .i64 k /\ lettersTo s k) (fun i => s.size - (intOf i).toNat)
   case atStart => exact ⟨0, Nat.zero_le _, rfl, fun j hj => absurd hj (Nat.not_lt_zero _)⟩
   case round =>
    obtain ⟨k, hk, rfl, hl⟩ := hrel
    have HL := zh hl
    clear hl
    by_cases hlt : k < s.size
    ·have hlt' : (k : Int) < (s.size : Int) := by omega
     have HF := zh (fact_letter (s[k].toNat : Int) w)
     cases hq : ltrI (s[k].toNat : Int)
     ·rw [hq] at HF
      have e := zh (word_no s k hlt hq)
      clear hq
      go_wp2_with (go_at_call 185; refine (uh HF).mono ?_; rintro e w' ⟨rfl, rfl⟩)
      go_ret
      exact ⟨ret_bool (uh e), rfl⟩
     ·rw [hq] at HF
      have HQ := zh hq
      clear hq
      go_wp2_with (go_at_call 185; refine (uh HF).mono ?_; rintro e w' ⟨rfl, rfl⟩)
      go_round
      case rel =>
       refine ⟨k + 1, by omega, by go_num, fun j hj hjs => ?_⟩
       by_cases e : j = k
       ·subst e; exact uh HQ
       ·exact uh HL j (by omega) hjs
      case measure => simp [intOf]; omega
    ·have hlt' : ¬ (k : Int) < (s.size : Int) := by omega
     have hks : k = s.size := by omega
     have E := zh ((word_iff s).2 ⟨by omega, by omega, hks ▸ uh HL⟩)
     clear hks
     go_wp2
     go_ret
     exact ⟨ret_bool (uh E), rfl⟩
theorem fact_id (n : Int) (w : World) :
  Calls Tryz.prog 140 #[.int .i64 n] w fun e w' => e = .returned (.bool (idB n)) /\ w' = w := by
 by_cases h1 : 0 <= n
 ·by_cases h2 : n <= 1048576
  ·have e : idB n = true := by simp [idB, h1, h2]
   rw [e]
   clear e
   go_enter Tryz.func140, Tryz.ntmps140
   go_wp2
   go_ret
   exact ⟨rfl, rfl⟩
  ·have e : idB n = false := by simp [idB, h2]
   rw [e]
   clear e
   go_enter Tryz.func140, Tryz.ntmps140
   go_wp2
   go_ret
   exact ⟨rfl, rfl⟩
 ·have e : idB n = false := by simp [idB, h1]
  rw [e]
  clear e
  go_enter Tryz.func140, Tryz.ntmps140
  go_wp2
  go_ret
  exact ⟨rfl, rfl⟩
theorem dec_zero (b : Int) : decide (b = 0) = (b == 0) := by rw [Bool.eq_iff_iff]; simp
theorem fact_Key (k a : Int) (wd : ByteArray) (b : Int) (w : World) (hs : wd.size <= maxLen) :
  Calls Tryz.prog 97 #[.agg #[.int .i64 k, .int .i64 a, .string wd, .int .i64 b]] w fun e w' => e = .returned (.bool (keyB k a wd b)) /\ w' = w.alloc (.cells #[.int .i64 k, .int .i64 a, .string wd, .int .i64 b] 73) := by
 have HW := zh (fun W => fact_Word wd W hs)
 by_cases k1 : k = 1
 ·subst k1
  have e : keyB 1 a wd b = (idB a && emptyB wd && decide (b = 0)) := by simp [keyB]
  rw [e]
  clear e
  have HI := zh (fun W => fact_id a W)
  cases h1 : idB a
  ·rw [h1] at HI
   clear h1
   go_enter Tryz.func97, Tryz.ntmps97
   go_wp2_with (go_at_call 140; refine (uh HI _).mono ?_; rintro e w' ⟨rfl, rfl⟩)
   go_ret
   exact ⟨rfl, rfl⟩
  ·rw [h1] at HI
   clear h1
   by_cases h2 : wd.toList = []
   ·by_cases h3 : b = 0
    ·have h3' : (b == 0) = true := by simp [h3]
     have e : (true && emptyB wd && decide (b = 0)) = true := by simp [emptyB, h2, h3]
     rw [e]
     clear e h3
     go_enter Tryz.func97, Tryz.ntmps97
     go_wp2_with (go_at_call 140; refine (uh HI _).mono ?_; rintro e w' ⟨rfl, rfl⟩)
     go_ret
     exact ⟨rfl, rfl⟩
    ·have h3' : (b == 0) = false := by simp [h3]
     have e : (true && emptyB wd && decide (b = 0)) = false := by simp [h3]
     rw [e]
     clear e h3
     go_enter Tryz.func97, Tryz.ntmps97
     go_wp2_with (go_at_call 140; refine (uh HI _).mono ?_; rintro e w' ⟨rfl, rfl⟩)
     go_ret
     exact ⟨rfl, rfl⟩
   ·have e : (true && emptyB wd && decide (b = 0)) = false := by simp [emptyB, h2]
    rw [e]
    clear e
    go_enter Tryz.func97, Tryz.ntmps97
    go_wp2_with (go_at_call 140; refine (uh HI _).mono ?_; rintro e w' ⟨rfl, rfl⟩)
    go_ret
    exact ⟨rfl, rfl⟩
 ·have k1' : (k == 1) = false := by simp [k1]
  by_cases k2 : k = 2
  ·subst k2
   have e : keyB 2 a wd b = (idB a && idB b && wordB wd) := by simp [keyB]
   rw [e]
   clear e k1 k1'
   have HI := zh (fun W => fact_id a W)
   have HJ := zh (fun W => fact_id b W)
   generalize idB a = x at HI ⊢
   generalize idB b = y at HJ ⊢
   generalize wordB wd = z at HW ⊢
   cases x
   ·go_enter Tryz.func97, Tryz.ntmps97
    go_wp2_with fail
    refine (uh HI _).mono ?_; rintro e w' ⟨rfl, rfl⟩
    go_wp2
    go_ret
    exact ⟨rfl, rfl⟩
   ·cases y
    ·go_enter Tryz.func97, Tryz.ntmps97
     go_wp2_with fail
     refine (uh HI _).mono ?_; rintro e w' ⟨rfl, rfl⟩
     go_wp2_with fail
     refine (uh HJ _).mono ?_; rintro e w' ⟨rfl, rfl⟩
     go_wp2
     go_ret
     exact ⟨rfl, rfl⟩
    ·go_enter Tryz.func97, Tryz.ntmps97
     go_wp2_with fail
     refine (uh HI _).mono ?_; rintro e w' ⟨rfl, rfl⟩
     go_wp2_with fail
     refine (uh HJ _).mono ?_; rintro e w' ⟨rfl, rfl⟩
     go_wp2_with fail
     refine (uh HW _).mono ?_; rintro e w' ⟨rfl, rfl⟩
     go_wp2
     go_ret
     exact ⟨rfl, rfl⟩
  ·have k2' : (k == 2) = false := by simp [k2]
   by_cases k3 : k = 3
   ·subst k3
    have e : keyB 3 a wd b = (idB a && wordB wd && decide (b = 0)) := by simp [keyB]
    rw [e]
    clear e k1 k1' k2 k2'
    have HI := zh (fun W => fact_id a W)
    generalize idB a = x at HI ⊢
    generalize wordB wd = z at HW ⊢
    cases x
    ·go_enter Tryz.func97, Tryz.ntmps97
     go_wp2_with fail
     refine (uh HI _).mono ?_; rintro e w' ⟨rfl, rfl⟩
     go_wp2
     go_ret
     exact ⟨rfl, rfl⟩
    ·cases z
     ·go_enter Tryz.func97, Tryz.ntmps97
      go_wp2_with fail
      refine (uh HI _).mono ?_; rintro e w' ⟨rfl, rfl⟩
      go_wp2_with fail
      refine (uh HW _).mono ?_; rintro e w' ⟨rfl, rfl⟩
      go_wp2
      go_ret
      exact ⟨rfl, rfl⟩
     ·go_enter Tryz.func97, Tryz.ntmps97
      go_wp2_with fail
      refine (uh HI _).mono ?_; rintro e w' ⟨rfl, rfl⟩
      go_wp2_with fail
      refine (uh HW _).mono ?_; rintro e w' ⟨rfl, rfl⟩
      go_wp2
      go_ret
      exact ⟨ret_bool (by simp [dec_zero]), rfl⟩
   ·have k3' : (k == 3) = false := by simp [k3]
    have e : keyB k a wd b = false := by simp [keyB, k1, k2, k3]
    rw [e]
    clear e k1 k2 k3
    go_enter Tryz.func97, Tryz.ntmps97
    go_wp2
    go_ret
    exact ⟨rfl, rfl⟩
def opCells (o : Fop) : List Value := [.int .i64 o.kind, .int .i64 o.a, .string o.word, .int .i64 o.b, .int .i64 o.lo, .int .i64 o.hi, .string o.value]
def opV (o : Fop) : Value := .agg (opCells o).toArray
def Small (o : Fop) : Prop := o.word.size <= maxLen /\ o.value.size <= maxLen
theorem fact_Op (o : Fop) (w : World) (hs : Small o) :
  Calls Tryz.prog 134 #[opV o] w fun e w' => e = .returned (.bool (opB o)) /\ Below w.heap.size w w' := by
 obtain ⟨hs1, hs2⟩ := hs
 have HK := zh (fun W => fact_Key o.kind o.a o.word o.b W hs1)
 have HR := zh (fun W => span_Right o.lo o.hi W)
 have HW := zh (fun W => fact_Word o.value W hs2)
 unfold opB opV opCells
 clear hs1 hs2
 generalize keyB o.kind o.a o.word o.b = x at HK ⊢
 generalize rightB o.lo o.hi = y at HR ⊢
 generalize wordB o.value = z at HW ⊢
 obtain ⟨k, a, wd, b, lo, hi, vl⟩ := o
 dsimp only at *
 have H3 : Hid (Below w.heap.size w (((w.alloc (.cells #[.int .i64 k, .int .i64 a, .string wd, .int .i64 b, .int .i64 lo, .int .i64 hi, .string vl] 188)).alloc (.cells #[.int .i64 k, .int .i64 a, .string wd, .int .i64 b] 73)).alloc (.cells #[.int .i64 lo, .int .i64 hi] 79))) :=
  (((Below.refl _ _).alloc zr _).alloc (by simp) _).alloc (by simp; omega) _
 have H2 : Hid (Below w.heap.size w ((w.alloc (.cells #[.int .i64 k, .int .i64 a, .string wd, .int .i64 b, .int .i64 lo, .int .i64 hi, .string vl] 188)).alloc (.cells #[.int .i64 k, .int .i64 a, .string wd, .int .i64 b] 73))) :=
  ((Below.refl _ _).alloc zr _).alloc (by simp) _
 cases x
 ·rw [Bool.false_and, Bool.false_and]
  go_enter Tryz.func134, Tryz.ntmps134
  go_wp2_with fail
  refine (uh HK _).mono ?_; rintro e w' ⟨rfl, rfl⟩
  go_wp2
  go_ret
  exact ⟨rfl, uh H2⟩
 ·cases y
  ·rw [Bool.and_false, Bool.false_and]
   go_enter Tryz.func134, Tryz.ntmps134
   go_wp2_with fail
   refine (uh HK _).mono ?_; rintro e w' ⟨rfl, rfl⟩
   go_wp2_with fail
   refine (uh HR _).mono ?_; rintro e w' ⟨rfl, rfl⟩
   go_wp2
   go_ret
   exact ⟨rfl, uh H3⟩
  ·rw [Bool.and_true, Bool.true_and]
   by_cases h : vl.toList = []
   ·have e : (emptyB vl || z) = true := by simp [emptyB, h]
    rw [e]
    clear e
    go_enter Tryz.func134, Tryz.ntmps134
    go_wp2_with fail
    refine (uh HK _).mono ?_; rintro e w' ⟨rfl, rfl⟩
    go_wp2_with fail
    refine (uh HR _).mono ?_; rintro e w' ⟨rfl, rfl⟩
    go_wp2
    go_ret
    exact ⟨rfl, uh H3⟩
   ·go_enter Tryz.func134, Tryz.ntmps134
    go_wp2_with fail
    refine (uh HK _).mono ?_; rintro e w' ⟨rfl, rfl⟩
    go_wp2_with fail
    refine (uh HR _).mono ?_; rintro e w' ⟨rfl, rfl⟩
    go_wp2_with fail
    refine (uh HW _).mono ?_; rintro e w' ⟨rfl, rfl⟩
    go_wp2
    go_ret
    exact ⟨rfl, uh H3⟩
def Tab (w : World) : Prop := Lib.TabIs Tryz.prog w "internal/strconv.uint64pow10" .u64 Lib.pow10Tab
theorem Tab.carry {w w' : World} (h : Tab w) (hb : Below w.heap.size w w') : Tab w' := var_carry h hb
theorem itoa (n : Int) (w : World) (h0 : -9223372036854775808 <= n) (h1 : n <= 9223372036854775807) (ht : Tab w) :
  Calls Tryz.prog 11 #[.int .i64 n] w fun e w' => e = .returned (.string ⟨(Lib.itoa n).toArray⟩) /\ Below w.heap.size w w' :=
 (Tryz.strconv_Itoa n h0 h1 w ht).mono fun e w' ⟨h, k, os, hw⟩ => ⟨h, by rw [hw]; exact ⟨rfl, rfl, rfl, by simp [Go.Sort.grow, World.drewN], fun i hi => by simp [Go.Sort.grow, World.drewN, Array.getElem?_append_left hi]⟩⟩
def dashB (s : ByteArray) : ByteArray := if s.toList = [] then ⟨#[45]⟩ else s
theorem dashB_data (s : ByteArray) : (dashB s).data.toList = dashL s.data.toList := by
 unfold dashB dashL
 rw [ByteArray.toList_eq]
 split <;> simp_all
def orS : List ByteArray -> ByteArray
 | [] => ⟨#[]⟩
 | x :: l => if x.toList = [] then orS l else x
theorem orS_none (l : List ByteArray) (h : ∀ x, x ∈ l -> x.toList = []) : orS l = ⟨#[]⟩ := by
 induction l with
 | nil => rfl
 | cons x l ih => rw [orS, if_pos (h x (by simp)), ih (fun y hy => h y (by simp [hy]))]
theorem orS_at (l : List ByteArray) (k : Nat) (hk : k < l.length) (h : ∀ j, (hj : j < k) -> l[j].toList = []) (h2 : l[k].toList ≠ []) : orS l = l[k] := by
 induction l generalizing k with
 | nil => simp at hk
 | cons x l ih =>
  cases k with
  | zero => simp only [List.getElem_cons_zero] at h2 ⊢; rw [orS, if_neg h2]
  | succ k =>
   have h0 := h 0 (by omega)
   simp only [List.getElem_cons_zero] at h0
   rw [orS, if_pos h0]
   simp only [List.getElem_cons_succ] at h2 ⊢
   exact ih k (by simpa using hk) (fun j hj => by have := h (j + 1) (by omega); simpa using this) h2
theorem or_string (xs : List ByteArray) (b o c : Nat) (w : World) (hn : xs.length < 1099511627776) (hc : ∀ k, (hk : k < xs.length) -> w.cell? ⟨b, o + k, none⟩ = some (.string xs[k])) :
  Calls Tryz.prog 180 #[.slice (some ⟨b, o, none⟩) xs.length c] w fun e w' => e = .returned (.string (orS xs)) /\ w' = w := by
 have HC := zh hc
 clear hc
 go_enter Tryz.func180, Tryz.ntmps180
 go_wp2
 go_loop [8] (fun i => ∃ k : Nat, k <= xs.length /\ i = .int .i64 k /\ ∀ j, (hj : j < xs.length) -> j < k -> xs[j].toList = []) (fun i => xs.length - (intOf i).toNat)
 case atStart => exact ⟨0, Nat.zero_le _, rfl, fun j _ h => absurd h (Nat.not_lt_zero _)⟩
 case round =>
  obtain ⟨k, hk, rfl, hz⟩ := hrel
  have HZ := zh hz
  clear hz
  by_cases hlt : k < xs.length
  ·have hlt' : (k : Int) < (xs.length : Int) := by omega
   have c1 := uh HC k hlt
   have hF : ∃ y, y = xs[k] := ⟨_, rfl⟩
   obtain ⟨y, hy⟩ := hF
   have HY := zh hy
   rw [<- hy] at c1
   clear hy
   by_cases h0 : y.toList = []
   ·go_wp2
    go_round
    case rel =>
     refine ⟨k + 1, by omega, by go_num, fun j hj hjk => ?_⟩
     by_cases e : j = k
     ·subst e; rw [<- uh HY]; exact h0
     ·exact uh HZ j hj (by omega)
    case measure => simp [intOf]; omega
   ·have h0' : y.toList.isEmpty = false := by simp [h0]
    have E := zh (orS_at xs k hlt (fun j hj => uh HZ j (by omega) hj) (by rw [<- uh HY]; exact h0))
    go_wp2
    go_ret
    exact ⟨ret_string (by rw [uh E, uh HY]), rfl⟩
  ·have hlt' : ¬ (k : Int) < (xs.length : Int) := by omega
   have E := zh (orS_none xs (fun x hx => by
    obtain ⟨j, hj, rfl⟩ := List.getElem_of_mem hx
    exact uh HZ j hj (by omega)))
   go_wp2
   go_ret
   exact ⟨ret_string (uh E), rfl⟩
theorem or_dash (s : ByteArray) (b c : Nat) (w : World) (h0 : w.cell? ⟨b, 0, none⟩ = some (.string s)) (h1 : w.cell? ⟨b, 1, none⟩ = some (.string ⟨#[45]⟩)) :
  Calls Tryz.prog 180 #[.slice (some ⟨b, 0, none⟩) 2 c] w fun e w' => e = .returned (.string (dashB s)) /\ w' = w := by
 have h := or_string [s, ⟨#[45]⟩] b 0 c w (by simp) (fun k hk => by
  have hk' : k < 2 := hk
  rcases k with _ | _ | k
  ·exact h0
  ·exact h1
  ·omega)
 have e : orS [s, ⟨#[45]⟩] = dashB s := by
  unfold dashB
  rw [orS, orS]
  split
  ·rw [if_neg (by rw [ByteArray.toList_eq]; simp)]
  ·rfl
 rw [e] at h
 exact h
theorem num5_0 (a b c d e : Int) (w : World) : (Instr.index 245 (.agg #[.int .i64 a, .int .i64 b, .int .i64 c, .int .i64 d, .int .i64 e]) (.int .i64 0)).run Tryz.prog w = .ok (.int .i64 a) w := by kernel_rfl
theorem num5_1 (a b c d e : Int) (w : World) : (Instr.index 245 (.agg #[.int .i64 a, .int .i64 b, .int .i64 c, .int .i64 d, .int .i64 e]) (.int .i64 1)).run Tryz.prog w = .ok (.int .i64 b) w := by kernel_rfl
theorem num5_2 (a b c d e : Int) (w : World) : (Instr.index 245 (.agg #[.int .i64 a, .int .i64 b, .int .i64 c, .int .i64 d, .int .i64 e]) (.int .i64 2)).run Tryz.prog w = .ok (.int .i64 c) w := by kernel_rfl
theorem num5_3 (a b c d e : Int) (w : World) : (Instr.index 245 (.agg #[.int .i64 a, .int .i64 b, .int .i64 c, .int .i64 d, .int .i64 e]) (.int .i64 3)).run Tryz.prog w = .ok (.int .i64 d) w := by kernel_rfl
theorem num5_4 (a b c d e : Int) (w : World) : (Instr.index 245 (.agg #[.int .i64 a, .int .i64 b, .int .i64 c, .int .i64 d, .int .i64 e]) (.int .i64 4)).run Tryz.prog w = .ok (.int .i64 e) w := by kernel_rfl
def tcell (ns : List Int) (k j : Nat) : Value := .string (if j < k then ⟨(Lib.itoa (ns.getD j 0)).toArray⟩ else ⟨#[]⟩)
def numsOf (o : Fop) : List Int := [o.kind, o.a, o.b, o.lo, o.hi]
def WrInv (w : World) (o : Fop) (k : Nat) (x : World) : Prop :=
 Below w.heap.size w x /\ x.cell? ⟨w.heap.size, 2, none⟩ = some (.string o.word) /\ x.cell? ⟨w.heap.size, 6, none⟩ = some (.string o.value) /\
 (∀ j, j < 5 -> x.cell? ⟨w.heap.size + 1 + 1, j, none⟩ = some (tcell (numsOf o) k j) /\ x.frozen? ⟨w.heap.size + 1 + 1, j, none⟩ = false)
theorem WrInv.carry {w : World} {o : Fop} {k : Nat} {x y : World} (h : WrInv w o k x) (hb : Below x.heap.size x y) : WrInv w o k y := by
 obtain ⟨h1, h2, h3, h4⟩ := h
 refine ⟨h1.trans (hb.mono h1.size), (hb.cell (lt_of_cell h2)).trans h2, (hb.cell (lt_of_cell h3)).trans h3, fun j hj => ?_⟩
 obtain ⟨c, f⟩ := h4 j hj
 exact ⟨(hb.cell (lt_of_cell c)).trans c, (hb.frozen (lt_of_cell c)).trans f⟩
theorem WrInv.step {w : World} {o : Fop} {k : Nat} {x : World} (h : WrInv w o k x) (hk : k < 5) : WrInv w o (k + 1) (x.setCell ⟨w.heap.size + 1 + 1, k, none⟩ (.string ⟨(Lib.itoa ((numsOf o).getD k 0)).toArray⟩)) := by
 obtain ⟨h1, h2, h3, h4⟩ := h
 refine ⟨h1.setCell (by simp; omega) _, ?_, ?_, fun j hj => ?_⟩
 ·rw [zo]
  ·exact h2
  ·simp
 ·rw [zo]
  ·exact h3
  ·simp
 ·rw [World.frozen?_setCell]
  refine ⟨?_, (h4 j hj).2⟩
  by_cases e : j = k
  ·subst e
   rw [World.cell?_setCell_same' _ _ _ (by rw [(h4 j hj).1]; rfl)]
   simp [tcell]
  ·rw [zo _ _ _ _ (fun h => e (by simpa using h.symm)), (h4 j hj).1]
   unfold tcell
   congr 2
   by_cases hj : j < k
   ·simp [hj, Nat.lt_succ_of_lt hj]
   ·have : ¬ j < k + 1 := by omega
    simp [hj, this]
theorem seven_cells (W : World) (n : Nat) (hn : n = W.heap.size) (a b c d e f g : ByteArray) (j : Nat) (x : ByteArray) (h : [a, b, c, d, e, f, g][j]? = some x) : (W.alloc (.cells #[.string a, .string b, .string c, .string d, .string e, .string f, .string g] 9)).cell? ⟨n, 0 + j, none⟩ = some (.string x) := by
 subst hn
 rcases j with _ | _ | _ | _ | _ | _ | _ | j
 all_goals (simp at h; try (subst h; simp))
theorem fields_map (o : Fop) : ([⟨(Lib.itoa o.kind).toArray⟩, ⟨(Lib.itoa o.a).toArray⟩, dashB o.word, ⟨(Lib.itoa o.b).toArray⟩, ⟨(Lib.itoa o.lo).toArray⟩, ⟨(Lib.itoa o.hi).toArray⟩, dashB o.value] : List ByteArray).map (·.data.toList) = fieldsL o := by
 simp [fieldsL, dashB_data]
def WrHeld (w : World) (o : Fop) (x : World) : Prop :=
 (x.cell? ⟨w.heap.size, 2, none⟩ = some (.string o.word) /\ x.cell? ⟨w.heap.size, 6, none⟩ = some (.string o.value)) /\
 x.cell? ⟨w.heap.size + 1 + 1, 0, none⟩ = some (.string ⟨(Lib.itoa o.kind).toArray⟩) /\ x.cell? ⟨w.heap.size + 1 + 1, 1, none⟩ = some (.string ⟨(Lib.itoa o.a).toArray⟩) /\ x.cell? ⟨w.heap.size + 1 + 1, 2, none⟩ = some (.string ⟨(Lib.itoa o.b).toArray⟩) /\
 x.cell? ⟨w.heap.size + 1 + 1, 3, none⟩ = some (.string ⟨(Lib.itoa o.lo).toArray⟩) /\ x.cell? ⟨w.heap.size + 1 + 1, 4, none⟩ = some (.string ⟨(Lib.itoa o.hi).toArray⟩) /\ Below w.heap.size w x
theorem WrHeld.carry {w : World} {o : Fop} {x y : World} (h : WrHeld w o x) (hb : Below x.heap.size x y) : WrHeld w o y := by
 obtain ⟨⟨h1, h2⟩, h3, h4, h5, h6, h7, h8⟩ := h
 have t : ∀ {a : Addr} {v : Value}, x.cell? a = some v -> y.cell? a = some v := fun {a v} e => (hb.cell (p := a) (lt_of_cell e)).trans e
 exact ⟨⟨t h1, t h2⟩, t h3, t h4, t h5, t h6, t h7, h8.trans (hb.mono h8.size)⟩
theorem WrInv.held {w : World} {o : Fop} {x : World} (h : WrInv w o 5 x) : WrHeld w o x := by
 obtain ⟨h1, h2, h3, h4⟩ := h
 exact ⟨⟨h2, h3⟩, (h4 0 (by omega)).1, (h4 1 (by omega)).1, (h4 2 (by omega)).1, (h4 3 (by omega)).1, (h4 4 (by omega)).1, h1⟩
theorem fact_write (o : Fop) (w : World) (ho : opB o = true) (ht : Tab w) :
    Calls Tryz.prog 135 #[opV o] w fun e w' => e = .returned (.string ⟨(opL o).toArray⟩) /\ Below w.heap.size w w' := by
  have hp := op_parts o ho
  have HB : Hid (∀ j, j < 5 -> -9223372036854775808 <= (numsOf o).getD j 0 /\ (numsOf o).getD j 0 <= 9223372036854775807) := by
    intro j hj
    rcases j with _ | _ | _ | _ | _ | j
    all_goals (simp [numsOf]; try omega)
  have HL := zh (wr_length o ho)
  have HT := zh ht
  clear hp ho ht
  have HI : Hid (WrInv w o 0 (((w.alloc (.cells #[.int .i64 o.kind, .int .i64 o.a, .string o.word, .int .i64 o.b, .int .i64 o.lo, .int .i64 o.hi, .string o.value] 188)).alloc (.cells #[.int .i64 o.kind, .int .i64 o.a, .int .i64 o.b, .int .i64 o.lo, .int .i64 o.hi] 245)).alloc (.cells #[.string ⟨#[]⟩, .string ⟨#[]⟩, .string ⟨#[]⟩, .string ⟨#[]⟩, .string ⟨#[]⟩] 246))) := by
    unfold Hid WrInv
    refine ⟨(((Below.refl _ _).alloc zr _).alloc (by simp) _).alloc (by simp; omega) _, by simp [go_sem], by simp [go_sem], fun j hj => ?_⟩
    rcases j with _ | _ | _ | _ | _ | j
    all_goals (first | (simp [tcell, go_sem]; done) | omega)
  unfold opV opCells
  go_enter Tryz.func135, Tryz.ntmps135
  go_wp2
  generalize (((w.alloc (.cells #[.int .i64 o.kind, .int .i64 o.a, .string o.word, .int .i64 o.b, .int .i64 o.lo, .int .i64 o.hi, .string o.value] 188)).alloc (.cells #[.int .i64 o.kind, .int .i64 o.a, .int .i64 o.b, .int .i64 o.lo, .int .i64 o.hi] 245)).alloc (.cells #[.string ⟨#[]⟩, .string ⟨#[]⟩, .string ⟨#[]⟩, .string ⟨#[]⟩, .string ⟨#[]⟩] 246)) = W at HI ⊢
  go_loopw [24] (fun i x => ∃ k : Nat, k <= 5 /\ i = .int .i64 k /\ WrInv w o k x) (fun i _ => 5 - (intOf i).toNat)
  case atStart => exact ⟨0, Nat.zero_le _, rfl, uh HI⟩
  case round =>
    obtain ⟨k, hk, rfl, hinv⟩ := hrel
    by_cases hlt : k < 5
    · have HN := zh hinv
      clear hinv
      have hk5 : k = 0 \/ k = 1 \/ k = 2 \/ k = 3 \/ k = 4 := by omega
      rcases hk5 with rfl | rfl | rfl | rfl | rfl
      · have ix := fun W => num5_0 o.kind o.a o.b o.lo o.hi W
        have HC := zh (itoa o.kind wr (uh HB 0 (by omega)).1 (uh HB 0 (by omega)).2 ((uh HT).carry (uh HN).1))
        go_wp2_with fail
        refine (uh HC).mono ?_
        rintro e w1 ⟨rfl, b1⟩
        have h1 := (uh HN).carry b1
        have c1 := (h1.2.2.2 0 (by omega)).1
        have f1 := (h1.2.2.2 0 (by omega)).2
        have H2 := zh (h1.step (by omega))
        clear h1 b1
        go_wp2
        exact ⟨⟨1, by omega, rfl, uh H2⟩, by simp [intOf]⟩
      · have ix := fun W => num5_1 o.kind o.a o.b o.lo o.hi W
        have HC := zh (itoa o.a wr (uh HB 1 (by omega)).1 (uh HB 1 (by omega)).2 ((uh HT).carry (uh HN).1))
        go_wp2_with fail
        refine (uh HC).mono ?_
        rintro e w1 ⟨rfl, b1⟩
        have h1 := (uh HN).carry b1
        have c1 := (h1.2.2.2 1 (by omega)).1
        have f1 := (h1.2.2.2 1 (by omega)).2
        have H2 := zh (h1.step (by omega))
        clear h1 b1
        go_wp2
        exact ⟨⟨2, by omega, rfl, uh H2⟩, by simp [intOf]⟩
      · have ix := fun W => num5_2 o.kind o.a o.b o.lo o.hi W
        have HC := zh (itoa o.b wr (uh HB 2 (by omega)).1 (uh HB 2 (by omega)).2 ((uh HT).carry (uh HN).1))
        go_wp2_with fail
        refine (uh HC).mono ?_
        rintro e w1 ⟨rfl, b1⟩
        have h1 := (uh HN).carry b1
        have c1 := (h1.2.2.2 2 (by omega)).1
        have f1 := (h1.2.2.2 2 (by omega)).2
        have H2 := zh (h1.step (by omega))
        clear h1 b1
        go_wp2
        exact ⟨⟨3, by omega, rfl, uh H2⟩, by simp [intOf]⟩
      · have ix := fun W => num5_3 o.kind o.a o.b o.lo o.hi W
        have HC := zh (itoa o.lo wr (uh HB 3 (by omega)).1 (uh HB 3 (by omega)).2 ((uh HT).carry (uh HN).1))
        go_wp2_with fail
        refine (uh HC).mono ?_
        rintro e w1 ⟨rfl, b1⟩
        have h1 := (uh HN).carry b1
        have c1 := (h1.2.2.2 3 (by omega)).1
        have f1 := (h1.2.2.2 3 (by omega)).2
        have H2 := zh (h1.step (by omega))
        clear h1 b1
        go_wp2
        exact ⟨⟨4, by omega, rfl, uh H2⟩, by simp [intOf]⟩
      · have ix := fun W => num5_4 o.kind o.a o.b o.lo o.hi W
        have HC := zh (itoa o.hi wr (uh HB 4 (by omega)).1 (uh HB 4 (by omega)).2 ((uh HT).carry (uh HN).1))
        go_wp2_with fail
        refine (uh HC).mono ?_
        rintro e w1 ⟨rfl, b1⟩
        have h1 := (uh HN).carry b1
        have c1 := (h1.2.2.2 4 (by omega)).1
        have f1 := (h1.2.2.2 4 (by omega)).2
        have H2 := zh (h1.step (by omega))
        clear h1 b1
        go_wp2
        exact ⟨⟨5, by omega, rfl, uh H2⟩, by simp [intOf]⟩
    · have hk5 : k = 5 := by omega
      subst hk5
      have HH := zh hinv.held
      clear hinv hlt hk HI HB
      go_wp2
      go_region_held3 (fun x => (x.cell? ⟨w.heap.size, 2, none⟩ = some (.string o.word) /\ x.cell? ⟨w.heap.size, 6, none⟩ = some (.string o.value)) /\
  x.cell? ⟨w.heap.size + 1 + 1, 0, none⟩ = some (.string ⟨(Lib.itoa o.kind).toArray⟩) /\ x.cell? ⟨w.heap.size + 1 + 1, 1, none⟩ = some (.string ⟨(Lib.itoa o.a).toArray⟩) /\ x.cell? ⟨w.heap.size + 1 + 1, 2, none⟩ = some (.string ⟨(Lib.itoa o.b).toArray⟩) /\
  x.cell? ⟨w.heap.size + 1 + 1, 3, none⟩ = some (.string ⟨(Lib.itoa o.lo).toArray⟩) /\ x.cell? ⟨w.heap.size + 1 + 1, 4, none⟩ = some (.string ⟨(Lib.itoa o.hi).toArray⟩) /\ Below w.heap.size w x)
        (first | exact WrHeld.carry (uh HH) (below_drew _) | (refine WrHeld.carry (by assumption) ?_; exact below_box _ _) | (refine WrHeld.carry (by assumption) ?_; assumption) | assumption)
        (first
          | (go_at_call 180; refine (or_dash _ _ _ _ (by simp [go_sem]; rfl) (by simp [go_sem])).mono ?_; rintro e w1 ⟨rfl, rfl⟩)
          | (go_at_call 50; refine (Tryz.strings_Join _ 0 _ [⟨(Lib.itoa o.kind).toArray⟩, ⟨(Lib.itoa o.a).toArray⟩, dashB o.word, ⟨(Lib.itoa o.b).toArray⟩, ⟨(Lib.itoa o.lo).toArray⟩, ⟨(Lib.itoa o.hi).toArray⟩, dashB o.value] _ _ (by exact seven_cells _ _ (by simp) _ _ _ _ _ _ _) (by simp) (by simp) (by simp) (by rw [fields_map]; exact Nat.le_trans (uh HL) (by decide))).mono ?_; rintro e w1 ⟨rfl, b1⟩))
      all_goals
        rename_i hh
        have HF := zh hh.2.2.2.2.2.2
        clear hh b1
        go_wp2
        go_ret
        refine ⟨ret_string ?_, uh HF⟩
        unfold opL
        rw [<- fields_map]
        simp
def OpsAt (w : World) (b off : Nat) (l : List Fop) : Prop :=
 b < w.heap.size /\ ∀ k, (hk : k < l.length) -> (w.cell? ⟨b, off + k * 7, none⟩ = some (.int .i64 l[k].kind) /\ w.cell? ⟨b, off + k * 7 + 1, none⟩ = some (.int .i64 l[k].a) /\ w.cell? ⟨b, off + k * 7 + 2, none⟩ = some (.string l[k].word) /\ w.cell? ⟨b, off + k * 7 + 3, none⟩ = some (.int .i64 l[k].b) /\
  w.cell? ⟨b, off + k * 7 + 4, none⟩ = some (.int .i64 l[k].lo) /\ w.cell? ⟨b, off + k * 7 + 5, none⟩ = some (.int .i64 l[k].hi) /\ w.cell? ⟨b, off + k * 7 + 6, none⟩ = some (.string l[k].value))
theorem OpsAt.carry {w w' : World} {b off : Nat} {l : List Fop} (h : OpsAt w b off l) (hb : Below w.heap.size w w') : OpsAt w' b off l := by
 obtain ⟨h1, h2⟩ := h
 refine ⟨Nat.lt_of_lt_of_le h1 hb.size, fun k hk => ?_⟩
 obtain ⟨c0, c1, c2, c3, c4, c5, c6⟩ := h2 k hk
 have t : ∀ {o : Nat} {v : Value}, w.cell? ⟨b, o, none⟩ = some v -> w'.cell? ⟨b, o, none⟩ = some v := fun {o v} e => (hb.cell (p := ⟨b, o, none⟩) h1).trans e
 exact ⟨t c0, t c1, t c2, t c3, t c4, t c5, t c6⟩
def ReadsOps (w : World) (v : Value) (l : List Fop) : Prop :=
 ∃ ad cap, v = .slice ad l.length cap /\ (l = [] \/ ∃ b off, ad = some ⟨b, off, none⟩ /\ OpsAt w b off l)
theorem ReadsOps.carry {w w' : World} {v : Value} {l : List Fop} (h : ReadsOps w v l) (hb : Below w.heap.size w w') : ReadsOps w' v l := by
 obtain ⟨ad, cap, hv, h⟩ := h
 refine ⟨ad, cap, hv, ?_⟩
 rcases h with h | ⟨b, off, ha, h⟩
 ·exact Or.inl h
 ·exact Or.inr ⟨b, off, ha, h.carry hb⟩
def FirstBad (l : List Fop) (i : Nat) : Prop := ∃ h : i < l.length, opB l[i] = false /\ ∀ j, (hj : j < i) -> opB l[j] = true
theorem first_bad : ∀ (l : List Fop), (∀ x, x ∈ l -> opB x = true) \/ ∃ i, FirstBad l i
 | [] => Or.inl (by simp)
 | x :: l => by
   cases hx : opB x
   ·exact Or.inr ⟨0, by simp, by simpa using hx, fun j hj => absurd hj (Nat.not_lt_zero _)⟩
   ·rcases first_bad l with h | ⟨i, h1, h2, h3⟩
    ·left
     intro y hy
     rcases List.mem_cons.1 hy with rfl | hy
     ·exact hx
     ·exact h y hy
    ·refine Or.inr ⟨i + 1, by simpa using h1, by simpa using h2, fun j hj => ?_⟩
     cases j with
     | zero => simpa using hx
     | succ j => simpa using h3 j (by omega)
theorem write_wrong (o : Fop) (w : World) (hs : Small o) :
  Calls Tryz.prog 133 #[opV o] w fun e w' => e = .returned (.bool (!opB o)) /\ Below w.heap.size w w' := by
 have HO := zh (fun W => fact_Op o W hs)
 unfold opV opCells at *
 generalize opB o = x at HO ⊢
 go_enter Tryz.func133, Tryz.ntmps133
 go_wp2_with fail
 refine (uh HO _).mono ?_
 rintro e w1 ⟨rfl, b1⟩
 have HB : Hid (Below w.heap.size w w1) := ((Below.refl _ _).alloc zr _).trans (b1.mono (by simp))
 clear b1
 go_wp2
 go_ret
 exact ⟨rfl, uh HB⟩
theorem index_none (l : List Fop) (b off cap : Nat) (w : World) (hn : l.length < 1099511627776) (hs : ∀ x, x ∈ l -> Small x) (h : OpsAt w b off l) (hok : ∀ x, x ∈ l -> opB x = true) :
  Calls Tryz.prog 132 #[.slice (some ⟨b, off, none⟩) l.length cap, .func (.func 133) #[] #[]] w fun e w' => e = .returned (.int .i64 (-1)) /\ Below w.heap.size w w' := by
 have eg : ∀ args w, (callFunc 133 args).run Tryz.prog w = .ok (.enter 133 args) w := enters_of Tryz.func133 (by kernel_rfl) rfl
 have H := zh h
 have HS := zh hs
 have HK := zh hok
 clear h hs hok
 go_enter Tryz.func132, Tryz.ntmps132
 go_wp2
 go_loopw [8] (fun i x => ∃ k : Nat, k <= l.length /\ i = .int .i64 k /\ Below w.heap.size w x) (fun i _ => l.length - (intOf i).toNat)
 case atStart => exact ⟨0, Nat.zero_le _, rfl, Below.refl _ _⟩
 case round =>
  obtain ⟨k, hk, rfl, hb⟩ := hrel
  by_cases hlt : k < l.length
  ·have hlt' : (k : Int) < (l.length : Int) := by omega
   obtain ⟨c0, c1, c2, c3, c4, c5, c6⟩ := ((uh H).carry hb).2 k hlt
   have HC := zh (write_wrong l[k] wr (uh HS _ (List.getElem_mem hlt)))
   have hkk := uh HK _ (List.getElem_mem hlt)
   unfold opV opCells at HC
   rw [hkk] at HC
   have HB := zh hb
   clear hkk hb
   generalize l[k] = o at *
   go_wp2_with (go_at_fn 133; refine (uh HC).mono ?_; rintro e w1 ⟨rfl, b1⟩)
   go_roundw
   case rel => exact ⟨k + 1, by omega, by go_num, (uh HB).trans (b1.mono (uh HB).size)⟩
   case measure => simp [intOf]; omega
  ·have hlt' : ¬ (k : Int) < (l.length : Int) := by omega
   go_wp2
   go_ret
   exact ⟨rfl, hb⟩
theorem index_bad (l : List Fop) (i0 b off cap : Nat) (w : World) (hn : l.length < 1099511627776) (hs : ∀ x, x ∈ l -> Small x) (h : OpsAt w b off l) (hbad : FirstBad l i0) :
  Calls Tryz.prog 132 #[.slice (some ⟨b, off, none⟩) l.length cap, .func (.func 133) #[] #[]] w fun e w' => e = .returned (.int .i64 i0) /\ Below w.heap.size w w' := by
 have eg : ∀ args w, (callFunc 133 args).run Tryz.prog w = .ok (.enter 133 args) w := enters_of Tryz.func133 (by kernel_rfl) rfl
 obtain ⟨hi0, hb1, hb2⟩ := hbad
 have H := zh h
 have HS := zh hs
 have H1 := zh hb1
 have H2 := zh hb2
 clear h hs hb1 hb2
 go_enter Tryz.func132, Tryz.ntmps132
 go_wp2
 go_loopw [8] (fun i x => ∃ k : Nat, k <= i0 /\ i = .int .i64 k /\ Below w.heap.size w x) (fun i _ => l.length - (intOf i).toNat)
 case atStart => exact ⟨0, Nat.zero_le _, rfl, Below.refl _ _⟩
 case round =>
  obtain ⟨k, hk, rfl, hb⟩ := hrel
  have hlt : k < l.length := by omega
  have hlt' : (k : Int) < (l.length : Int) := by omega
  obtain ⟨c0, c1, c2, c3, c4, c5, c6⟩ := ((uh H).carry hb).2 k hlt
  have HC := zh (write_wrong l[k] wr (uh HS _ (List.getElem_mem hlt)))
  unfold opV opCells at HC
  have HB := zh hb
  clear hb
  by_cases hki : k = i0
  ·subst hki
   rw [uh H1] at HC
   clear H1 H2
   generalize l[k] = o at *
   go_wp2_with (go_at_fn 133; refine (uh HC).mono ?_; rintro e w1 ⟨rfl, b1⟩)
   go_ret
   exact ⟨rfl, (uh HB).trans (b1.mono (uh HB).size)⟩
  ·rw [uh H2 k (by omega)] at HC
   clear H1 H2
   generalize l[k] = o at *
   go_wp2_with (go_at_fn 133; refine (uh HC).mono ?_; rintro e w1 ⟨rfl, b1⟩)
   go_roundw
   case rel => exact ⟨k + 1, by omega, by go_num, (uh HB).trans (b1.mono (uh HB).size)⟩
   case measure => simp [intOf]; omega
def AtErr (w' : World) (n i : Int) (v : Value) : Prop :=
 ∃ b, v = .iface 190 (.pointer (some ⟨b, 0, none⟩)) /\ w'.cell? ⟨b, 0, none⟩ = some (.int .i64 n) /\ w'.cell? ⟨b, 1, none⟩ = some (.int .i64 i)
theorem write_limit (l : List Fop) (v : Value) (w : World) (hn : l.length < 1099511627776) (h : ReadsOps w v l) (hl : ¬ (1 <= l.length /\ l.length <= 8)) :
  Calls Tryz.prog 91 #[v] w fun e w' => e = .returned (.tuple #[.string ⟨#[]⟩, .iface 25 (.int .i64 4)]) /\ w' = w := by
 obtain ⟨ad, cap, rfl, h⟩ := h
 clear h
 by_cases h1 : l.length < 1
 ·have h1' : (l.length : Int) < 1 := by omega
  go_enter Tryz.func91, Tryz.ntmps91
  go_wp2
  go_ret2
  exact ⟨rfl, rfl⟩
 ·have h1' : ¬ (l.length : Int) < 1 := by omega
  have h2' : 8 < (l.length : Int) := by omega
  go_enter Tryz.func91, Tryz.ntmps91
  go_wp2
  go_ret2
  exact ⟨rfl, rfl⟩
theorem write_bad (l : List Fop) (i0 : Nat) (v : Value) (w : World) (hs : ∀ x, x ∈ l -> Small x) (h : ReadsOps w v l) (hl : 1 <= l.length /\ l.length <= 8) (hbad : FirstBad l i0) :
  Calls Tryz.prog 91 #[v] w fun e w' => ∃ u, e = .returned (.tuple #[.string ⟨#[]⟩, u]) /\ AtErr w' 1 i0 u /\ Below w.heap.size w w' := by
 obtain ⟨ad, cap, rfl, h⟩ := h
 rcases h with rfl | ⟨b, off, rfl, h⟩
 ·simp at hl
 ·have HC := zh (index_bad l i0 b off cap w (by omega) hs h hbad)
  have h1' : ¬ (l.length : Int) < 1 := by omega
  have h2' : ¬ 8 < (l.length : Int) := by omega
  have h3 : (0 : Int) <= (i0 : Int) := by omega
  clear h hs hbad
  go_enter Tryz.func91, Tryz.ntmps91
  go_wp2_with fail
  refine (uh HC).mono ?_
  rintro e w1 ⟨rfl, b1⟩
  have HB := zh (b1.alloc b1.size (.cells #[.int .i64 1, .int .i64 i0] 192))
  clear b1
  go_wp2
  go_ret2
  refine ⟨_, rfl, ⟨w1.heap.size, rfl, ?_, ?_⟩, uh HB⟩
  ·simp
  ·simp
theorem info_string : (Tryz.prog.info? 9).map (fun i => (i.zero, i.size, i.bytes)) = some (some (.string ⟨#[]⟩), 1, 16) := by kernel_rfl
theorem wpList_appS (w : World) {ops : Array Oper} {rest : List Oper} {o : Oper} {a : Act} {Q : Exit -> Act -> World -> Prop} (hgd : o.guard = none) (s x : Operand)
  (ho : o.op = .call { callee := .builtin .append, args := #[s, x], argTypes := #[55, 55] })
  (base : Nat) (v : Value) (l : List ByteArray) (hs : a.eval s = v) (hown : w.ownsRow base 9 1 v l.length (l.map Value.string))
  (b : Nat) (y : ByteArray) (hx : a.eval x = .slice (some ⟨b, 0, none⟩) 1 1) (hc0 : w.cell? ⟨b, 0, none⟩ = some (.string y))
  (hlen : l.length < 1099511627776) (hbase : base <= w.heap.size)
  (h : ∀ v' w', w'.ownsRow base 9 1 v' (l ++ [y]).length ((l ++ [y]).map Value.string) -> w.grownBy w' v.ownBlock -> wpList Tryz.prog ops Q rest (a.put o.dst v') w') : wpList Tryz.prog ops Q (o :: rest) a w := by
 obtain ⟨i0, hi0, hz0, hz1, hz2⟩ := info_parts info_string
 refine wpList_append_own w hgd s x 55 ho base 9 i0 (.string ⟨#[]⟩) 1 16 Tryz.underlying55 hi0 hz0 hz1 hz2 rfl (by decide) v l.length (l.map Value.string) hs hown ⟨b, 0, none⟩ 1 1 [.string y] hx rfl ?_ ?_ ?_ ?_ hbase ?_
 ·intro j u hj
  match j, hj with
  | 0, hj => simp at hj; subst hj; simpa [Addr.add] using hc0
 ·intro u hu
  simp at hu
  subst hu; rfl
 ·unfold maxLen; omega
 ·omega
 ·intro v' w' k1 k2 _
  refine h v' w' ?_ k2
  simpa using k1
theorem own_cells {w : World} {base : Nat} {v : Value} {l : List ByteArray} (h : w.ownsRow base 9 1 v l.length (l.map Value.string)) (hl : l ≠ []) :
  ∃ g cap, v = .slice (some ⟨g, 0, none⟩) l.length cap /\ l.length <= cap /\ g < w.heap.size /\ ∀ j x, l[j]? = some x -> w.cell? ⟨g, 0 + j, none⟩ = some (.string x) := by
 obtain ⟨_, h2⟩ := h
 rcases h2 with ⟨_, h2⟩ | ⟨g, cap, cur, hv, hg, hh, h3, h4, h5, h6⟩
 ·exact absurd (List.eq_nil_of_length_eq_zero h2) hl
 ·refine ⟨g, cap, hv, h3, ?_, fun j x hj => ?_⟩
  ·rcases Nat.lt_or_ge g w.heap.size with k | k
   ·exact k
   ·rw [Array.getElem?_eq_none k] at hh; cases hh
  ·have hjl : j < l.length := by
    rcases Nat.lt_or_ge j l.length with k | k
    ·exact k
    ·rw [List.getElem?_eq_none k] at hj; cases hj
   have hc : cur.toList[j]? = some (.string x) := by
    rw [<- List.getElem?_take_of_lt (show j < l.length * 1 by omega), h6, List.getElem?_map, hj]; rfl
   unfold World.cell?
   simp only [hh]
   rw [Nat.zero_add, <- Array.getElem?_toList]
   exact hc
def txt (o : Fop) : ByteArray := ⟨(opL o).toArray⟩
theorem txt_data (l : List Fop) : (l.map txt).map (·.data.toList) = l.map opL := by
 rw [List.map_map]; rfl
theorem append_step {w wr w2 wn : World} {B n : Nat} {v : Value} {l : List ByteArray} {y : ByteArray} {t : TypeId} (hB : B <= wr.heap.size) (hb : Below B w wr) (b2 : Below n wr w2) (hn : B <= n) (hown : wr.ownsRow B 9 1 v l.length (l.map Value.string))
  (hg : (w2.alloc (.cells #[.string y] t)).grownBy wn v.ownBlock) : Below B w wn :=
 ((hb.trans (b2.mono hn)).alloc (Nat.le_trans hB b2.size) _).grown hg (by have := b2.size; simp; omega) (fun k hk => (hown.lt k hk).1)
theorem write_ok (l : List Fop) (v : Value) (w : World) (hs : ∀ x, x ∈ l -> Small x) (h : ReadsOps w v l) (hl : okL l) (ht : Tab w) :
  Calls Tryz.prog 91 #[v] w fun e w' => e = .returned (.tuple #[.string ⟨(opsL l).toArray⟩, .nilIface]) /\ Below w.heap.size w w' := by
 obtain ⟨hl1, hl2, hl3⟩ := hl
 obtain ⟨ad, cap, rfl, h⟩ := h
 rcases h with rfl | ⟨b, off, rfl, h⟩
 ·simp at hl1
 ·have HC := zh (index_none l b off cap w (by omega) hs h hl3)
  have h1' : ¬ (l.length : Int) < 1 := by omega
  have h2' : ¬ 8 < (l.length : Int) := by omega
  have H := zh h
  have HT := zh ht
  have H3 := zh hl3
  clear h hs hl3 ht
  go_enter Tryz.func91, Tryz.ntmps91
  go_wp2_with fail
  refine (uh HC).mono ?_
  rintro e w1 ⟨rfl, b1⟩
  have HB1 := zh b1
  clear b1
  go_wp2
  go_loopw [5, 27] (fun t i x => ∃ k : Nat, k <= l.length /\ i = .int .i64 k /\ x.ownsRow w.heap.size 9 1 t ((l.take k).map txt).length (((l.take k).map txt).map Value.string) /\ Below w.heap.size w x) (fun _ i _ => l.length - (intOf i).toNat)
  case atStart => exact ⟨0, Nat.zero_le _, rfl, by simpa using World.ownsRow_nil _ _ _ _, uh HB1⟩
  case round =>
   obtain ⟨k, hk, rfl, hown, hb⟩ := hrel
   by_cases hlt : k < l.length
   ·have hlt' : (k : Int) < (l.length : Int) := by omega
    obtain ⟨c0, c1, c2, c3, c4, c5, c6⟩ := ((uh H).carry hb).2 k hlt
    have hko := uh H3 _ (List.getElem_mem hlt)
    have hz := hb.size
    have HW := zh (fun o => fact_write l[k] (wr.alloc o) hko ((uh HT).carry (hb.alloc hz o)))
    unfold opV opCells at HW
    have htk : l.take (k + 1) = l.take k ++ [l[k]] := List.take_succ_eq_append_getElem hlt
    have HK : Hid ((l.take (k + 1)).map txt = (l.take k).map txt ++ [⟨(opL l[k]).toArray⟩]) := by unfold Hid; rw [htk, List.map_append]; rfl
    have hlk : ((l.take k).map txt).length < 1099511627776 := by simp; omega
    have HB := zh hb
    have HO := zh hown
    clear hb hown htk hko H HC HT H3 HB1
    have hF1 : ∃ F, F = (l.take k).map txt := ⟨_, rfl⟩
    obtain ⟨F, hF⟩ := hF1
    rw [<- hF] at HO HK hlk
    clear hF
    generalize l[k] = o at *
    go_wp2_with fail
    refine (uh HW _).mono ?_
    rintro e w2 ⟨rfl, b2⟩
    have hz2 := b2.size
    simp at hz2
    have B2 : Hid (Below wr.heap.size wr w2) := ((Below.refl _ _).alloc zr _).trans (b2.mono (by simp))
    have O2 := zh (ownsRow_carry (uh HO) (uh B2))
    clear b2 HW
    go_wp2_with (at_builtin; refine wpList_appS _ rfl (.tmp 31) (.tmp 34) rfl w.heap.size _ F rfl ((uh O2).alloc _) w2.heap.size ⟨(opL o).toArray⟩ rfl ?d0 hlk ?d3 ?_)
    case d0 => simp
    case d3 => simp; omega
    intro v' wn k1 k2
    have HBN := zh (append_step hz (uh HB) (uh B2) hz (uh HO) k2)
    have HON : Hid (wn.ownsRow w.heap.size 9 1 v' ((l.take (k + 1)).map txt).length (((l.take (k + 1)).map txt).map Value.string)) := by unfold Hid; rw [uh HK]; simpa using k1
    clear k1 k2
    go_wp2
    go_roundw
    case rel => exact ⟨k + 1, by omega, by go_num, uh HON, uh HBN⟩
    case measure => simp [intOf]; omega
   ·have hlt' : ¬ (k : Int) < (l.length : Int) := by omega
    have hkl : l.take k = l := List.take_of_length_le (by omega)
    rw [hkl] at hown
    obtain ⟨g, cp, rfl, q1, q2, q3⟩ := own_cells hown (by intro e; simp at e; subst e; simp at hl1)
    have hlen : (Lib.join ((l.map txt).map (·.data.toList)) (⟨#[43]⟩ : ByteArray).data.toList).length <= 140737488355328 := by
     rw [txt_data]
     have := wrs_length_le l (uh H3)
     unfold opsL at this
     show (Lib.join (l.map opL) [43]).length <= _
     omega
    have HJ := zh (Tryz.strings_Join g 0 cp (l.map txt) ⟨#[43]⟩ wr q3 q2 (by simp; omega) q1 hlen)
    have HB := zh hb
    clear hb hown hkl hlen q1 q2 q3 H HC HT H3 HB1
    rw [txt_data] at HJ
    simp only [List.length_map] at HJ
    go_wp2_with fail
    refine (uh HJ).mono ?_
    rintro e w2 ⟨rfl, b2⟩
    have HB2 := zh ((uh HB).trans (b2.mono (uh HB).size))
    clear b2
    go_wp2
    go_ret2
    exact ⟨rfl, uh HB2⟩
end Go.Proofs.YtbmkmfoaoganeaaGreatDoor
