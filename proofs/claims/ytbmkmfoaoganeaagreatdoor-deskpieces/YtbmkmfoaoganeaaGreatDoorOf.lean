/- Texts of one proof, one behind the other. -/
import Derived.Test.YtbmkmfoaoganeaaGreatDoorOb
import Derived.Test.YtbmkmfoaoganeaaGreatDoorOc
import Derived.Test.YtbmkmfoaoganeaaGreatDoorOd
import Derived.Test.YtbmkmfoaoganeaaGreatDoorOe
import Derived.Test.YtbmkmfoaoganeaaGreatDoorOa
set_option maxRecDepth 100000
set_option maxHeartbeats 16000000
namespace Go.Proofs.YtbmkmfoaoganeaaGreatDoor
open Go.RowKit Go.Maps
theorem there_at {w w' : World} {p : Addr} {v : Value} (h : w.cell? p = some v) (hb : Below w.heap.size w w') : w'.cell? p = some v := (hb.cell (lt_of_cell h)).trans h
theorem there_yet {w w' : World} {p : Addr} {v : Value} (h : w.cell? p = some v) (hb : Below w.heap.size w w') : w'.cell? p = some v := (hb.cell (lt_of_cell h)).trans h
theorem PastW.cells {w : World} {P : Pl} {now known bd : Int} {S : Ky -> Int -> Int -> ByteArray} {F : Nat -> Prop} (h : PastW w P now known bd S F) : w.cell? ⟨P.b, P.o, none⟩ = some (.int .i64 now) /\ w.cell? ⟨P.b, P.o + 1, none⟩ = some (.int .i64 known) := by
 obtain ⟨_, _, _, _, p, _⟩ := h
 exact ⟨p.c0, p.c1⟩
theorem pieces_bad {w : World} {P : Pl} {now known bd : Int} {S : Ky -> Int -> Int -> ByteArray} {F : Nat -> Prop} (h : PastW w P now known bd S F) (k : Ky) (at_ : Int) (e : Int) (he : countErr now known at_ = e) (hne : e ≠ 0) :
  Calls Tryz.prog 71 #[.pointer (some ⟨P.b, P.o, none⟩), .agg #[.int .i64 k.kind, .int .i64 k.a, .string k.word, .int .i64 k.b], .int .i64 at_] w fun r w' => r = .returned (.tuple #[.slice none 0 0, .iface 25 (.int .i64 e)]) /\ Below w.heap.size w w' := by
 have HB := zh (below_box w (.cells #[.int .i64 k.kind, .int .i64 k.a, .string k.word, .int .i64 k.b] 73))
 obtain ⟨c0, c1⟩ := (h.below (uh HB)).cells
 have HC := zh (past_count c0 c1 at_)
 have hv : errV (countErr now known at_) = .iface 25 (.int .i64 e) := by
  rw [he]
  unfold errV
  rw [if_neg hne]
 rw [hv] at HC
 clear h c0 c1 hv he hne
 go_enter Tryz.func71, Tryz.ntmps71
 go_wp2_with fail
 refine (uh HC).mono ?_
 rintro r W1 ⟨rfl, rfl⟩
 go_wp2
 go_ret2
 exact ⟨rfl, uh HB⟩
theorem moment_any (t : Int) (w : World) :
  Calls Tryz.prog 108 #[.int .i64 t] w fun e w' => e = .returned (.agg #[.int .i64 t, .int .i64 (wrap64 (t + 1))]) /\ Below w.heap.size w w' := by
 go_enter Tryz.func108, Tryz.ntmps108
 go_wp2
 exact bodyPost_ret (v := .agg #[.int .i64 t, .int .i64 (wrap64 (t + 1))]) (by simp [results, Tryz.results108, go_sem]) rfl ⟨rfl, below_box _ _⟩
theorem moment_bad {t : Int} (h0 : -9223372036854775808 <= t) (h1 : t <= 9223372036854775807) (h : ¬ (-1099511627776 <= t /\ t < 1099511627776)) : rightB t (wrap64 (t + 1)) = false := by
 apply decide_eq_false
 rintro ⟨a, b, c⟩
 unfold wrap64 at b c
 omega
theorem value_count {w : World} {P : Pl} {now known bd : Int} {S : Ky -> Int -> Int -> ByteArray} {F : Nat -> Prop} (h : PastW w P now known bd S F) (k : Ky) (at_ t : Int) (e : Int) (he : countErr now known at_ = e) (hne : e ≠ 0) :
  Calls Tryz.prog 77 #[.pointer (some ⟨P.b, P.o, none⟩), .agg #[.int .i64 k.kind, .int .i64 k.a, .string k.word, .int .i64 k.b], .int .i64 at_, .int .i64 t] w fun r w' => r = .returned (.tuple #[.string ByteArray.empty, .iface 25 (.int .i64 e)]) /\ Below w.heap.size w w' := by
 have HB := zh (below_box w (.cells #[.int .i64 k.kind, .int .i64 k.a, .string k.word, .int .i64 k.b] 73))
 obtain ⟨c0, c1⟩ := (h.below (uh HB)).cells
 have HC := zh (past_count c0 c1 at_)
 have hv : errV (countErr now known at_) = .iface 25 (.int .i64 e) := by
  rw [he]
  unfold errV
  rw [if_neg hne]
 rw [hv] at HC
 clear h c0 c1 hv he hne
 go_enter Tryz.func77, Tryz.ntmps77
 go_wp2_with fail
 refine (uh HC).mono ?_
 rintro r W1 ⟨rfl, rfl⟩
 go_wp2
 go_ret2
 exact ⟨rfl, uh HB⟩
theorem keys_count {w : World} {P : Pl} {now known bd : Int} {S : Ky -> Int -> Int -> ByteArray} {F : Nat -> Prop} (h : PastW w P now known bd S F) (at_ t : Int) (e : Int) (he : countErr now known at_ = e) (hne : e ≠ 0) :
  Calls Tryz.prog 61 #[.pointer (some ⟨P.b, P.o, none⟩), .int .i64 at_, .int .i64 t] w fun r w' => r = .returned (.tuple #[.slice none 0 0, .iface 25 (.int .i64 e)]) /\ Below w.heap.size w w' := by
 obtain ⟨c0, c1⟩ := h.cells
 have HC := zh (past_count c0 c1 at_)
 have hv : errV (countErr now known at_) = .iface 25 (.int .i64 e) := by
  rw [he]
  unfold errV
  rw [if_neg hne]
 rw [hv] at HC
 have HB := zh (Below.refl w.heap.size w)
 clear h c0 c1 hv he hne
 go_enter Tryz.func61, Tryz.ntmps61
 go_wp2_with fail
 refine (uh HC).mono ?_
 rintro r W1 ⟨rfl, rfl⟩
 go_wp2
 go_ret2
 exact ⟨rfl, uh HB⟩
theorem count_fine {now known at_ : Int} (h0 : 0 <= at_) (h1 : known <= at_) (h2 : at_ <= now) : errV (countErr now known at_) = .nilIface := by
 have : countErr now known at_ = 0 := by unfold countErr; rw [if_neg (by omega), if_neg (by omega)]
 rw [this]; rfl
theorem value_key {w : World} {P : Pl} {now known bd : Int} {S : Ky -> Int -> Int -> ByteArray} {F : Nat -> Prop} (h : PastW w P now known bd S F) (k : Ky) (hk : KyOk k) (hkb : keyB k.kind k.a k.word k.b = false) (at_ t : Int) (h0 : 0 <= at_) (h1 : known <= at_) (h2 : at_ <= now) :
  Calls Tryz.prog 77 #[.pointer (some ⟨P.b, P.o, none⟩), .agg #[.int .i64 k.kind, .int .i64 k.a, .string k.word, .int .i64 k.b], .int .i64 at_, .int .i64 t] w fun r w' => r = .returned (.tuple #[.string ByteArray.empty, .iface 25 (.int .i64 1)]) /\ Below w.heap.size w w' := by
 have HB := zh (below_box w (.cells #[.int .i64 k.kind, .int .i64 k.a, .string k.word, .int .i64 k.b] 73))
 have HK := zh (boxK_new w k)
 obtain ⟨c0, c1⟩ := (h.below (uh HB)).cells
 have HC := zh (past_count c0 c1 at_)
 rw [count_fine h0 h1 h2] at HC
 have HKy := zh (fun W => fact_Key k.kind k.a k.word k.b W hk.word)
 rw [hkb] at HKy
 have k0 := (uh HK).c0
 have k1 := (uh HK).c1
 have k2 := (uh HK).c2
 have k3 := (uh HK).c3
 clear h c0 c1 hkb
 go_enter Tryz.func77, Tryz.ntmps77
 go_wp2_with fail
 generalize w.alloc (.cells #[.int .i64 k.kind, .int .i64 k.a, .string k.word, .int .i64 k.b] 73) = W0 at *
 refine (uh HC).mono ?_
 rintro e W1 ⟨rfl, rfl⟩
 go_wp2_with fail
 refine (uh HKy _).mono ?_
 rintro e W2 ⟨rfl, hW2⟩
 have b2 : Below W1.heap.size W1 W2 := by rw [hW2]; exact below_box _ _
 have HB2 := zh ((uh HB).trans (b2.mono (uh HB).size))
 clear hW2 b2 HK HB k0 k1 k2 k3 HC HKy
 go_wp2
 go_ret2
 exact ⟨rfl, uh HB2⟩
theorem pieces_key {w : World} {P : Pl} {now known bd : Int} {S : Ky -> Int -> Int -> ByteArray} {F : Nat -> Prop} (h : PastW w P now known bd S F) (k : Ky) (hk : KyOk k) (hkb : keyB k.kind k.a k.word k.b = false) (at_ : Int) (h0 : 0 <= at_) (h1 : known <= at_) (h2 : at_ <= now) :
  Calls Tryz.prog 71 #[.pointer (some ⟨P.b, P.o, none⟩), .agg #[.int .i64 k.kind, .int .i64 k.a, .string k.word, .int .i64 k.b], .int .i64 at_] w fun r w' => r = .returned (.tuple #[.slice none 0 0, .iface 25 (.int .i64 1)]) /\ Below w.heap.size w w' := by
 have HB := zh (below_box w (.cells #[.int .i64 k.kind, .int .i64 k.a, .string k.word, .int .i64 k.b] 73))
 have HK := zh (boxK_new w k)
 obtain ⟨c0, c1⟩ := (h.below (uh HB)).cells
 have HC := zh (past_count c0 c1 at_)
 rw [count_fine h0 h1 h2] at HC
 have HKy := zh (fun W => fact_Key k.kind k.a k.word k.b W hk.word)
 rw [hkb] at HKy
 have k0 := (uh HK).c0
 have k1 := (uh HK).c1
 have k2 := (uh HK).c2
 have k3 := (uh HK).c3
 clear h c0 c1 hkb
 go_enter Tryz.func71, Tryz.ntmps71
 go_wp2_with fail
 generalize w.alloc (.cells #[.int .i64 k.kind, .int .i64 k.a, .string k.word, .int .i64 k.b] 73) = W0 at *
 refine (uh HC).mono ?_
 rintro e W1 ⟨rfl, rfl⟩
 go_wp2_with fail
 refine (uh HKy _).mono ?_
 rintro e W2 ⟨rfl, hW2⟩
 have b2 : Below W1.heap.size W1 W2 := by rw [hW2]; exact below_box _ _
 have HB2 := zh ((uh HB).trans (b2.mono (uh HB).size))
 clear hW2 b2 HK HB k0 k1 k2 k3 HC HKy
 go_wp2
 go_ret2
 exact ⟨rfl, uh HB2⟩
theorem value_time {w : World} {P : Pl} {now known bd : Int} {S : Ky -> Int -> Int -> ByteArray} {F : Nat -> Prop} (h : PastW w P now known bd S F) (k : Ky) (hk : KyOk k) (hkb : keyB k.kind k.a k.word k.b = true) (at_ t : Int) (h0 : 0 <= at_) (h1 : known <= at_) (h2 : at_ <= now) (ht : rightB t (wrap64 (t + 1)) = false) :
  Calls Tryz.prog 77 #[.pointer (some ⟨P.b, P.o, none⟩), .agg #[.int .i64 k.kind, .int .i64 k.a, .string k.word, .int .i64 k.b], .int .i64 at_, .int .i64 t] w fun r w' => r = .returned (.tuple #[.string ByteArray.empty, .iface 25 (.int .i64 1)]) /\ Below w.heap.size w w' := by
 have HB := zh (below_box w (.cells #[.int .i64 k.kind, .int .i64 k.a, .string k.word, .int .i64 k.b] 73))
 have HK := zh (boxK_new w k)
 obtain ⟨c0, c1⟩ := (h.below (uh HB)).cells
 have HC := zh (past_count c0 c1 at_)
 rw [count_fine h0 h1 h2] at HC
 have HKy := zh (fun W => fact_Key k.kind k.a k.word k.b W hk.word)
 rw [hkb] at HKy
 have HM := zh (fun W => moment_any t W)
 have HRt := zh (fun W => span_Right t (wrap64 (t + 1)) W)
 rw [ht] at HRt
 generalize wrap64 (t + 1) = t1 at HM HRt
 have k0 := (uh HK).c0
 have k1 := (uh HK).c1
 have k2 := (uh HK).c2
 have k3 := (uh HK).c3
 clear h c0 c1 hkb ht
 go_enter Tryz.func77, Tryz.ntmps77
 go_wp2_with fail
 generalize w.alloc (.cells #[.int .i64 k.kind, .int .i64 k.a, .string k.word, .int .i64 k.b] 73) = W0 at *
 refine (uh HC).mono ?_
 rintro e W1 ⟨rfl, rfl⟩
 go_wp2_with fail
 refine (uh HKy _).mono ?_
 rintro e W2 ⟨rfl, hW2⟩
 have b2 : Below W1.heap.size W1 W2 := by rw [hW2]; exact below_box _ _
 have HB2 := zh ((uh HB).trans (b2.mono (uh HB).size))
 clear hW2 b2 HK HB k0 k1 k2 k3 HC HKy
 go_wp2_with fail
 refine (uh HM _).mono ?_
 rintro e W3 ⟨rfl, b3⟩
 have HB3 := zh ((uh HB2).trans (b3.mono (uh HB2).size))
 clear b3 HB2
 go_wp2_with fail
 refine (uh HRt _).mono ?_
 rintro e W4 ⟨rfl, hW4⟩
 have b4 : Below W3.heap.size W3 W4 := by rw [hW4]; exact below_box _ _
 have HB4 := zh ((uh HB3).trans (b4.mono (uh HB3).size))
 clear hW4 b4 HB3 HM HRt
 go_wp2
 go_ret2
 exact ⟨rfl, uh HB4⟩
theorem keys_time {w : World} {P : Pl} {now known bd : Int} {S : Ky -> Int -> Int -> ByteArray} {F : Nat -> Prop} (h : PastW w P now known bd S F) (at_ t : Int) (h0 : 0 <= at_) (h1 : known <= at_) (h2 : at_ <= now) (ht : rightB t (wrap64 (t + 1)) = false) :
  Calls Tryz.prog 61 #[.pointer (some ⟨P.b, P.o, none⟩), .int .i64 at_, .int .i64 t] w fun r w' => r = .returned (.tuple #[.slice none 0 0, .iface 25 (.int .i64 1)]) /\ Below w.heap.size w w' := by
 obtain ⟨c0, c1⟩ := h.cells
 have HC := zh (past_count c0 c1 at_)
 rw [count_fine h0 h1 h2] at HC
 have HM := zh (fun W => moment_any t W)
 have HRt := zh (fun W => span_Right t (wrap64 (t + 1)) W)
 rw [ht] at HRt
 generalize wrap64 (t + 1) = t1 at HM HRt
 clear h c0 c1 ht
 go_enter Tryz.func61, Tryz.ntmps61
 go_wp2_with fail
 refine (uh HC).mono ?_
 rintro e W1 ⟨rfl, hW1⟩
 obtain rfl : w = W1 := hW1.symm
 clear hW1
 go_wp2_with fail
 refine (uh HM _).mono ?_
 rintro e W3 ⟨rfl, b3⟩
 have HB3 := zh b3
 clear b3
 go_wp2_with fail
 refine (uh HRt _).mono ?_
 rintro e W4 ⟨rfl, hW4⟩
 have b4 : Below W3.heap.size W3 W4 := by rw [hW4]; exact below_box _ _
 have HB4 := zh ((uh HB3).trans (b4.mono (uh HB3).size))
 clear hW4 b4 HB3 HM HRt
 go_wp2
 go_ret2
 exact ⟨rfl, uh HB4⟩
theorem ever_from {w : World} {P : Pl} {now known bd : Int} {S : Ky -> Int -> Int -> ByteArray} {F : Nat -> Prop} (h : PastW w P now known bd S F) (k : Ky) (a b lo hi : Int) (e : Int) (he : countErr now known a = e) (hne : e ≠ 0) :
  Calls Tryz.prog 52 #[.pointer (some ⟨P.b, P.o, none⟩), .agg #[.int .i64 k.kind, .int .i64 k.a, .string k.word, .int .i64 k.b], .int .i64 a, .int .i64 b, .agg #[.int .i64 lo, .int .i64 hi]] w fun r w' => r = .returned (.tuple #[.slice none 0 0, .iface 25 (.int .i64 e)]) /\ Below w.heap.size w w' := by
 have HB1 := zh (below_box w (.cells #[.int .i64 k.kind, .int .i64 k.a, .string k.word, .int .i64 k.b] 73))
 have HB2 := zh (below_box (w.alloc (.cells #[.int .i64 k.kind, .int .i64 k.a, .string k.word, .int .i64 k.b] 73)) (.cells #[.int .i64 lo, .int .i64 hi] 79))
 have HB := zh ((uh HB1).trans ((uh HB2).mono (uh HB1).size))
 have e1 : (w.alloc (.cells #[.int .i64 k.kind, .int .i64 k.a, .string k.word, .int .i64 k.b] 73)).heap.size = w.heap.size + 1 := by simp
 have HK := zh ((boxK_new w k).below (uh HB2))
 have HSp : Hid (((w.alloc (.cells #[.int .i64 k.kind, .int .i64 k.a, .string k.word, .int .i64 k.b] 73)).alloc (.cells #[.int .i64 lo, .int .i64 hi] 79)).cell? ⟨w.heap.size + 1, 0, none⟩ = some (.int .i64 lo) /\ ((w.alloc (.cells #[.int .i64 k.kind, .int .i64 k.a, .string k.word, .int .i64 k.b] 73)).alloc (.cells #[.int .i64 lo, .int .i64 hi] 79)).cell? ⟨w.heap.size + 1, 1, none⟩ = some (.int .i64 hi)) := by
  unfold Hid
  rw [<- e1]
  exact ⟨by simp, by simp⟩
 obtain ⟨c0, c1⟩ := (h.below (uh HB)).cells
 have HCa := zh (past_count c0 c1 a)
 have HCb := zh (past_count c0 c1 b)
 have hv : errV (countErr now known a) = .iface 25 (.int .i64 e) := by
  rw [he]
  unfold errV
  rw [if_neg hne]
 rw [hv] at HCa
 clear h c0 c1 hv he hne e1 HB1 HB2 HCb
 go_enter Tryz.func52, Tryz.ntmps52
 go_wp2
 generalize ((w.alloc (.cells #[.int .i64 k.kind, .int .i64 k.a, .string k.word, .int .i64 k.b] 73)).alloc (.cells #[.int .i64 lo, .int .i64 hi] 79)) = W0 at *
 go_loopw [21] (fun i y => ∃ j : Nat, j <= 0 /\ i = .int .i64 j /\ y = W0) (fun i _ => 2 - (intOf i).toNat)
 case atStart => exact ⟨0, by omega, rfl, rfl⟩
 case round =>
  obtain ⟨j, hj, rfl, rfl⟩ := hrel
  obtain rfl : j = 0 := by omega
  ·have hi0 := two_first
   go_wp2_with fail
   refine (uh HCa).mono ?_
   rintro r W1 ⟨rfl, rfl⟩
   go_wp2
   go_ret2
   exact ⟨rfl, uh HB⟩
theorem ever_to {w : World} {P : Pl} {now known bd : Int} {S : Ky -> Int -> Int -> ByteArray} {F : Nat -> Prop} (h : PastW w P now known bd S F) (k : Ky) (a b lo hi : Int) (ha : errV (countErr now known a) = .nilIface) (e : Int) (he : countErr now known b = e) (hne : e ≠ 0) :
  Calls Tryz.prog 52 #[.pointer (some ⟨P.b, P.o, none⟩), .agg #[.int .i64 k.kind, .int .i64 k.a, .string k.word, .int .i64 k.b], .int .i64 a, .int .i64 b, .agg #[.int .i64 lo, .int .i64 hi]] w fun r w' => r = .returned (.tuple #[.slice none 0 0, .iface 25 (.int .i64 e)]) /\ Below w.heap.size w w' := by
 have HB1 := zh (below_box w (.cells #[.int .i64 k.kind, .int .i64 k.a, .string k.word, .int .i64 k.b] 73))
 have HB2 := zh (below_box (w.alloc (.cells #[.int .i64 k.kind, .int .i64 k.a, .string k.word, .int .i64 k.b] 73)) (.cells #[.int .i64 lo, .int .i64 hi] 79))
 have HB := zh ((uh HB1).trans ((uh HB2).mono (uh HB1).size))
 have e1 : (w.alloc (.cells #[.int .i64 k.kind, .int .i64 k.a, .string k.word, .int .i64 k.b] 73)).heap.size = w.heap.size + 1 := by simp
 have HK := zh ((boxK_new w k).below (uh HB2))
 have HSp : Hid (((w.alloc (.cells #[.int .i64 k.kind, .int .i64 k.a, .string k.word, .int .i64 k.b] 73)).alloc (.cells #[.int .i64 lo, .int .i64 hi] 79)).cell? ⟨w.heap.size + 1, 0, none⟩ = some (.int .i64 lo) /\ ((w.alloc (.cells #[.int .i64 k.kind, .int .i64 k.a, .string k.word, .int .i64 k.b] 73)).alloc (.cells #[.int .i64 lo, .int .i64 hi] 79)).cell? ⟨w.heap.size + 1, 1, none⟩ = some (.int .i64 hi)) := by
  unfold Hid
  rw [<- e1]
  exact ⟨by simp, by simp⟩
 obtain ⟨c0, c1⟩ := (h.below (uh HB)).cells
 have HCa := zh (past_count c0 c1 a)
 have HCb := zh (past_count c0 c1 b)
 have hv : errV (countErr now known b) = .iface 25 (.int .i64 e) := by
  rw [he]
  unfold errV
  rw [if_neg hne]
 rw [hv] at HCb
 rw [ha] at HCa
 clear h c0 c1 hv he hne e1 HB1 HB2 ha
 go_enter Tryz.func52, Tryz.ntmps52
 go_wp2
 generalize ((w.alloc (.cells #[.int .i64 k.kind, .int .i64 k.a, .string k.word, .int .i64 k.b] 73)).alloc (.cells #[.int .i64 lo, .int .i64 hi] 79)) = W0 at *
 go_loopw [21] (fun i y => ∃ j : Nat, j <= 1 /\ i = .int .i64 j /\ y = W0) (fun i _ => 2 - (intOf i).toNat)
 case atStart => exact ⟨0, by omega, rfl, rfl⟩
 case round =>
  obtain ⟨j, hj, rfl, rfl⟩ := hrel
  rcases (show j = 0 \/ j = 1 by omega) with rfl | rfl
  ·have hi0 := two_first
   go_wp2_with fail
   refine (uh HCa).mono ?_
   rintro e W1 ⟨rfl, rfl⟩
   go_wp2
   go_roundw
   case rel => exact ⟨0 + 1, by omega, by go_num, trivial⟩
   case measure => simp [intOf]
  ·have hi0 := two_second
   go_wp2_with fail
   refine (uh HCb).mono ?_
   rintro r W1 ⟨rfl, rfl⟩
   go_wp2
   go_ret2
   exact ⟨rfl, uh HB⟩
theorem ever_order {w : World} {P : Pl} {now known bd : Int} {S : Ky -> Int -> Int -> ByteArray} {F : Nat -> Prop} (h : PastW w P now known bd S F) (k : Ky) (a b lo hi : Int) (ha : errV (countErr now known a) = .nilIface) (hb : errV (countErr now known b) = .nilIface) (hlt : b < a) :
  Calls Tryz.prog 52 #[.pointer (some ⟨P.b, P.o, none⟩), .agg #[.int .i64 k.kind, .int .i64 k.a, .string k.word, .int .i64 k.b], .int .i64 a, .int .i64 b, .agg #[.int .i64 lo, .int .i64 hi]] w fun r w' => r = .returned (.tuple #[.slice none 0 0, .iface 25 (.int .i64 10)]) /\ Below w.heap.size w w' := by
 have HB1 := zh (below_box w (.cells #[.int .i64 k.kind, .int .i64 k.a, .string k.word, .int .i64 k.b] 73))
 have HB2 := zh (below_box (w.alloc (.cells #[.int .i64 k.kind, .int .i64 k.a, .string k.word, .int .i64 k.b] 73)) (.cells #[.int .i64 lo, .int .i64 hi] 79))
 have HB := zh ((uh HB1).trans ((uh HB2).mono (uh HB1).size))
 have e1 : (w.alloc (.cells #[.int .i64 k.kind, .int .i64 k.a, .string k.word, .int .i64 k.b] 73)).heap.size = w.heap.size + 1 := by simp
 have HK := zh ((boxK_new w k).below (uh HB2))
 have HSp : Hid (((w.alloc (.cells #[.int .i64 k.kind, .int .i64 k.a, .string k.word, .int .i64 k.b] 73)).alloc (.cells #[.int .i64 lo, .int .i64 hi] 79)).cell? ⟨w.heap.size + 1, 0, none⟩ = some (.int .i64 lo) /\ ((w.alloc (.cells #[.int .i64 k.kind, .int .i64 k.a, .string k.word, .int .i64 k.b] 73)).alloc (.cells #[.int .i64 lo, .int .i64 hi] 79)).cell? ⟨w.heap.size + 1, 1, none⟩ = some (.int .i64 hi)) := by
  unfold Hid
  rw [<- e1]
  exact ⟨by simp, by simp⟩
 obtain ⟨c0, c1⟩ := (h.below (uh HB)).cells
 have HCa := zh (past_count c0 c1 a)
 have HCb := zh (past_count c0 c1 b)
 rw [ha] at HCa
 rw [hb] at HCb
 clear h c0 c1 e1 HB1 HB2 ha hb
 go_enter Tryz.func52, Tryz.ntmps52
 go_wp2
 generalize ((w.alloc (.cells #[.int .i64 k.kind, .int .i64 k.a, .string k.word, .int .i64 k.b] 73)).alloc (.cells #[.int .i64 lo, .int .i64 hi] 79)) = W0 at *
 go_loopw [21] (fun i y => ∃ j : Nat, j <= 2 /\ i = .int .i64 j /\ y = W0) (fun i _ => 2 - (intOf i).toNat)
 case atStart => exact ⟨0, by omega, rfl, rfl⟩
 case round =>
  obtain ⟨j, hj, rfl, rfl⟩ := hrel
  rcases (show j = 0 \/ j = 1 \/ j = 2 by omega) with rfl | rfl | rfl
  ·have hi0 := two_first
   go_wp2_with fail
   refine (uh HCa).mono ?_
   rintro e W1 ⟨rfl, rfl⟩
   go_wp2
   go_roundw
   case rel => exact ⟨0 + 1, by omega, by go_num, trivial⟩
   case measure => simp [intOf]
  ·have hi0 := two_second
   go_wp2_with fail
   refine (uh HCb).mono ?_
   rintro e W1 ⟨rfl, rfl⟩
   go_wp2
   go_roundw
   case rel => exact ⟨1 + 1, by omega, by go_num, trivial⟩
   case measure => simp [intOf]
  ·go_wp2
   go_ret2
   exact ⟨rfl, uh HB⟩
theorem ever_key {w : World} {P : Pl} {now known bd : Int} {S : Ky -> Int -> Int -> ByteArray} {F : Nat -> Prop} (h : PastW w P now known bd S F) (k : Ky) (hk : KyOk k) (hkb : keyB k.kind k.a k.word k.b = false) (a b lo hi : Int) (ha : errV (countErr now known a) = .nilIface) (hb : errV (countErr now known b) = .nilIface) (hlt : ¬ b < a) :
  Calls Tryz.prog 52 #[.pointer (some ⟨P.b, P.o, none⟩), .agg #[.int .i64 k.kind, .int .i64 k.a, .string k.word, .int .i64 k.b], .int .i64 a, .int .i64 b, .agg #[.int .i64 lo, .int .i64 hi]] w fun r w' => r = .returned (.tuple #[.slice none 0 0, .iface 25 (.int .i64 1)]) /\ Below w.heap.size w w' := by
 have HB1 := zh (below_box w (.cells #[.int .i64 k.kind, .int .i64 k.a, .string k.word, .int .i64 k.b] 73))
 have HB2 := zh (below_box (w.alloc (.cells #[.int .i64 k.kind, .int .i64 k.a, .string k.word, .int .i64 k.b] 73)) (.cells #[.int .i64 lo, .int .i64 hi] 79))
 have HB := zh ((uh HB1).trans ((uh HB2).mono (uh HB1).size))
 have e1 : (w.alloc (.cells #[.int .i64 k.kind, .int .i64 k.a, .string k.word, .int .i64 k.b] 73)).heap.size = w.heap.size + 1 := by simp
 have HK := zh ((boxK_new w k).below (uh HB2))
 have HSp : Hid (((w.alloc (.cells #[.int .i64 k.kind, .int .i64 k.a, .string k.word, .int .i64 k.b] 73)).alloc (.cells #[.int .i64 lo, .int .i64 hi] 79)).cell? ⟨w.heap.size + 1, 0, none⟩ = some (.int .i64 lo) /\ ((w.alloc (.cells #[.int .i64 k.kind, .int .i64 k.a, .string k.word, .int .i64 k.b] 73)).alloc (.cells #[.int .i64 lo, .int .i64 hi] 79)).cell? ⟨w.heap.size + 1, 1, none⟩ = some (.int .i64 hi)) := by
  unfold Hid
  rw [<- e1]
  exact ⟨by simp, by simp⟩
 obtain ⟨c0, c1⟩ := (h.below (uh HB)).cells
 have HCa := zh (past_count c0 c1 a)
 have HCb := zh (past_count c0 c1 b)
 rw [ha] at HCa
 rw [hb] at HCb
 have HKy := zh (fun W => fact_Key k.kind k.a k.word k.b W hk.word)
 rw [hkb] at HKy
 clear h c0 c1 e1 HB1 HB2 ha hb hkb
 go_enter Tryz.func52, Tryz.ntmps52
 go_wp2
 generalize ((w.alloc (.cells #[.int .i64 k.kind, .int .i64 k.a, .string k.word, .int .i64 k.b] 73)).alloc (.cells #[.int .i64 lo, .int .i64 hi] 79)) = W0 at *
 go_loopw [21] (fun i y => ∃ j : Nat, j <= 2 /\ i = .int .i64 j /\ y = W0) (fun i _ => 2 - (intOf i).toNat)
 case atStart => exact ⟨0, by omega, rfl, rfl⟩
 case round =>
  obtain ⟨j, hj, rfl, rfl⟩ := hrel
  rcases (show j = 0 \/ j = 1 \/ j = 2 by omega) with rfl | rfl | rfl
  ·have hi0 := two_first
   go_wp2_with fail
   refine (uh HCa).mono ?_
   rintro e W1 ⟨rfl, rfl⟩
   go_wp2
   go_roundw
   case rel => exact ⟨0 + 1, by omega, by go_num, trivial⟩
   case measure => simp [intOf]
  ·have hi0 := two_second
   go_wp2_with fail
   refine (uh HCb).mono ?_
   rintro e W1 ⟨rfl, rfl⟩
   go_wp2
   go_roundw
   case rel => exact ⟨1 + 1, by omega, by go_num, trivial⟩
   case measure => simp [intOf]
  ·have k0 := (uh HK).c0
   have k1 := (uh HK).c1
   have k2 := (uh HK).c2
   have k3 := (uh HK).c3
   go_wp2_with fail
   refine (uh HKy _).mono ?_
   rintro e W2 ⟨rfl, hW2⟩
   have b2 : Below wr.heap.size wr W2 := by rw [hW2]; exact below_box _ _
   have HB2 := zh ((uh HB).trans (b2.mono (uh HB).size))
   clear hW2 b2 HB HK HSp HKy k0 k1 k2 k3 HCa HCb
   go_wp2
   go_ret2
   exact ⟨rfl, uh HB2⟩
theorem ever_span {w : World} {P : Pl} {now known bd : Int} {S : Ky -> Int -> Int -> ByteArray} {F : Nat -> Prop} (h : PastW w P now known bd S F) (k : Ky) (hk : KyOk k) (hkb : keyB k.kind k.a k.word k.b = true) (a b lo hi : Int) (ha : errV (countErr now known a) = .nilIface) (hb : errV (countErr now known b) = .nilIface) (hlt : ¬ b < a) (hR : rightB lo hi = false) :
  Calls Tryz.prog 52 #[.pointer (some ⟨P.b, P.o, none⟩), .agg #[.int .i64 k.kind, .int .i64 k.a, .string k.word, .int .i64 k.b], .int .i64 a, .int .i64 b, .agg #[.int .i64 lo, .int .i64 hi]] w fun r w' => r = .returned (.tuple #[.slice none 0 0, .iface 25 (.int .i64 1)]) /\ Below w.heap.size w w' := by
 have HB1 := zh (below_box w (.cells #[.int .i64 k.kind, .int .i64 k.a, .string k.word, .int .i64 k.b] 73))
 have HB2 := zh (below_box (w.alloc (.cells #[.int .i64 k.kind, .int .i64 k.a, .string k.word, .int .i64 k.b] 73)) (.cells #[.int .i64 lo, .int .i64 hi] 79))
 have HB := zh ((uh HB1).trans ((uh HB2).mono (uh HB1).size))
 have e1 : (w.alloc (.cells #[.int .i64 k.kind, .int .i64 k.a, .string k.word, .int .i64 k.b] 73)).heap.size = w.heap.size + 1 := by simp
 have HK := zh ((boxK_new w k).below (uh HB2))
 have HSp : Hid (((w.alloc (.cells #[.int .i64 k.kind, .int .i64 k.a, .string k.word, .int .i64 k.b] 73)).alloc (.cells #[.int .i64 lo, .int .i64 hi] 79)).cell? ⟨w.heap.size + 1, 0, none⟩ = some (.int .i64 lo) /\ ((w.alloc (.cells #[.int .i64 k.kind, .int .i64 k.a, .string k.word, .int .i64 k.b] 73)).alloc (.cells #[.int .i64 lo, .int .i64 hi] 79)).cell? ⟨w.heap.size + 1, 1, none⟩ = some (.int .i64 hi)) := by
  unfold Hid
  rw [<- e1]
  exact ⟨by simp, by simp⟩
 obtain ⟨c0, c1⟩ := (h.below (uh HB)).cells
 have HCa := zh (past_count c0 c1 a)
 have HCb := zh (past_count c0 c1 b)
 rw [ha] at HCa
 rw [hb] at HCb
 have HKy := zh (fun W => fact_Key k.kind k.a k.word k.b W hk.word)
 rw [hkb] at HKy
 have HRt := zh (fun W => span_Right lo hi W)
 rw [hR] at HRt
 clear h c0 c1 e1 HB1 HB2 ha hb hkb hR
 go_enter Tryz.func52, Tryz.ntmps52
 go_wp2
 generalize ((w.alloc (.cells #[.int .i64 k.kind, .int .i64 k.a, .string k.word, .int .i64 k.b] 73)).alloc (.cells #[.int .i64 lo, .int .i64 hi] 79)) = W0 at *
 go_loopw [21] (fun i y => ∃ j : Nat, j <= 2 /\ i = .int .i64 j /\ y = W0) (fun i _ => 2 - (intOf i).toNat)
 case atStart => exact ⟨0, by omega, rfl, rfl⟩
 case round =>
  obtain ⟨j, hj, rfl, rfl⟩ := hrel
  rcases (show j = 0 \/ j = 1 \/ j = 2 by omega) with rfl | rfl | rfl
  ·have hi0 := two_first
   go_wp2_with fail
   refine (uh HCa).mono ?_
   rintro e W1 ⟨rfl, rfl⟩
   go_wp2
   go_roundw
   case rel => exact ⟨0 + 1, by omega, by go_num, trivial⟩
   case measure => simp [intOf]
  ·have hi0 := two_second
   go_wp2_with fail
   refine (uh HCb).mono ?_
   rintro e W1 ⟨rfl, rfl⟩
   go_wp2
   go_roundw
   case rel => exact ⟨1 + 1, by omega, by go_num, trivial⟩
   case measure => simp [intOf]
  ·have k0 := (uh HK).c0
   have k1 := (uh HK).c1
   have k2 := (uh HK).c2
   have k3 := (uh HK).c3
   go_wp2_with fail
   refine (uh HKy _).mono ?_
   rintro e W2 ⟨rfl, hW2⟩
   have b2 : Below wr.heap.size wr W2 := by rw [hW2]; exact below_box _ _
   have HB2 := zh ((uh HB).trans (b2.mono (uh HB).size))
   have s0 := (b2.cell (p := ⟨w.heap.size + 1, 0, none⟩) (lt_of_cell (uh HSp).1)).trans (uh HSp).1
   have s1 := (b2.cell (p := ⟨w.heap.size + 1, 1, none⟩) (lt_of_cell (uh HSp).2)).trans (uh HSp).2
   clear hW2 b2 HB HK HSp HKy k0 k1 k2 k3 HCa HCb
   go_wp2_with fail
   refine (uh HRt _).mono ?_
   rintro e W3 ⟨rfl, hW3⟩
   have b3 : Below W2.heap.size W2 W3 := by rw [hW3]; exact below_box _ _
   have HB3 := zh ((uh HB2).trans (b3.mono (uh HB2).size))
   clear hW3 b3 HB2 HRt s0 s1
   go_wp2
   go_ret2
   exact ⟨rfl, uh HB3⟩
end Go.Proofs.YtbmkmfoaoganeaaGreatDoor
