/- Texts of one proof, one behind the other. -/
import Derived.Test.YtbmkmfoaoganeaaGreatDoorNa
import Derived.Test.YtbmkmfoaoganeaaGreatDoorOa
import Derived.Test.YtbmkmfoaoganeaaGreatDoorPb
import Derived.Test.YtbmkmfoaoganeaaGreatDoorOb
import Derived.Test.YtbmkmfoaoganeaaGreatDoorOc
import Derived.Test.YtbmkmfoaoganeaaGreatDoorOf
import Derived.Lib.ItoaLen
set_option maxRecDepth 100000
set_option maxHeartbeats 16000000
namespace Go.Proofs.YtbmkmfoaoganeaaGreatDoor
open Go.RowKit
theorem bytes_is {s : ByteArray} {l : List UInt8} (h : s.data.toList = l) : s = ⟨l.toArray⟩ := by
 cases s with
 | mk d => rw [<- h]
theorem bytes_len (l : List UInt8) : (⟨l.toArray⟩ : ByteArray).size = l.length := by
 show l.toArray.size = _
 simp
theorem cut_list (l : List UInt8) (a b : Nat) : (⟨l.toArray⟩ : ByteArray).extract a b = ⟨((l.drop a).take (b - a)).toArray⟩ := by
 apply bytes_is
 simp [List.extract_eq_take_drop]
def forgetS : List UInt8 := [102, 111, 114, 103, 101, 116, 32]
theorem lite_suffix_yes (l : List UInt8) (w : World) (hs : l.length < 100000) :
  Calls Tryz.prog 122 #[.string ⟨(l ++ [10]).toArray⟩, .string ⟨#[10]⟩] w fun e w' => e = .returned (.bool true) /\ w' = w := by
 have hz : (⟨(l ++ [10]).toArray⟩ : ByteArray).size = l.length + 1 := by rw [bytes_len]; simp
 have h1 : ((⟨(l ++ [10]).toArray⟩ : ByteArray).extract l.length (l.length + 1)).toList = [10] := by
  rw [ByteArray.toList_eq]
  simp
 generalize (⟨(l ++ [10]).toArray⟩ : ByteArray) = s at hz h1 ⊢
 go_enter Tryz.func122, Tryz.ntmps122
 go_wp2
 go_ret
 exact ⟨rfl, rfl⟩
theorem lite_suffix_no (s : ByteArray) (w : World) (hs : s.size < 100000) (hn : (10 : UInt8) ∉ s.data.toList) :
  Calls Tryz.prog 122 #[.string s, .string ⟨#[10]⟩] w fun e w' => e = .returned (.bool false) /\ w' = w := by
 by_cases h0 : s.size = 0
 ·clear hn hs
  go_enter Tryz.func122, Tryz.ntmps122
  go_wp2
  go_ret
  exact ⟨rfl, rfl⟩
 ·obtain ⟨n, hz⟩ : ∃ n, s.size = n + 1 := ⟨s.size - 1, by omega⟩
  have hs' : n < 100000 := by omega
  have h1 : ((s.extract n (n + 1)).toList == [10]) = false := by
   rw [beq_eq_false_iff_ne, ByteArray.toList_eq]
   intro e
   apply hn
   have hm : (10 : UInt8) ∈ (s.extract n (n + 1)).data.toList := by rw [e]; simp
   rw [ByteArray.data_extract] at hm
   simp only [Array.toList_extract] at hm
   exact List.mem_of_mem_drop (List.mem_of_mem_take hm)
  clear hn hs h0
  go_enter Tryz.func122, Tryz.ntmps122
  go_wp2
  go_ret
  exact ⟨rfl, rfl⟩
theorem cut_suffix_yes (l : List UInt8) (w : World) (hs : l.length < 100000) :
  Calls Tryz.prog 152 #[.string ⟨(l ++ [10]).toArray⟩, .string ⟨#[10]⟩] w fun e w' => e = .returned (.tuple #[.string ⟨l.toArray⟩, .bool true]) /\ w' = w := by
 have HS := zh (lite_suffix_yes l w hs)
 have hz : (⟨(l ++ [10]).toArray⟩ : ByteArray).size = l.length + 1 := by rw [bytes_len]; simp
 have h1 : (⟨(l ++ [10]).toArray⟩ : ByteArray).extract 0 l.length = ⟨l.toArray⟩ := by
  rw [cut_list]
  simp
 generalize (⟨(l ++ [10]).toArray⟩ : ByteArray) = s at hz h1 HS ⊢
 have HC : Hid (Calls Tryz.prog 206 #[.string s, .string ⟨#[10]⟩] w fun e w' => e = .returned (.tuple #[.string ⟨l.toArray⟩, .bool true]) /\ w' = w) := by
  unfold Hid
  go_enter Tryz.func206, Tryz.ntmps206
  go_wp2_with fail
  refine (uh HS).mono ?_
  rintro e W1 ⟨rfl, hW1⟩
  obtain rfl : w = W1 := hW1.symm
  clear hW1 HS
  go_wp2
  go_ret2
  exact ⟨rfl, rfl⟩
 clear HS hz h1
 go_enter Tryz.func152, Tryz.ntmps152
 go_wp2_with fail
 refine (uh HC).mono ?_
 rintro e W1 ⟨rfl, rfl⟩
 go_wp2
 go_ret2
 exact ⟨rfl, rfl⟩
theorem cut_suffix_no (s : ByteArray) (w : World) (hs : s.size < 100000) (hn : (10 : UInt8) ∉ s.data.toList) :
  Calls Tryz.prog 152 #[.string s, .string ⟨#[10]⟩] w fun e w' => e = .returned (.tuple #[.string s, .bool false]) /\ w' = w := by
 have HS := zh (lite_suffix_no s w hs hn)
 clear hs hn
 have HC : Hid (Calls Tryz.prog 206 #[.string s, .string ⟨#[10]⟩] w fun e w' => e = .returned (.tuple #[.string s, .bool false]) /\ w' = w) := by
  unfold Hid
  go_enter Tryz.func206, Tryz.ntmps206
  go_wp2_with fail
  refine (uh HS).mono ?_
  rintro e W1 ⟨rfl, hW1⟩
  obtain rfl : w = W1 := hW1.symm
  clear hW1 HS
  go_wp2
  go_ret2
  exact ⟨rfl, rfl⟩
 clear HS
 go_enter Tryz.func152, Tryz.ntmps152
 go_wp2_with fail
 refine (uh HC).mono ?_
 rintro e W1 ⟨rfl, rfl⟩
 go_wp2
 go_ret2
 exact ⟨rfl, rfl⟩
theorem has_suffix_no (s : ByteArray) (w : World) (hs : s.size < 100000) (hn : (10 : UInt8) ∉ s.data.toList) :
  Calls Tryz.prog 179 #[.string s, .string ⟨#[10]⟩] w fun e w' => e = .returned (.bool false) /\ w' = w := by
 have HS := zh (lite_suffix_no s w hs hn)
 clear hs hn
 go_enter Tryz.func179, Tryz.ntmps179
 go_wp2_with fail
 refine (uh HS).mono ?_
 rintro e W1 ⟨rfl, rfl⟩
 go_wp2
 go_ret
 exact ⟨rfl, rfl⟩
theorem lite_prefix_yes (r : List UInt8) (w : World) (hs : r.length < 100000) :
  Calls Tryz.prog 250 #[.string ⟨(forgetS ++ r).toArray⟩, .string ⟨#[102, 111, 114, 103, 101, 116, 32]⟩] w fun e w' => e = .returned (.bool true) /\ w' = w := by
 have hz : (⟨(forgetS ++ r).toArray⟩ : ByteArray).size = r.length + 7 := by rw [bytes_len]; simp [forgetS]
 have h1 : ((⟨(forgetS ++ r).toArray⟩ : ByteArray).extract 0 7).toList = [102, 111, 114, 103, 101, 116, 32] := by
  rw [cut_list, ByteArray.toList_eq]
  simp [forgetS]
 generalize (⟨(forgetS ++ r).toArray⟩ : ByteArray) = s at hz h1 ⊢
 go_enter Tryz.func250, Tryz.ntmps250
 go_wp2
 go_ret
 exact ⟨rfl, rfl⟩
theorem lite_prefix_no (c : UInt8) (r : List UInt8) (w : World) (hs : r.length < 100000) (hc : c.toNat ≠ 102) :
  Calls Tryz.prog 250 #[.string ⟨(c :: r).toArray⟩, .string ⟨#[102, 111, 114, 103, 101, 116, 32]⟩] w fun e w' => e = .returned (.bool false) /\ w' = w := by
 have hz : (⟨(c :: r).toArray⟩ : ByteArray).size = r.length + 1 := by rw [bytes_len]; simp
 have h1 : (((⟨(c :: r).toArray⟩ : ByteArray).extract 0 7).toList == [102, 111, 114, 103, 101, 116, 32]) = false := by
  rw [beq_eq_false_iff_ne, cut_list, ByteArray.toList_eq]
  intro e
  simp at e
  exact hc (by rw [e.1]; rfl)
 generalize (⟨(c :: r).toArray⟩ : ByteArray) = s at hz h1 ⊢
 by_cases h7 : 7 <= r.length + 1
 ·go_enter Tryz.func250, Tryz.ntmps250
  go_wp2
  go_ret
  exact ⟨rfl, rfl⟩
 ·have h7' : ¬ (7 : Int) <= (r.length : Int) + 1 := by omega
  go_enter Tryz.func250, Tryz.ntmps250
  go_wp2
  go_ret
  exact ⟨rfl, rfl⟩
theorem cut_prefix_yes (r : List UInt8) (w : World) (hs : r.length < 100000) :
  Calls Tryz.prog 153 #[.string ⟨(forgetS ++ r).toArray⟩, .string ⟨#[102, 111, 114, 103, 101, 116, 32]⟩] w fun e w' => e = .returned (.tuple #[.string ⟨r.toArray⟩, .bool true]) /\ w' = w := by
 have HS := zh (lite_prefix_yes r w hs)
 have hz : (⟨(forgetS ++ r).toArray⟩ : ByteArray).size = r.length + 7 := by rw [bytes_len]; simp [forgetS]
 have h1 : (⟨(forgetS ++ r).toArray⟩ : ByteArray).extract 7 (r.length + 7) = ⟨r.toArray⟩ := by
  rw [cut_list]
  simp [forgetS]
 generalize (⟨(forgetS ++ r).toArray⟩ : ByteArray) = s at hz h1 HS ⊢
 have HC : Hid (Calls Tryz.prog 207 #[.string s, .string ⟨#[102, 111, 114, 103, 101, 116, 32]⟩] w fun e w' => e = .returned (.tuple #[.string ⟨r.toArray⟩, .bool true]) /\ w' = w) := by
  unfold Hid
  go_enter Tryz.func207, Tryz.ntmps207
  go_wp2_with fail
  refine (uh HS).mono ?_
  rintro e W1 ⟨rfl, hW1⟩
  obtain rfl : w = W1 := hW1.symm
  clear hW1 HS
  go_wp2
  go_ret2
  exact ⟨rfl, rfl⟩
 clear HS hz h1
 go_enter Tryz.func153, Tryz.ntmps153
 go_wp2_with fail
 refine (uh HC).mono ?_
 rintro e W1 ⟨rfl, rfl⟩
 go_wp2
 go_ret2
 exact ⟨rfl, rfl⟩
theorem cut_prefix_no (c : UInt8) (r : List UInt8) (w : World) (hs : r.length < 100000) (hc : c.toNat ≠ 102) :
  Calls Tryz.prog 153 #[.string ⟨(c :: r).toArray⟩, .string ⟨#[102, 111, 114, 103, 101, 116, 32]⟩] w fun e w' => e = .returned (.tuple #[.string ⟨(c :: r).toArray⟩, .bool false]) /\ w' = w := by
 have HS := zh (lite_prefix_no c r w hs hc)
 clear hs hc
 generalize (⟨(c :: r).toArray⟩ : ByteArray) = s at HS ⊢
 have HC : Hid (Calls Tryz.prog 207 #[.string s, .string ⟨#[102, 111, 114, 103, 101, 116, 32]⟩] w fun e w' => e = .returned (.tuple #[.string s, .bool false]) /\ w' = w) := by
  unfold Hid
  go_enter Tryz.func207, Tryz.ntmps207
  go_wp2_with fail
  refine (uh HS).mono ?_
  rintro e W1 ⟨rfl, hW1⟩
  obtain rfl : w = W1 := hW1.symm
  clear hW1 HS
  go_wp2
  go_ret2
  exact ⟨rfl, rfl⟩
 clear HS
 go_enter Tryz.func153, Tryz.ntmps153
 go_wp2_with fail
 refine (uh HC).mono ?_
 rintro e W1 ⟨rfl, rfl⟩
 go_wp2
 go_ret2
 exact ⟨rfl, rfl⟩
end Go.Proofs.YtbmkmfoaoganeaaGreatDoor

namespace Go.Proofs.YtbmkmfoaoganeaaGreatDoor
open Go.RowKit Go.Maps
structure DiskW (w : World) (D : Nat) (ps : Nat -> ByteArray) (cut : Bool) (left : Int) : Prop where
 p : ∀ j, j < 150 -> w.cell? ⟨D, j, none⟩ = some (.string (ps j))
 c : w.cell? ⟨D, 150, none⟩ = some (.bool cut)
 l : w.cell? ⟨D, 151, none⟩ = some (.int .i64 left)
 f : ∀ i, w.frozen? ⟨D, i, none⟩ = false
 sz : ∀ j, (ps j).size < 50000
 l0 : 0 <= left /\ left <= 9223372036854775807
theorem DiskW.lt {w : World} {D : Nat} {ps : Nat -> ByteArray} {cut : Bool} {left : Int} (h : DiskW w D ps cut left) : D < w.heap.size := lt_of_cell h.c
theorem DiskW.keeps {w w' : World} {D : Nat} {ps : Nat -> ByteArray} {cut : Bool} {left : Int} {H : Nat -> Prop} (h : DiskW w D ps cut left) (hk : Keeps H w w') (hH : ¬ H D) : DiskW w' D ps cut left :=
 ⟨fun j hj => (hk.cell (p := ⟨D, j, none⟩) h.lt hH).trans (h.p j hj), (hk.cell (p := ⟨D, 150, none⟩) h.lt hH).trans h.c, (hk.cell (p := ⟨D, 151, none⟩) h.lt hH).trans h.l, fun i => (hk.frozen (p := ⟨D, i, none⟩) h.lt hH).trans (h.f i), h.sz, h.l0⟩
theorem DiskW.below {w w' : World} {D : Nat} {ps : Nat -> ByteArray} {cut : Bool} {left : Int} (h : DiskW w D ps cut left) (hb : Below w.heap.size w w') : DiskW w' D ps cut left := h.keeps (Keeps.of_below (fun _ => False) hb zr) (fun f => f)
def updP (ps : Nat -> ByteArray) (n : Nat) (s : ByteArray) : Nat -> ByteArray := fun j => if j = n then s else ps j
theorem DiskW.place {w : World} {D : Nat} {ps : Nat -> ByteArray} {cut : Bool} {left : Int} (h : DiskW w D ps cut left) (n : Nat) (hn : n < 150) (s : ByteArray) (hs : s.size < 50000) : DiskW (w.setCell ⟨D, n, none⟩ (.string s)) D (updP ps n s) cut left := by
 refine ⟨fun j hj => ?_, ?_, ?_, fun i => ?_, fun j => ?_, h.l0⟩
 ·unfold updP
  by_cases e : j = n
  ·subst e
   rw [if_pos rfl]
   exact zs _ _ _ (h.p j hj)
  ·rw [if_neg e, zo _ _ _ _ (fun q => by injection q with _ q; omega)]
   exact h.p j hj
 ·rw [zo _ _ _ _ (fun q => by injection q with _ q; omega)]; exact h.c
 ·rw [zo _ _ _ _ (fun q => by injection q with _ q; omega)]; exact h.l
 ·rw [World.frozen?_setCell]; exact h.f i
 ·unfold updP
  split
  ·exact hs
  ·exact h.sz j
theorem DiskW.left1 {w : World} {D : Nat} {ps : Nat -> ByteArray} {cut : Bool} {left : Int} (h : DiskW w D ps cut left) (n : Int) (hn : 0 <= n /\ n <= 9223372036854775807) : DiskW (w.setCell ⟨D, 151, none⟩ (.int .i64 n)) D ps cut n := by
 refine ⟨fun j hj => ?_, ?_, zs _ _ _ h.l, fun i => ?_, h.sz, hn⟩
 ·rw [zo _ _ _ _ (fun q => by injection q with _ q; omega)]; exact h.p j hj
 ·rw [zo _ _ _ _ (fun q => by injection q with _ q; omega)]; exact h.c
 ·rw [World.frozen?_setCell]; exact h.f i
theorem DiskW.cut1 {w : World} {D : Nat} {ps : Nat -> ByteArray} {cut : Bool} {left : Int} (h : DiskW w D ps cut left) (n : Bool) : DiskW (w.setCell ⟨D, 150, none⟩ (.bool n)) D ps n left := by
 refine ⟨fun j hj => ?_, zs _ _ _ h.c, ?_, fun i => ?_, h.sz, h.l0⟩
 ·rw [zo _ _ _ _ (fun q => by injection q with _ q; omega)]; exact h.p j hj
 ·rw [zo _ _ _ _ (fun q => by injection q with _ q; omega)]; exact h.l
 ·rw [World.frozen?_setCell]; exact h.f i
theorem disk_Cut {w : World} {D : Nat} {ps : Nat -> ByteArray} {cut : Bool} {left : Int} (h : DiskW w D ps cut left) (n : Int) (hn : n <= 9223372036854775807) :
  Calls Tryz.prog 44 #[.pointer (some ⟨D, 0, none⟩), .int .i64 n] w fun e w' => e = .returned (.tuple #[]) /\ DiskW w' D ps (decide (0 <= n)) (max n 0) /\ Keeps (· = D) w w' := by
 have hl := h.l
 have hc := h.c
 have f0 := h.f 150
 have f1 := h.f 151
 have HD := zh ((h.cut1 (decide (0 <= n))).left1 (max n 0) (by omega))
 have HK := zh ((keeps_set w D 150 (.bool (decide (0 <= n)))).trans (keeps_set _ D 151 (.int .i64 (max n 0))))
 clear h hn
 by_cases h0 : 0 <= n
 ·have e1 : decide (0 <= n) = true := decide_eq_true h0
  have e2 : max n 0 = n := by omega
  rw [e1, e2] at HD HK ⊢
  go_enter Tryz.func44, Tryz.ntmps44
  go_wp2
  go_end0
  exact ⟨rfl, uh HD, uh HK⟩
 ·have e1 : decide (0 <= n) = false := decide_eq_false h0
  have e2 : max n 0 = 0 := by omega
  rw [e1, e2] at HD HK ⊢
  go_enter Tryz.func44, Tryz.ntmps44
  go_wp2
  go_end0
  exact ⟨rfl, uh HD, uh HK⟩
def nextL (cut : Bool) (left : Int) : Int := if cut then left - 1 else left
def Laid (w : World) (D : Nat) (ps : Nat -> ByteArray) (cut : Bool) (left : Int) (n : Nat) (s : ByteArray) (w' : World) : Prop := DiskW w' D (updP ps n s) cut (nextL cut left) /\ Keeps (· = D) w w'
theorem disk_write_on {w : World} {D : Nat} {ps : Nat -> ByteArray} {cut : Bool} {left : Int} (h : DiskW w D ps cut left) (n : Nat) (hn : n < 150) (s : ByteArray) (hs : s.size < 50000) (torn : Int) (hp : cut = false \/ left ≠ 0) :
  Calls Tryz.prog 136 #[.pointer (some ⟨D, 0, none⟩), .int .i64 n, .string s, .int .i64 torn] w fun e w' => e = .returned (.bool true) /\ Laid w D ps cut left n s w' := by
 have hl := h.l
 have hc := h.c
 have f1 := h.f 151
 have f0 := h.f n
 have hpn := h.p n hn
 have hl0 := h.l0
 have hn0 : (0 : Int) <= (n : Int) := by omega
 have hn1 : (n : Int) < 150 := by omega
 cases cut with
 | false =>
  have HD : Hid (Laid w D ps false left n s (w.setCell ⟨D, n, none⟩ (.string s))) := ⟨h.place n hn s hs, keeps_set _ _ _ _⟩
  clear h hp hn
  go_enter Tryz.func136, Tryz.ntmps136
  go_wp2
  go_ret
  exact ⟨rfl, uh HD⟩
 | true =>
  have hl2 : left ≠ 0 := by
   rcases hp with q | q
   ·cases q
   ·exact q
  have hl3 : (left == 0) = false := by simp [hl2]
  have HD : Hid (Laid w D ps true left n s ((w.setCell ⟨D, 151, none⟩ (.int .i64 (left - 1))).setCell ⟨D, n, none⟩ (.string s))) := ⟨(h.left1 (left - 1) (by omega)).place n hn s hs, (keeps_set _ _ _ _).trans (keeps_set _ _ _ _)⟩
  have hpn2 : (w.setCell ⟨D, 151, none⟩ (.int .i64 (left - 1))).cell? ⟨D, n, none⟩ = some (.string (ps n)) := (h.left1 (left - 1) (by omega)).p n hn
  clear h hp hl2 hn
  go_enter Tryz.func136, Tryz.ntmps136
  go_wp2
  go_ret
  exact ⟨rfl, uh HD⟩
def Torn (w : World) (D : Nat) (ps : Nat -> ByteArray) (n : Nat) (w' : World) : Prop := ∃ ps', DiskW w' D ps' true 0 /\ Keeps (· = D) w w' /\ (ps' = ps \/ ∃ t, ps' = updP ps n t /\ (10 : UInt8) ∉ t.data.toList)
theorem disk_write_off {w : World} {D : Nat} {ps : Nat -> ByteArray} (h : DiskW w D ps true 0) (n : Nat) (hn : n < 150) (l : List UInt8) (hs : l.length < 40000) (h10 : (10 : UInt8) ∉ l) (torn : Int) :
  Calls Tryz.prog 136 #[.pointer (some ⟨D, 0, none⟩), .int .i64 n, .string ⟨(l ++ [10]).toArray⟩, .int .i64 torn] w fun e w' => e = .returned (.bool false) /\ Torn w D ps n w' := by
 have hl := h.l
 have hc := h.c
 have f0 := h.f n
 have hpn := h.p n hn
 have hn0 : (0 : Int) <= (n : Int) := by omega
 have hn1 : (n : Int) < 150 := by omega
 have hz : (⟨(l ++ [10]).toArray⟩ : ByteArray).size = l.length + 1 := by rw [bytes_len]; simp
 by_cases ht : 0 <= torn
 ·obtain ⟨m, hm, hml⟩ : ∃ m : Nat, min torn (l.length : Int) = m /\ m <= l.length := ⟨(min torn (l.length : Int)).toNat, by omega, by omega⟩
  have hsub : ∀ c, c ∈ ((⟨(l ++ [10]).toArray⟩ : ByteArray).extract 0 m).data.toList -> c ∈ l := fun c hc => by
   rw [cut_list] at hc
   have : c ∈ ((l ++ [10]).drop 0).take (m - 0) := hc
   rw [List.drop_zero, Nat.sub_zero, List.take_append_of_le_length hml] at this
   exact List.mem_of_mem_take this
  have hsz : ((⟨(l ++ [10]).toArray⟩ : ByteArray).extract 0 m).size < 50000 := by
   rw [cut_list, bytes_len]
   simp
   omega
  generalize (⟨(l ++ [10]).toArray⟩ : ByteArray) = s at hz hsub hsz ⊢
  have HD : Hid (Torn w D ps n (w.drew.setCell ⟨D, n, none⟩ (.string (s.extract 0 m)))) := ⟨_, (h.below (below_drew w)).place n hn (s.extract 0 m) hsz, (Keeps.of_below _ (below_drew w) zr).trans (keeps_set _ _ _ _), .inr ⟨_, rfl, fun q => h10 (hsub _ q)⟩⟩
  clear h hn hsub hsz h10
  by_cases hlt : torn <= l.length
  ·obtain rfl : torn = (m : Int) := by omega
   have hw : IntKind.i64.wrap (l.length : Int) = l.length := by simp [IntKind.wrap, IntKind.bits, IntKind.signed]; omega
   have hmn : min (m : Int) (l.length : Int) = m := by omega
   have hb : (m : Int) <= (l.length : Int) + 1 := by omega
   clear hm
   go_enter Tryz.func136, Tryz.ntmps136
   go_wp2
   refine wp_region_tail (fun y => y = w.drew) 12 (by kernel_rfl) (by kernel_rfl) rfl (fun hHeld => ?_)
   refine takeH 0 (h := ?_)
   try simp only [Act.put, sI, sZ, sS]
   refine takeH 1 (h := ?_)
   try simp only [Act.put, sI, sZ, sS]
   refine takeH 2 (h := ?_)
   try simp only [Act.put, sI, sZ, sS]
   refine takeH 3 (h := ?_)
   try simp only [Act.put, sI, sZ, sS]
   refine takeH 4 (h := ?_)
   try simp only [Act.put, sI, sZ, sS]
   refine takeH 5 (h := ?_)
   try simp only [Act.put, sI, sZ, sS]
   refine takeH 6 (h := ?_)
   try simp only [Act.put, sI, sZ, sS]
   refine takeH 7 (h := ?_)
   try simp only [Act.put, sI, sZ, sS]
   refine takeH 8 (h := ?_)
   try simp only [Act.put, sI, sZ, sS]
   refine takeH 9 (h := ?_)
   try simp only [Act.put, sI, sZ, sS]
   refine takeH 10 (h := ?_)
   try simp only [Act.put, sI, sZ, sS]
   refine takeH 11 (h := ?_)
   try simp only [Act.put, sI, sZ, sS]
   refine wpAnyH_done (by kernel_rfl) ?_ _
   show wpList _ _ _ _ _ _
   clear hHeld
   go_wp2
   go_ret
   exact ⟨rfl, uh HD⟩
  ·obtain rfl : m = l.length := by omega
   have hw : IntKind.i64.wrap (l.length : Int) = l.length := by simp [IntKind.wrap, IntKind.bits, IntKind.signed]; omega
   have hmn : min torn (l.length : Int) = l.length := by omega
   have hb : (l.length : Int) <= (l.length : Int) + 1 := by omega
   clear hm
   go_enter Tryz.func136, Tryz.ntmps136
   go_wp2
   refine wp_region_tail (fun y => y = w.drew) 12 (by kernel_rfl) (by kernel_rfl) rfl (fun hHeld => ?_)
   refine takeH 0 (h := ?_)
   try simp only [Act.put, sI, sZ, sS]
   refine takeH 1 (h := ?_)
   try simp only [Act.put, sI, sZ, sS]
   refine takeH 2 (h := ?_)
   try simp only [Act.put, sI, sZ, sS]
   refine takeH 3 (h := ?_)
   try simp only [Act.put, sI, sZ, sS]
   refine takeH 4 (h := ?_)
   try simp only [Act.put, sI, sZ, sS]
   refine takeH 5 (h := ?_)
   try simp only [Act.put, sI, sZ, sS]
   refine takeH 6 (h := ?_)
   try simp only [Act.put, sI, sZ, sS]
   refine takeH 7 (h := ?_)
   try simp only [Act.put, sI, sZ, sS]
   refine takeH 8 (h := ?_)
   try simp only [Act.put, sI, sZ, sS]
   refine takeH 9 (h := ?_)
   try simp only [Act.put, sI, sZ, sS]
   refine takeH 10 (h := ?_)
   try simp only [Act.put, sI, sZ, sS]
   refine takeH 11 (h := ?_)
   try simp only [Act.put, sI, sZ, sS]
   refine wpAnyH_done (by kernel_rfl) ?_ _
   show wpList _ _ _ _ _ _
   clear hHeld
   go_wp2
   go_ret
   exact ⟨rfl, uh HD⟩
 ·have HD : Hid (Torn w D ps n w) := ⟨ps, h, Keeps.refl _ _, .inl rfl⟩
  generalize (⟨(l ++ [10]).toArray⟩ : ByteArray) = s at hz ⊢
  clear h hn h10
  go_enter Tryz.func136, Tryz.ntmps136
  go_wp2
  go_ret
  exact ⟨rfl, uh HD⟩
theorem PastX.beside {w : World} {P : Pl} {now known : Int} {mv : Option Nat} {X : List (Ky × Nat)} {Ln : Nat -> List Ver × Int} {Fs : Nat -> Nat -> Prop} (h : PastX w P now known mv X Ln Fs) {i : Nat} (hi : i < P.o \/ P.o + 3 <= i) {u : Value} (hc : w.cell? ⟨P.b, i, none⟩ = some u) (v : Value) :
  PastX (w.setCell ⟨P.b, i, none⟩ v) ⟨P.b, P.o, fun j => if j = i then some v else P.R j⟩ now known mv X Ln Fs := by
 have hk := keeps_set w P.b i v
 refine ⟨?_, ?_, ?_, fun j => ?_, h.map.keeps hk (fun m e => h.mP e), h.keys, h.blocks, fun x hx => (h.line x hx).keeps hk (fun i hi e => h.nP x hx (by rw [<- e]; exact hi)), h.apart, h.nP, h.nm, fun j hj => ?_⟩
 ·show (w.setCell ⟨P.b, i, none⟩ v).cell? ⟨P.b, P.o, none⟩ = _
  rw [zo _ _ _ _ (fun e => by injection e with _ e; omega)]; exact h.c0
 ·show (w.setCell ⟨P.b, i, none⟩ v).cell? ⟨P.b, P.o + 1, none⟩ = _
  rw [zo _ _ _ _ (fun e => by injection e with _ e; omega)]; exact h.c1
 ·show (w.setCell ⟨P.b, i, none⟩ v).cell? ⟨P.b, P.o + 2, none⟩ = _
  rw [zo _ _ _ _ (fun e => by injection e with _ e; omega)]; exact h.c2
 ·rw [World.frozen?_setCell]; exact h.f j
 ·show (w.setCell ⟨P.b, i, none⟩ v).cell? ⟨P.b, j, none⟩ = if j = i then some v else P.R j
  by_cases e : j = i
  ·subst e
   rw [if_pos rfl]
   exact zs _ _ _ hc
  ·rw [if_neg e, zo _ _ _ _ (fun q => by injection q with _ q; omega)]
   exact h.rest j hj
theorem PastW.rest {w : World} {P : Pl} {now known bd : Int} {S : Ky -> Int -> Int -> ByteArray} {F : Nat -> Prop} (h : PastW w P now known bd S F) : (∀ i, i < P.o \/ P.o + 3 <= i -> w.cell? ⟨P.b, i, none⟩ = P.R i) /\ (∀ i, w.frozen? ⟨P.b, i, none⟩ = false) /\ F P.b := by
 obtain ⟨mv, X, Ln, Fs, h1, _, _, rfl⟩ := h
 exact ⟨h1.rest, h1.f, .inl rfl⟩
def restB (D : Nat) (used : Int) (down : Bool) : Nat -> Option Value := fun i => if i = 0 then some (.pointer (some ⟨D, 0, none⟩)) else if i = 4 then some (.int .i64 used) else if i = 5 then some (.bool down) else none
abbrev plB (B D : Nat) (used : Int) (down : Bool) : Pl := ⟨B, 1, restB D used down⟩
def BaseW (w : World) (B D : Nat) (used : Int) (down : Bool) (txs : List (List Fop)) (known : Int) (F : Nat -> Prop) : Prop := PastT w (plB B D used down) txs known F
theorem BaseW.cells {w : World} {B D : Nat} {used : Int} {down : Bool} {txs : List (List Fop)} {known : Int} {F : Nat -> Prop} (h : BaseW w B D used down txs known F) :
  w.cell? ⟨B, 0, none⟩ = some (.pointer (some ⟨D, 0, none⟩)) /\ w.cell? ⟨B, 4, none⟩ = some (.int .i64 used) /\ w.cell? ⟨B, 5, none⟩ = some (.bool down) /\ (∀ i, w.frozen? ⟨B, i, none⟩ = false) /\ F B /\ w.cell? ⟨B, 1, none⟩ = some (.int .i64 txs.length) /\ w.cell? ⟨B, 2, none⟩ = some (.int .i64 known) := by
 obtain ⟨h1, h2, h3⟩ := PastW.rest h
 obtain ⟨c0, c1⟩ := PastW.cells h
 exact ⟨h1 0 (.inl (Nat.zero_lt_one)), h1 4 (.inr (Nat.le_refl 4)), h1 5 (.inr (Nat.le_succ 4)), h2, h3, c0, c1⟩
theorem BaseW.below {w w' : World} {B D : Nat} {used : Int} {down : Bool} {txs : List (List Fop)} {known : Int} {F : Nat -> Prop} (h : BaseW w B D used down txs known F) (hb : Below w.heap.size w w') : BaseW w' B D used down txs known F := PastT.below h hb
theorem BaseW.keeps {w w' : World} {B D : Nat} {used : Int} {down : Bool} {txs : List (List Fop)} {known : Int} {F H : Nat -> Prop} (h : BaseW w B D used down txs known F) (hk : Keeps H w w') (hH : ∀ i, F i -> ¬ H i) : BaseW w' B D used down txs known F := PastT.keeps h hk hH
theorem BaseW.lt {w : World} {B D : Nat} {used : Int} {down : Bool} {txs : List (List Fop)} {known : Int} {F : Nat -> Prop} (h : BaseW w B D used down txs known F) : ∀ i, F i -> i < w.heap.size := PastW.lt h
theorem restB_used (D : Nat) (used n : Int) (down : Bool) : (fun j => if j = 4 then some (Value.int .i64 n) else restB D used down j) = restB D n down := by
 funext j
 unfold restB
 by_cases e : j = 4
 ·subst e; simp
 ·simp [e]
theorem restB_down (D : Nat) (used : Int) (down d : Bool) : (fun j => if j = 5 then some (Value.bool d) else restB D used down j) = restB D used d := by
 funext j
 unfold restB
 by_cases e : j = 5
 ·subst e; simp
 ·simp [e]
theorem BaseW.setUsed {w : World} {B D : Nat} {used : Int} {down : Bool} {txs : List (List Fop)} {known : Int} {F : Nat -> Prop} (h : BaseW w B D used down txs known F) (n : Int) : BaseW (w.setCell ⟨B, 4, none⟩ (.int .i64 n)) B D n down txs known F := by
 have hc := h.cells.2.1
 obtain ⟨mv, X, Ln, Fs, h1, h2, h3, h4⟩ := h
 have := h1.beside (i := 4) (.inr (Nat.le_refl 4)) hc (.int .i64 n)
 refine ⟨mv, X, Ln, Fs, ?_, h2, h3, h4⟩
 unfold plB
 rw [<- restB_used D used n down]
 exact this
theorem BaseW.setDown {w : World} {B D : Nat} {used : Int} {down : Bool} {txs : List (List Fop)} {known : Int} {F : Nat -> Prop} (h : BaseW w B D used down txs known F) (d : Bool) : BaseW (w.setCell ⟨B, 5, none⟩ (.bool d)) B D used d txs known F := by
 have hc := h.cells.2.2.1
 obtain ⟨mv, X, Ln, Fs, h1, h2, h3, h4⟩ := h
 have := h1.beside (i := 5) (.inr (Nat.le_succ 4)) hc (.bool d)
 refine ⟨mv, X, Ln, Fs, ?_, h2, h3, h4⟩
 unfold plB
 rw [<- restB_down D used down d]
 exact this
def Took (w : World) (B D : Nat) (used : Int) (down : Bool) (st : List (List Fop) × Int) (F : Nat -> Prop) (w' : World) : Prop := ∃ F', BaseW w' B D used down st.1 st.2 F' /\ Grew w F F' w'
theorem take_commit {w : World} {B D : Nat} {used : Int} {down : Bool} {txs : List (List Fop)} {known : Int} {F : Nat -> Prop} (h : BaseW w B D used down txs known F) (l : List Fop) (hl : okL l) (h1 : txs.length < 150) (hk : known <= txs.length) (ht : Tab w) (hb : Libs w) :
  Calls Tryz.prog 111 #[.pointer (some ⟨B, 0, none⟩), .string ⟨(opsL l ++ [10]).toArray⟩] w fun e w' => e = .returned (.bool true) /\ Took w B D used down (txs ++ [l], known) F w' := by
 have hlen : (opsL l).length <= l.length * 155 := wrs_length_le l hl.2.2
 have hl8 := hl.2.1
 have HC := zh (cut_suffix_yes (opsL l) w (by omega))
 obtain ⟨c, r, hcr, hc⟩ := ops_head l hl
 have hrl : r.length < 100000 := by
  have := congrArg List.length hcr
  simp at this
  omega
 have HP := zh (cut_prefix_no c r w hrl hc)
 rw [<- hcr] at HP
 have HR := zh (fact_Read ⟨(opsL l).toArray⟩ w (by rw [bytes_len]; omega) hb ht)
 have HH := zh h
 have HT := zh ht
 have HL := zh hl
 clear hb ht hl hc hcr hrl hlen hl8 h
 generalize hst : (⟨(opsL l ++ [10]).toArray⟩ : ByteArray) = st at HC ⊢
 clear hst
 go_enter Tryz.func111, Tryz.ntmps111
 go_wp2_with fail
 refine (uh HC).mono ?_
 rintro e W1 ⟨rfl, hW1⟩
 obtain rfl : w = W1 := hW1.symm
 clear hW1 HC
 go_wp2_with fail
 refine (uh HP).mono ?_
 rintro e W1 ⟨rfl, hW1⟩
 obtain rfl : w = W1 := hW1.symm
 clear hW1 HP
 go_wp2_with fail
 refine (uh HR).mono ?_
 rintro e W2 ⟨hR, b2⟩
 rcases hR with ⟨q, v, hq, hqe, rfl, hv⟩ | ⟨hno, _⟩
 ·obtain rfl : l = q := wrs_inj l q (uh HL) hq (by simpa using hqe)
  have hne : l ≠ [] := fun e => by
   have := hq.1
   rw [e] at this
   simp at this
  obtain ⟨g, cap, rfl, hO, hg⟩ := RowO.at (show RowO W2 w.heap.size v l from hv) hne
  have HB := zh b2
  have hgF : ¬ F g := fun q => by
   have := (uh HH).lt g q
   omega
  have HCm := zh (commit_txs ((uh HH).below b2) l g 0 cap hq hO hgF ((uh HT).carry b2) h1 hk)
  clear hv hO hg hgF hqe HR b2
  go_wp2_with fail
  refine (uh HCm).mono ?_
  rintro e W3 ⟨rfl, F', p3, g3⟩
  have HF : Hid (Took w B D used down (txs ++ [l], known) F W3) := ⟨F', p3, Grew.below (uh HB) g3⟩
  clear p3 g3 HCm HH HB
  go_wp2
  go_ret
  exact ⟨rfl, uh HF⟩
 ·exact absurd rfl (hno l (uh HL))
theorem itoa_short (n : Int) (h0 : -9223372036854775808 <= n) (h1 : n <= 9223372036854775807) : (Lib.itoa n).length <= 21 := Lib.itoa_length_le n h0 h1
theorem take_forget {w : World} {B D : Nat} {used : Int} {down : Bool} {txs : List (List Fop)} {known : Int} {F : Nat -> Prop} (h : BaseW w B D used down txs known F) (n : Int) (h0 : 0 <= n) (hk : known <= n) (hn : n <= txs.length) (h1 : txs.length <= 150) :
  Calls Tryz.prog 111 #[.pointer (some ⟨B, 0, none⟩), .string ⟨(forgetL ++ Lib.itoa n ++ [10]).toArray⟩] w fun e w' => e = .returned (.bool true) /\ Took w B D used down (txs, n) F w' := by
 have hlen := itoa_short n (by omega) (by omega)
 have hfl : forgetL.length = 7 := rfl
 have HC := zh (cut_suffix_yes (forgetL ++ Lib.itoa n) w (by rw [List.length_append]; omega))
 have HP := zh (cut_prefix_yes (Lib.itoa n) w (by omega))
 have HA := zh (atoi_ok ⟨(Lib.itoa n).toArray⟩ n w (by rw [bytes_len]; omega) (atoi_itoa n (by omega) (by omega)))
 have HF := zh (fun W (hb : Below w.heap.size w W) => forget_ok (h.below hb) n h0 hk hn (by omega))
 clear h hlen
 generalize hst : (⟨(forgetL ++ Lib.itoa n ++ [10]).toArray⟩ : ByteArray) = st at HC ⊢
 clear hst
 go_enter Tryz.func111, Tryz.ntmps111
 go_wp2_with fail
 refine (uh HC).mono ?_
 rintro e W1 ⟨rfl, hW1⟩
 obtain rfl : w = W1 := hW1.symm
 clear hW1 HC
 go_wp2_with fail
 refine (uh HP).mono ?_
 rintro e W1 ⟨rfl, hW1⟩
 obtain rfl : w = W1 := hW1.symm
 clear hW1 HP
 go_wp2_with fail
 refine (uh HA).mono ?_
 rintro e W2 ⟨rfl, b2⟩
 have HB := zh b2
 have HF2 := zh (uh HF W2 b2)
 clear b2 HA HF
 go_wp2_with fail
 refine (uh HF2).mono ?_
 rintro e W3 ⟨rfl, F', p3, g3⟩
 have HT : Hid (Took w B D used down (txs, n) F W3) := ⟨F', p3, Grew.below (uh HB) g3⟩
 clear p3 g3 HF2 HB
 go_wp2
 go_ret
 exact ⟨rfl, uh HT⟩
theorem take_none {w : World} {B : Nat} (s : ByteArray) (hs : s.size < 50000) (hn : (10 : UInt8) ∉ s.data.toList) :
  Calls Tryz.prog 111 #[.pointer (some ⟨B, 0, none⟩), .string s] w fun e w' => e = .returned (.bool false) /\ w' = w := by
 have HC := zh (cut_suffix_no s w (by omega) hn)
 clear hs hn
 go_enter Tryz.func111, Tryz.ntmps111
 go_wp2_with fail
 refine (uh HC).mono ?_
 rintro e W1 ⟨rfl, hW1⟩
 obtain rfl : w = W1 := hW1.symm
 clear hW1 HC
 go_wp2
 go_ret
 exact ⟨rfl, rfl⟩
theorem base_new (w : World) (D : Nat) : BaseW (w.alloc (.cells #[.pointer (some ⟨D, 0, none⟩), .int .i64 0, .int .i64 0, .map none, .int .i64 0, .bool false] 139)) w.heap.size D 0 false [] 0 (pastF (plB w.heap.size D 0 false) none [] (fun _ _ => False)) := by
 refine ⟨none, [], fun _ => ([], 0), fun _ _ => False, ⟨by simp, by simp, by simp, fun i => by simp, .inl ⟨rfl, rfl⟩, List.Pairwise.nil, List.Pairwise.nil, by simp, by simp, by simp, by simp, fun i hi => ?_⟩, ⟨by simp, by simp, by simp, fun _ _ _ _ _ _ => ?_⟩, by simp, rfl⟩
 ·have hi' : i < 1 \/ 1 + 3 <= i := hi
  show (w.alloc (.cells #[.pointer (some ⟨D, 0, none⟩), .int .i64 0, .int .i64 0, .map none, .int .i64 0, .bool false] 139)).cell? ⟨w.heap.size, i, none⟩ = restB D 0 false i
  unfold World.cell? restB
  rw [heap_alloc_new]
  rcases Nat.lt_or_ge i 6 with q | q
  ·have : i = 0 \/ i = 4 \/ i = 5 := by omega
   rcases this with rfl | rfl | rfl <;> rfl
  ·have h0 : i ≠ 0 := by omega
   have h4 : i ≠ 4 := by omega
   have h5 : i ≠ 5 := by omega
   simp [h0, h4, h5, q]
 ·unfold refI refS
  simp
  rfl
structure OpI (w : World) (B D : Nat) (ps : Nat -> ByteArray) (cut : Bool) (left : Int) (es : List (List Fop ⊕ Int)) (j : Nat) (F : Nat -> Prop) (W : World) : Prop where
 base : BaseW W B D j false (stE (es.take j)).1 (stE (es.take j)).2 F
 own : ∀ i, F i -> w.heap.size <= i
 low : Below w.heap.size w W
 disk : DiskW W D ps cut left
def Opened (w : World) (D : Nat) (es : List (List Fop ⊕ Int)) (e : Ending) (w' : World) : Prop :=
 ∃ B F, e = .returned (.tuple #[.pointer (some ⟨B, 0, none⟩), .nilIface]) /\ BaseW w' B D es.length false (stE es).1 (stE es).2 F /\ (∀ i, F i -> w.heap.size <= i) /\ Below w.heap.size w w'
theorem took_of {w : World} {B D : Nat} {ps : Nat -> ByteArray} {cut : Bool} {left : Int} {es : List (List Fop ⊕ Int)} {j : Nat} {F : Nat -> Prop} {W : World} (hI : OpI w B D ps cut left es j F W) (hH : Holds ps es) (hj : j < es.length) (he : es.length <= 150) (ht : Tab W) (hb : Libs W) :
  Calls Tryz.prog 111 #[.pointer (some ⟨B, 0, none⟩), .string (ps j)] W.drew fun e w' => e = .returned (.bool true) /\ Took W B D j false (stE (es.take (j + 1))) F w' := by
 have hbd := below_drew W
 have hs := bytes_is (hH.there j hj)
 have hg := good_take hH.good j
 obtain ⟨b1, b2, b3⟩ := stE_bounds hg
 rw [List.length_take] at b1
 have hok := hH.good j hj
 have e1 : stE (es.take (j + 1)) = stepE (stE (es.take j)) es[j] := by rw [List.take_succ_eq_append_getElem hj, stE_snoc]
 rw [hs, e1]
 have hB := hI.base.below hbd
 have ht2 := ht.carry hbd
 have hb2 := hb.carry hbd
 rcases hx : es[j] with l | n
 ·rw [hx] at hok
  refine (take_commit hB l hok (by omega) b3 ht2 hb2).mono ?_
  rintro e w' ⟨rfl, F', p, g⟩
  exact ⟨rfl, F', p, Grew.below hbd g⟩
 ·rw [hx] at hok
  obtain ⟨q1, q2⟩ := (hok : (stE (es.take j)).2 <= n /\ n <= (stE (es.take j)).1.length)
  refine (take_forget hB n (by omega) q1 q2 (by omega)).mono ?_
  rintro e w' ⟨rfl, F', p, g⟩
  exact ⟨rfl, F', p, Grew.below hbd g⟩
theorem base_Open {w : World} {D : Nat} {ps : Nat -> ByteArray} {cut : Bool} {left : Int} {es : List (List Fop ⊕ Int)} (h : DiskW w D ps cut left) (hH : Holds ps es) (he : es.length <= 150) (ht : Tab w) (hb : Libs w) :
  Calls Tryz.prog 63 #[.pointer (some ⟨D, 0, none⟩)] w (Opened w D es) := by
 have HN := zh (base_new w D)
 have HB0 := zh (below_box w (.cells #[.pointer (some ⟨D, 0, none⟩), .int .i64 0, .int .i64 0, .map none, .int .i64 0, .bool false] 139))
 have HD0 := zh (h.below (uh HB0))
 have HH := zh hH
 have HT := zh ht
 have HL := zh hb
 have HDw := zh h
 clear h hH ht hb
 go_enter Tryz.func63, Tryz.ntmps63
 go_wp2
 generalize w.alloc (.cells #[.pointer (some ⟨D, 0, none⟩), .int .i64 0, .int .i64 0, .map none, .int .i64 0, .bool false] 139) = W0 at *
 go_loopw [] (fun y => ∃ (j : Nat) (F : Nat -> Prop), j <= es.length /\ OpI w w.heap.size D ps cut left es j F y) (fun y => es.length - (intOf ((y.cell? ⟨w.heap.size, 4, none⟩).getD undef)).toNat)
 case atStart =>
  refine ⟨0, _, Nat.zero_le _, uh HN, ?_, uh HB0, uh HD0⟩
  rintro i (rfl | q | ⟨x, hx, _⟩)
  ·exact Nat.le_refl _
  ·cases q
  ·cases hx
 case round =>
  obtain ⟨j, F, hj, hI⟩ := hrel
  have HI := zh hI
  obtain ⟨c0, c4, c5, f, fB, c1, c2⟩ := hI.base.cells
  have f4 := f 4
  have HM1 := zh c4
  clear hI f
  by_cases hjl : j < es.length
  ·have hlt : j < 150 := by omega
   have hlt' : (j : Int) < 150 := by omega
   have hj0 : (0 : Int) <= (j : Int) := by omega
   have hp := (uh HI).disk.p j hlt
   have HTk := zh (took_of (uh HI) (uh HH) hjl he ((uh HT).carry (uh HI).low) ((uh HL).carry (uh HI).low))
   generalize ps j = sj at hp HTk
   go_wp2
   refine wp_region_tail (fun y => y = wr.drew) 16 (by kernel_rfl) (by kernel_rfl) rfl (fun hHeld => ?_)
   refine takeH 0 (h := ?_)
   try simp only [Act.put, sI, sZ, sS]
   refine takeH 1 (h := ?_)
   try simp only [Act.put, sI, sZ, sS]
   refine takeH 2 (h := ?_)
   try simp only [Act.put, sI, sZ, sS]
   refine takeH 3 (h := ?_)
   try simp only [Act.put, sI, sZ, sS]
   refine takeH 4 (h := ?_)
   try simp only [Act.put, sI, sZ, sS]
   refine takeH 5 (h := ?_)
   try simp only [Act.put, sI, sZ, sS]
   refine takeH 6 (h := ?_)
   try simp only [Act.put, sI, sZ, sS]
   refine takeH 7 (h := ?_)
   try simp only [Act.put, sI, sZ, sS]
   refine takeH 8 (h := ?_)
   try simp only [Act.put, sI, sZ, sS]
   refine takeH 9 (h := ?_)
   try simp only [Act.put, sI, sZ, sS]
   refine takeH 10 (h := ?_)
   try simp only [Act.put, sI, sZ, sS]
   refine takeH 11 (h := ?_)
   try simp only [Act.put, sI, sZ, sS]
   refine takeH 12 (h := ?_)
   try simp only [Act.put, sI, sZ, sS]
   refine takeH 13 (h := ?_)
   try simp only [Act.put, sI, sZ, sS]
   refine takeH 14 (h := ?_)
   try simp only [Act.put, sI, sZ, sS]
   refine takeH 15 (h := ?_)
   try simp only [Act.put, sI, sZ, sS]
   refine wpAnyH_done (by kernel_rfl) ?_ _
   show wpList _ _ _ _ _ _
   clear hHeld
   go_wp2_with fail
   refine (uh HTk).mono ?_
   rintro e W2 ⟨rfl, F2, p2, g2⟩
   have hlow : Below w.heap.size w W2 := (uh HI).low.trans (keeps_below g2.2 (uh HI).own (uh HI).low.size)
   have hown : ∀ i, F2 i -> w.heap.size <= i := fun i hi => by
    rcases g2.1 i hi with q | q
    ·exact (uh HI).own i q
    ·exact Nat.le_trans (uh HI).low.size q
   have hDn : ¬ F D := fun q => Nat.lt_irrefl D (Nat.lt_of_lt_of_le (uh HDw).lt ((uh HI).own D q))
   have hD2 := (uh HI).disk.keeps g2.2 hDn
   obtain ⟨_, d4, _, ff, _, _, _⟩ := BaseW.cells p2
   have f4' := ff 4
   have hks := keeps_set W2 w.heap.size 4 (.int .i64 ((j : Int) + 1))
   have HN2 : Hid (OpI w w.heap.size D ps cut left es (j + 1) F2 (W2.setCell ⟨w.heap.size, 4, none⟩ (.int .i64 ((j : Int) + 1)))) :=
    ⟨BaseW.setUsed p2 _, hown, hlow.trans (keeps_below hks (fun i e => Nat.le_of_eq e.symm) hlow.size), hD2.keeps hks (fun e => Nat.ne_of_lt (uh HDw).lt e)⟩
   have HM2 : Hid ((W2.setCell ⟨w.heap.size, 4, none⟩ (.int .i64 ((j : Int) + 1))).cell? ⟨w.heap.size, 4, none⟩ = some (.int .i64 ((j : Int) + 1))) := zs _ _ _ d4
   clear p2 g2 hlow hown hDn hD2 hks ff HTk HI c0 c4 c5 fB c1 c2 f4
   go_wp2
   go_roundw
   case rel => exact ⟨j + 1, F2, by omega, uh HN2⟩
   case measure =>
    rw [uh HM1, uh HM2]
    simp [intOf]
    omega
  ·obtain rfl : j = es.length := by omega
   have HF : Hid (∀ W, Below wr.heap.size wr W -> Opened w D es (.returned (.tuple #[.pointer (some ⟨w.heap.size, 0, none⟩), .nilIface])) W) := fun W hW => by
    have := (uh HI).base
    rw [List.take_length] at this
    exact ⟨w.heap.size, F, rfl, this.below hW, (uh HI).own, (uh HI).low.trans (hW.mono (uh HI).low.size)⟩
   have hj0 : (0 : Int) <= (es.length : Int) := by omega
   by_cases hlt : es.length < 150
   ·have hlt' : (es.length : Int) < 150 := by omega
    have hp := (uh HI).disk.p es.length hlt
    have HTk := zh (take_none (w := wr.drew) (B := w.heap.size) (ps es.length) ((uh HI).disk.sz _) ((uh HH).none es.length zr))
    generalize ps es.length = sj at hp HTk
    go_wp2
    refine wp_region_tail (fun y => y = wr.drew) 16 (by kernel_rfl) (by kernel_rfl) rfl (fun hHeld => ?_)
    refine takeH 0 (h := ?_)
    try simp only [Act.put, sI, sZ, sS]
    refine takeH 1 (h := ?_)
    try simp only [Act.put, sI, sZ, sS]
    refine takeH 2 (h := ?_)
    try simp only [Act.put, sI, sZ, sS]
    refine takeH 3 (h := ?_)
    try simp only [Act.put, sI, sZ, sS]
    refine takeH 4 (h := ?_)
    try simp only [Act.put, sI, sZ, sS]
    refine takeH 5 (h := ?_)
    try simp only [Act.put, sI, sZ, sS]
    refine takeH 6 (h := ?_)
    try simp only [Act.put, sI, sZ, sS]
    refine takeH 7 (h := ?_)
    try simp only [Act.put, sI, sZ, sS]
    refine takeH 8 (h := ?_)
    try simp only [Act.put, sI, sZ, sS]
    refine takeH 9 (h := ?_)
    try simp only [Act.put, sI, sZ, sS]
    refine takeH 10 (h := ?_)
    try simp only [Act.put, sI, sZ, sS]
    refine takeH 11 (h := ?_)
    try simp only [Act.put, sI, sZ, sS]
    refine takeH 12 (h := ?_)
    try simp only [Act.put, sI, sZ, sS]
    refine takeH 13 (h := ?_)
    try simp only [Act.put, sI, sZ, sS]
    refine takeH 14 (h := ?_)
    try simp only [Act.put, sI, sZ, sS]
    refine takeH 15 (h := ?_)
    try simp only [Act.put, sI, sZ, sS]
    refine wpAnyH_done (by kernel_rfl) ?_ _
    show wpList _ _ _ _ _ _
    clear hHeld
    go_wp2_with fail
    refine (uh HTk).mono ?_
    rintro e W2 ⟨rfl, hW2⟩
    obtain rfl : W2 = wr.drew := hW2
    clear HTk
    go_wp2
    go_ret2
    exact uh HF _ (below_drew wr)
   ·have h150 : (es.length : Int) = 150 := by omega
    rw [h150] at c4
    clear h150 hlt hj0 hjl HM1 HI
    go_wp2
    go_quiet (fail)
    go_wp2
    go_ret2
    exact uh HF _ ⟨rfl, rfl, rfl, Nat.le_refl _, fun _ _ => rfl⟩
end Go.Proofs.YtbmkmfoaoganeaaGreatDoor
