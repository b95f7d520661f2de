/- Texts of one proof, one behind the other. -/
import Derived.Test.YtfoojmflbifkpaaGreatDoorEa
import Derived.Test.YtfoojmflbifkpaaGreatDoorEn
set_option maxRecDepth 100000
set_option maxHeartbeats 16000000
namespace Go.Proofs.YtfoojmflbifkpaaGreatDoor
open Go.RowKit
theorem bytes_is {s : ByteArray} {l : List UInt8} (h : s.data.toList = l) : s = ⟨l.toArray⟩ := by
 cases s with
 | mk d => rw [<- h]
theorem bytes_len (l : List UInt8) : (⟨l.toArray⟩ : ByteArray).size = l.length := by
 show l.toArray.size = _
 simp
theorem cut_list (l : List UInt8) (a b : Nat) : (⟨l.toArray⟩ : ByteArray).extract a b = ⟨((l.drop a).take (b - a)).toArray⟩ := by
 apply bytes_is
 simp [List.extract_eq_take_drop]
def forgetS : List UInt8 := [102, 111, 114, 103, 101, 116, 32]
theorem lite_suffix_yes (l : List UInt8) (w : World) (hs : l.length < 100000) :
  Calls Tryz.prog 239 #[.string ⟨(l ++ [10]).toArray⟩, .string ⟨#[10]⟩] w fun e w' => e = .returned (.bool true) /\ w' = w := by
 have hz : (⟨(l ++ [10]).toArray⟩ : ByteArray).size = l.length + 1 := by rw [bytes_len]; simp
 have h1 : ((⟨(l ++ [10]).toArray⟩ : ByteArray).extract l.length (l.length + 1)).toList = [10] := by
  rw [ByteArray.toList_eq]
  simp
 generalize (⟨(l ++ [10]).toArray⟩ : ByteArray) = s at hz h1 ⊢
 go_enter Tryz.func239, Tryz.ntmps239
 go_wp2
 go_ret
 exact ⟨rfl, rfl⟩
theorem lite_suffix_no (s : ByteArray) (w : World) (hs : s.size < 100000) (hn : (10 : UInt8) ∉ s.data.toList) :
  Calls Tryz.prog 239 #[.string s, .string ⟨#[10]⟩] w fun e w' => e = .returned (.bool false) /\ w' = w := by
 by_cases h0 : s.size = 0
 ·clear hn hs
  go_enter Tryz.func239, Tryz.ntmps239
  go_wp2
  go_ret
  exact ⟨rfl, rfl⟩
 ·obtain ⟨n, hz⟩ : ∃ n, s.size = n + 1 := ⟨s.size - 1, by omega⟩
  have hs' : n < 100000 := by omega
  have h1 : ((s.extract n (n + 1)).toList == [10]) = false := by
   rw [beq_eq_false_iff_ne, ByteArray.toList_eq]
   intro e
   apply hn
   have hm : (10 : UInt8) ∈ (s.extract n (n + 1)).data.toList := by rw [e]; simp
   rw [ByteArray.data_extract] at hm
   simp only [Array.toList_extract] at hm
   exact List.mem_of_mem_drop (List.mem_of_mem_take hm)
  clear hn hs h0
  go_enter Tryz.func239, Tryz.ntmps239
  go_wp2
  go_ret
  exact ⟨rfl, rfl⟩
theorem cut_suffix_yes (l : List UInt8) (w : World) (hs : l.length < 100000) :
  Calls Tryz.prog 125 #[.string ⟨(l ++ [10]).toArray⟩, .string ⟨#[10]⟩] w fun e w' => e = .returned (.tuple #[.string ⟨l.toArray⟩, .bool true]) /\ w' = w := by
 have HS := zh (lite_suffix_yes l w hs)
 have hz : (⟨(l ++ [10]).toArray⟩ : ByteArray).size = l.length + 1 := by rw [bytes_len]; simp
 have h1 : (⟨(l ++ [10]).toArray⟩ : ByteArray).extract 0 l.length = ⟨l.toArray⟩ := by
  rw [cut_list]
  simp
 generalize (⟨(l ++ [10]).toArray⟩ : ByteArray) = s at hz h1 HS ⊢
 have HC : Hid (Calls Tryz.prog 170 #[.string s, .string ⟨#[10]⟩] w fun e w' => e = .returned (.tuple #[.string ⟨l.toArray⟩, .bool true]) /\ w' = w) := by
  unfold Hid
  go_enter Tryz.func170, Tryz.ntmps170
  go_wp2_with fail
  refine (uh HS).mono ?_
  rintro e W1 ⟨rfl, hW1⟩
  obtain rfl : w = W1 := hW1.symm
  clear hW1 HS
  go_wp2
  go_ret2
  exact ⟨rfl, rfl⟩
 clear HS hz h1
 go_enter Tryz.func125, Tryz.ntmps125
 go_wp2_with fail
 refine (uh HC).mono ?_
 rintro e W1 ⟨rfl, rfl⟩
 go_wp2
 go_ret2
 exact ⟨rfl, rfl⟩
theorem cut_suffix_no (s : ByteArray) (w : World) (hs : s.size < 100000) (hn : (10 : UInt8) ∉ s.data.toList) :
  Calls Tryz.prog 125 #[.string s, .string ⟨#[10]⟩] w fun e w' => e = .returned (.tuple #[.string s, .bool false]) /\ w' = w := by
 have HS := zh (lite_suffix_no s w hs hn)
 clear hs hn
 have HC : Hid (Calls Tryz.prog 170 #[.string s, .string ⟨#[10]⟩] w fun e w' => e = .returned (.tuple #[.string s, .bool false]) /\ w' = w) := by
  unfold Hid
  go_enter Tryz.func170, Tryz.ntmps170
  go_wp2_with fail
  refine (uh HS).mono ?_
  rintro e W1 ⟨rfl, hW1⟩
  obtain rfl : w = W1 := hW1.symm
  clear hW1 HS
  go_wp2
  go_ret2
  exact ⟨rfl, rfl⟩
 clear HS
 go_enter Tryz.func125, Tryz.ntmps125
 go_wp2_with fail
 refine (uh HC).mono ?_
 rintro e W1 ⟨rfl, rfl⟩
 go_wp2
 go_ret2
 exact ⟨rfl, rfl⟩
theorem has_suffix_no (s : ByteArray) (w : World) (hs : s.size < 100000) (hn : (10 : UInt8) ∉ s.data.toList) :
  Calls Tryz.prog 176 #[.string s, .string ⟨#[10]⟩] w fun e w' => e = .returned (.bool false) /\ w' = w := by
 have HS := zh (lite_suffix_no s w hs hn)
 clear hs hn
 go_enter Tryz.func176, Tryz.ntmps176
 go_wp2_with fail
 refine (uh HS).mono ?_
 rintro e W1 ⟨rfl, rfl⟩
 go_wp2
 go_ret
 exact ⟨rfl, rfl⟩
theorem lite_prefix_yes (r : List UInt8) (w : World) (hs : r.length < 100000) :
  Calls Tryz.prog 240 #[.string ⟨(forgetS ++ r).toArray⟩, .string ⟨#[102, 111, 114, 103, 101, 116, 32]⟩] w fun e w' => e = .returned (.bool true) /\ w' = w := by
 have hz : (⟨(forgetS ++ r).toArray⟩ : ByteArray).size = r.length + 7 := by rw [bytes_len]; simp [forgetS]
 have h1 : ((⟨(forgetS ++ r).toArray⟩ : ByteArray).extract 0 7).toList = [102, 111, 114, 103, 101, 116, 32] := by
  rw [cut_list, ByteArray.toList_eq]
  simp [forgetS]
 generalize (⟨(forgetS ++ r).toArray⟩ : ByteArray) = s at hz h1 ⊢
 go_enter Tryz.func240, Tryz.ntmps240
 go_wp2
 go_ret
 exact ⟨rfl, rfl⟩
theorem lite_prefix_no (c : UInt8) (r : List UInt8) (w : World) (hs : r.length < 100000) (hc : c.toNat ≠ 102) :
  Calls Tryz.prog 240 #[.string ⟨(c :: r).toArray⟩, .string ⟨#[102, 111, 114, 103, 101, 116, 32]⟩] w fun e w' => e = .returned (.bool false) /\ w' = w := by
 have hz : (⟨(c :: r).toArray⟩ : ByteArray).size = r.length + 1 := by rw [bytes_len]; simp
 have h1 : (((⟨(c :: r).toArray⟩ : ByteArray).extract 0 7).toList == [102, 111, 114, 103, 101, 116, 32]) = false := by
  rw [beq_eq_false_iff_ne, cut_list, ByteArray.toList_eq]
  intro e
  simp at e
  exact hc (by rw [e.1]; rfl)
 generalize (⟨(c :: r).toArray⟩ : ByteArray) = s at hz h1 ⊢
 by_cases h7 : 7 <= r.length + 1
 ·go_enter Tryz.func240, Tryz.ntmps240
  go_wp2
  go_ret
  exact ⟨rfl, rfl⟩
 ·have h7' : ¬ (7 : Int) <= (r.length : Int) + 1 := by omega
  go_enter Tryz.func240, Tryz.ntmps240
  go_wp2
  go_ret
  exact ⟨rfl, rfl⟩
theorem cut_prefix_yes (r : List UInt8) (w : World) (hs : r.length < 100000) :
  Calls Tryz.prog 126 #[.string ⟨(forgetS ++ r).toArray⟩, .string ⟨#[102, 111, 114, 103, 101, 116, 32]⟩] w fun e w' => e = .returned (.tuple #[.string ⟨r.toArray⟩, .bool true]) /\ w' = w := by
 have HS := zh (lite_prefix_yes r w hs)
 have hz : (⟨(forgetS ++ r).toArray⟩ : ByteArray).size = r.length + 7 := by rw [bytes_len]; simp [forgetS]
 have h1 : (⟨(forgetS ++ r).toArray⟩ : ByteArray).extract 7 (r.length + 7) = ⟨r.toArray⟩ := by
  rw [cut_list]
  simp [forgetS]
 generalize (⟨(forgetS ++ r).toArray⟩ : ByteArray) = s at hz h1 HS ⊢
 have HC : Hid (Calls Tryz.prog 171 #[.string s, .string ⟨#[102, 111, 114, 103, 101, 116, 32]⟩] w fun e w' => e = .returned (.tuple #[.string ⟨r.toArray⟩, .bool true]) /\ w' = w) := by
  unfold Hid
  go_enter Tryz.func171, Tryz.ntmps171
  go_wp2_with fail
  refine (uh HS).mono ?_
  rintro e W1 ⟨rfl, hW1⟩
  obtain rfl : w = W1 := hW1.symm
  clear hW1 HS
  go_wp2
  go_ret2
  exact ⟨rfl, rfl⟩
 clear HS hz h1
 go_enter Tryz.func126, Tryz.ntmps126
 go_wp2_with fail
 refine (uh HC).mono ?_
 rintro e W1 ⟨rfl, rfl⟩
 go_wp2
 go_ret2
 exact ⟨rfl, rfl⟩
theorem cut_prefix_no (c : UInt8) (r : List UInt8) (w : World) (hs : r.length < 100000) (hc : c.toNat ≠ 102) :
  Calls Tryz.prog 126 #[.string ⟨(c :: r).toArray⟩, .string ⟨#[102, 111, 114, 103, 101, 116, 32]⟩] w fun e w' => e = .returned (.tuple #[.string ⟨(c :: r).toArray⟩, .bool false]) /\ w' = w := by
 have HS := zh (lite_prefix_no c r w hs hc)
 clear hs hc
 generalize (⟨(c :: r).toArray⟩ : ByteArray) = s at HS ⊢
 have HC : Hid (Calls Tryz.prog 171 #[.string s, .string ⟨#[102, 111, 114, 103, 101, 116, 32]⟩] w fun e w' => e = .returned (.tuple #[.string s, .bool false]) /\ w' = w) := by
  unfold Hid
  go_enter Tryz.func171, Tryz.ntmps171
  go_wp2_with fail
  refine (uh HS).mono ?_
  rintro e W1 ⟨rfl, hW1⟩
  obtain rfl : w = W1 := hW1.symm
  clear hW1 HS
  go_wp2
  go_ret2
  exact ⟨rfl, rfl⟩
 clear HS
 go_enter Tryz.func126, Tryz.ntmps126
 go_wp2_with fail
 refine (uh HC).mono ?_
 rintro e W1 ⟨rfl, rfl⟩
 go_wp2
 go_ret2
 exact ⟨rfl, rfl⟩
end Go.Proofs.YtfoojmflbifkpaaGreatDoor

namespace Go.Proofs.YtfoojmflbifkpaaGreatDoor
def forgetL : List UInt8 := [102, 111, 114, 103, 101, 116, 32]
def bodyL : List Fop ⊕ Int -> List UInt8
 | .inl l => opsL l
 | .inr n => forgetL ++ Lib.itoa n
def entL (x : List Fop ⊕ Int) : List UInt8 := bodyL x ++ [10]
def stepE (st : List (List Fop) × Int) : List Fop ⊕ Int -> List (List Fop) × Int
 | .inl l => (st.1 ++ [l], st.2)
 | .inr n => (st.1, n)
def stE (es : List (List Fop ⊕ Int)) : List (List Fop) × Int := es.foldl stepE ([], 0)
theorem stE_snoc (es : List (List Fop ⊕ Int)) (x : List Fop ⊕ Int) : stE (es ++ [x]) = stepE (stE es) x := by simp [stE]
def OkE (st : List (List Fop) × Int) : List Fop ⊕ Int -> Prop
 | .inl l => okL l
 | .inr n => st.2 <= n /\ n <= st.1.length
def GoodE (es : List (List Fop ⊕ Int)) : Prop := ∀ j, (h : j < es.length) -> OkE (stE (es.take j)) es[j]
theorem good_snoc {es : List (List Fop ⊕ Int)} {x : List Fop ⊕ Int} (h : GoodE es) (hx : OkE (stE es) x) : GoodE (es ++ [x]) := by
 intro j hj
 rw [List.length_append, List.length_singleton] at hj
 by_cases q : j < es.length
 ·rw [List.take_append_of_le_length (by omega), List.getElem_append_left q]
  exact h j q
 ·obtain rfl : j = es.length := by omega
  rw [List.take_append_of_le_length zr, List.take_length, List.getElem_append_right zr]
  simpa using hx
theorem good_take {es : List (List Fop ⊕ Int)} (h : GoodE es) (n : Nat) : GoodE (es.take n) := by
 intro j hj
 have hj' : j < n /\ j < es.length := by simp at hj; omega
 rw [List.take_take, Nat.min_eq_left (by omega), List.getElem_take]
 exact h j hj'.2
theorem stE_bounds {es : List (List Fop ⊕ Int)} (h : GoodE es) : (stE es).1.length <= es.length /\ 0 <= (stE es).2 /\ (stE es).2 <= (stE es).1.length := by
 obtain ⟨n, hn⟩ : ∃ n, n = es.length := ⟨_, rfl⟩
 induction n generalizing es with
 | zero =>
  obtain rfl := List.length_eq_zero_iff.1 hn.symm
  exact ⟨Nat.le_refl _, Int.le_refl _, Int.le_refl _⟩
 | succ n ih =>
  rcases List.eq_nil_or_concat es with rfl | ⟨m, x, rfl⟩
  ·simp at hn
  rw [List.concat_eq_append] at *
  have hm : GoodE m := by
   have := good_take h m.length
   rwa [List.take_append_of_le_length zr, List.take_length] at this
  have hx := h m.length (by simp)
  rw [List.take_append_of_le_length zr, List.take_length, List.getElem_append_right zr] at hx
  simp only [Nat.sub_self, List.getElem_cons_zero] at hx
  obtain ⟨i1, i2, i3⟩ := ih hm (by simpa using hn)
  rw [stE_snoc]
  rcases x with l | k
  ·show ((stE m).1 ++ [l]).length <= _ /\ 0 <= (stE m).2 /\ (stE m).2 <= (((stE m).1 ++ [l]).length : Int)
   simp only [List.length_append, List.length_singleton]
   omega
  ·obtain ⟨q1, q2⟩ := (hx : (stE m).2 <= k /\ k <= (stE m).1.length)
   show (stE m).1.length <= _ /\ 0 <= k /\ k <= ((stE m).1.length : Int)
   simp only [List.length_append, List.length_singleton]
   omega
theorem ops_mem (l : List Fop) (h : okL l) : ∀ c, c ∈ opsL l -> c.toNat = 32 \/ c.toNat = 43 \/ c.toNat = 45 \/ 48 <= c.toNat /\ c.toNat <= 57 \/ 97 <= c.toNat /\ c.toNat <= 122 := by
 intro c hc
 unfold opsL at hc
 rcases l with _ | ⟨o, l⟩
 ·exact absurd h.1 (by simp)
 rcases mem_join 43 c (l.map opL) (opL o) (by simpa using hc) with rfl | ⟨y, hy, hcy⟩
 ·right; left; rfl
 ·rw [<- List.map_cons] at hy
  obtain ⟨p, hp, rfl⟩ := List.mem_map.1 hy
  have := wr_mem p (h.2.2 p hp) c hcy
  omega
theorem body_mem (st : List (List Fop) × Int) (x : List Fop ⊕ Int) (h : OkE st x) : (10 : UInt8) ∉ bodyL x := by
 intro hc
 rcases x with l | n
 ·have := ops_mem l h 10 hc
  simp at this
 ·rcases List.mem_append.1 (show (10 : UInt8) ∈ forgetL ++ Lib.itoa n from hc) with q | q
  ·revert q; decide
  ·have := itoa_mem n 10 q
   simp at this
theorem ops_head (l : List Fop) (h : okL l) : ∃ c r, opsL l = c :: r /\ c.toNat ≠ 102 := by
 rcases l with _ | ⟨o, l⟩
 ·exact absurd h.1 (by simp)
 have ho := op_parts o (h.2.2 o (by simp))
 have e : ∃ c r, Lib.itoa o.kind = c :: r := by
  cases q : Lib.itoa o.kind with
  | nil =>
   exfalso
   unfold Lib.itoa at q
   split at q
   ·cases q
   ·exact decDigits_ne _ q
  | cons c r => exact ⟨c, r, rfl⟩
 obtain ⟨c, r, e⟩ := e
 have hc : c.toNat ≠ 102 := by
  have := itoa_mem o.kind c (by rw [e]; simp)
  omega
 have e1 : ∃ r1, opL o = c :: r1 := by
  unfold opL fieldsL
  rw [join_two, e]
  exact ⟨_, rfl⟩
 obtain ⟨r1, e1⟩ := e1
 have e2 : ∃ r2, opsL (o :: l) = c :: r2 := by
  unfold opsL
  rw [List.map_cons]
  rcases l with _ | ⟨p, l⟩
  ·refine ⟨r1, ?_⟩
   show Lib.join [opL o] [43] = _
   rw [<- e1]
   simp [Lib.join]
  ·rw [List.map_cons, join_two, e1]
   exact ⟨_, rfl⟩
 obtain ⟨r2, e2⟩ := e2
 exact ⟨c, r2, e2, hc⟩
structure Holds (ps : Nat -> ByteArray) (es : List (List Fop ⊕ Int)) : Prop where
 good : GoodE es
 there : ∀ j, (h : j < es.length) -> (ps j).data.toList = entL es[j]
 none : ∀ j, es.length <= j -> (10 : UInt8) ∉ (ps j).data.toList
theorem holds_nil : Holds (fun _ => ⟨#[]⟩) [] := ⟨fun j h => absurd h (by simp), fun j h => absurd h (by simp), fun j _ => by simp⟩
theorem Holds.wrote {ps : Nat -> ByteArray} {es : List (List Fop ⊕ Int)} (h : Holds ps es) {x : List Fop ⊕ Int} (hx : OkE (stE es) x) {s : ByteArray} (hs : s.data.toList = entL x) : Holds (fun j => if j = es.length then s else ps j) (es ++ [x]) := by
 refine ⟨good_snoc h.good hx, fun j hj => ?_, fun j hj => ?_⟩
 ·rw [List.length_append, List.length_singleton] at hj
  by_cases q : j < es.length
  ·rw [if_neg (by omega), List.getElem_append_left q]
   exact h.there j q
  ·obtain rfl : j = es.length := by omega
   rw [if_pos rfl, List.getElem_append_right zr]
   simpa using hs
 ·rw [List.length_append, List.length_singleton] at hj
  rw [if_neg (by omega)]
  exact h.none j (by omega)
theorem Holds.torn {ps : Nat -> ByteArray} {es : List (List Fop ⊕ Int)} (h : Holds ps es) {s : ByteArray} (hs : (10 : UInt8) ∉ s.data.toList) : Holds (fun j => if j = es.length then s else ps j) es := by
 refine ⟨h.good, fun j hj => ?_, fun j hj => ?_⟩
 ·rw [if_neg (by omega)]
  exact h.there j hj
 ·by_cases q : j = es.length
  ·rw [if_pos q]; exact hs
  ·rw [if_neg q]; exact h.none j hj
end Go.Proofs.YtfoojmflbifkpaaGreatDoor

namespace Go.Proofs.YtfoojmflbifkpaaGreatDoor
open Go.RowKit Go.Maps
structure DiskW (w : World) (D : Nat) (ps : Nat -> ByteArray) (cut : Bool) (left : Int) : Prop where
 p : ∀ j, j < 150 -> w.cell? ⟨D, j, none⟩ = some (.string (ps j))
 c : w.cell? ⟨D, 150, none⟩ = some (.bool cut)
 l : w.cell? ⟨D, 151, none⟩ = some (.int .i64 left)
 f : ∀ i, w.frozen? ⟨D, i, none⟩ = false
 sz : ∀ j, (ps j).size < 50000
 l0 : 0 <= left /\ left <= 9223372036854775807
theorem DiskW.lt {w : World} {D : Nat} {ps : Nat -> ByteArray} {cut : Bool} {left : Int} (h : DiskW w D ps cut left) : D < w.heap.size := lt_of_cell h.c
theorem DiskW.keeps {w w' : World} {D : Nat} {ps : Nat -> ByteArray} {cut : Bool} {left : Int} {H : Nat -> Prop} (h : DiskW w D ps cut left) (hk : Keeps H w w') (hH : ¬ H D) : DiskW w' D ps cut left :=
 ⟨fun j hj => (hk.cell (p := ⟨D, j, none⟩) h.lt hH).trans (h.p j hj), (hk.cell (p := ⟨D, 150, none⟩) h.lt hH).trans h.c, (hk.cell (p := ⟨D, 151, none⟩) h.lt hH).trans h.l, fun i => (hk.frozen (p := ⟨D, i, none⟩) h.lt hH).trans (h.f i), h.sz, h.l0⟩
theorem DiskW.below {w w' : World} {D : Nat} {ps : Nat -> ByteArray} {cut : Bool} {left : Int} (h : DiskW w D ps cut left) (hb : Below w.heap.size w w') : DiskW w' D ps cut left := h.keeps (Keeps.of_below (fun _ => False) hb zr) (fun f => f)
def updP (ps : Nat -> ByteArray) (n : Nat) (s : ByteArray) : Nat -> ByteArray := fun j => if j = n then s else ps j
theorem DiskW.place {w : World} {D : Nat} {ps : Nat -> ByteArray} {cut : Bool} {left : Int} (h : DiskW w D ps cut left) (n : Nat) (hn : n < 150) (s : ByteArray) (hs : s.size < 50000) : DiskW (w.setCell ⟨D, n, none⟩ (.string s)) D (updP ps n s) cut left := by
 refine ⟨fun j hj => ?_, ?_, ?_, fun i => ?_, fun j => ?_, h.l0⟩
 ·unfold updP
  by_cases e : j = n
  ·subst e
   rw [if_pos rfl]
   exact World.cell?_setCell_same _ _ _ (h.p j hj)
  ·rw [if_neg e, World.cell?_setCell_other _ _ _ _ (fun q => by injection q with _ q; omega)]
   exact h.p j hj
 ·rw [World.cell?_setCell_other _ _ _ _ (fun q => by injection q with _ q; omega)]; exact h.c
 ·rw [World.cell?_setCell_other _ _ _ _ (fun q => by injection q with _ q; omega)]; exact h.l
 ·rw [World.frozen?_setCell]; exact h.f i
 ·unfold updP
  split
  ·exact hs
  ·exact h.sz j
theorem DiskW.left1 {w : World} {D : Nat} {ps : Nat -> ByteArray} {cut : Bool} {left : Int} (h : DiskW w D ps cut left) (n : Int) (hn : 0 <= n /\ n <= 9223372036854775807) : DiskW (w.setCell ⟨D, 151, none⟩ (.int .i64 n)) D ps cut n := by
 refine ⟨fun j hj => ?_, ?_, World.cell?_setCell_same _ _ _ h.l, fun i => ?_, h.sz, hn⟩
 ·rw [World.cell?_setCell_other _ _ _ _ (fun q => by injection q with _ q; omega)]; exact h.p j hj
 ·rw [World.cell?_setCell_other _ _ _ _ (fun q => by injection q with _ q; omega)]; exact h.c
 ·rw [World.frozen?_setCell]; exact h.f i
theorem DiskW.cut1 {w : World} {D : Nat} {ps : Nat -> ByteArray} {cut : Bool} {left : Int} (h : DiskW w D ps cut left) (n : Bool) : DiskW (w.setCell ⟨D, 150, none⟩ (.bool n)) D ps n left := by
 refine ⟨fun j hj => ?_, World.cell?_setCell_same _ _ _ h.c, ?_, fun i => ?_, h.sz, h.l0⟩
 ·rw [World.cell?_setCell_other _ _ _ _ (fun q => by injection q with _ q; omega)]; exact h.p j hj
 ·rw [World.cell?_setCell_other _ _ _ _ (fun q => by injection q with _ q; omega)]; exact h.l
 ·rw [World.frozen?_setCell]; exact h.f i
theorem disk_Cut {w : World} {D : Nat} {ps : Nat -> ByteArray} {cut : Bool} {left : Int} (h : DiskW w D ps cut left) (n : Int) (hn : n <= 9223372036854775807) :
  Calls Tryz.prog 34 #[.pointer (some ⟨D, 0, none⟩), .int .i64 n] w fun e w' => e = .returned (.tuple #[]) /\ DiskW w' D ps (decide (0 <= n)) (max n 0) /\ Keeps (· = D) w w' := by
 have hl := h.l
 have hc := h.c
 have f0 := h.f 150
 have f1 := h.f 151
 have HD := zh ((h.cut1 (decide (0 <= n))).left1 (max n 0) (by omega))
 have HK := zh ((keeps_set w D 150 (.bool (decide (0 <= n)))).trans (keeps_set _ D 151 (.int .i64 (max n 0))))
 clear h hn
 by_cases h0 : 0 <= n
 ·have e1 : decide (0 <= n) = true := decide_eq_true h0
  have e2 : max n 0 = n := by omega
  rw [e1, e2] at HD HK ⊢
  go_enter Tryz.func34, Tryz.ntmps34
  go_wp2
  go_end0
  exact ⟨rfl, uh HD, uh HK⟩
 ·have e1 : decide (0 <= n) = false := decide_eq_false h0
  have e2 : max n 0 = 0 := by omega
  rw [e1, e2] at HD HK ⊢
  go_enter Tryz.func34, Tryz.ntmps34
  go_wp2
  go_end0
  exact ⟨rfl, uh HD, uh HK⟩
def nextL (cut : Bool) (left : Int) : Int := if cut then left - 1 else left
def Laid (w : World) (D : Nat) (ps : Nat -> ByteArray) (cut : Bool) (left : Int) (n : Nat) (s : ByteArray) (w' : World) : Prop := DiskW w' D (updP ps n s) cut (nextL cut left) /\ Keeps (· = D) w w'
theorem disk_write_on {w : World} {D : Nat} {ps : Nat -> ByteArray} {cut : Bool} {left : Int} (h : DiskW w D ps cut left) (n : Nat) (hn : n < 150) (s : ByteArray) (hs : s.size < 50000) (torn : Int) (hp : cut = false \/ left ≠ 0) :
  Calls Tryz.prog 130 #[.pointer (some ⟨D, 0, none⟩), .int .i64 n, .string s, .int .i64 torn] w fun e w' => e = .returned (.bool true) /\ Laid w D ps cut left n s w' := by
 have hl := h.l
 have hc := h.c
 have f1 := h.f 151
 have f0 := h.f n
 have hpn := h.p n hn
 have hl0 := h.l0
 have hn0 : (0 : Int) <= (n : Int) := by omega
 have hn1 : (n : Int) < 150 := by omega
 cases cut with
 | false =>
  have HD : Hid (Laid w D ps false left n s (w.setCell ⟨D, n, none⟩ (.string s))) := ⟨h.place n hn s hs, keeps_set _ _ _ _⟩
  clear h hp hn
  go_enter Tryz.func130, Tryz.ntmps130
  go_wp2
  go_ret
  exact ⟨rfl, uh HD⟩
 | true =>
  have hl2 : left ≠ 0 := by
   rcases hp with q | q
   ·cases q
   ·exact q
  have hl3 : (left == 0) = false := by simp [hl2]
  have HD : Hid (Laid w D ps true left n s ((w.setCell ⟨D, 151, none⟩ (.int .i64 (left - 1))).setCell ⟨D, n, none⟩ (.string s))) := ⟨(h.left1 (left - 1) (by omega)).place n hn s hs, (keeps_set _ _ _ _).trans (keeps_set _ _ _ _)⟩
  have hpn2 : (w.setCell ⟨D, 151, none⟩ (.int .i64 (left - 1))).cell? ⟨D, n, none⟩ = some (.string (ps n)) := (h.left1 (left - 1) (by omega)).p n hn
  clear h hp hl2 hn
  go_enter Tryz.func130, Tryz.ntmps130
  go_wp2
  go_ret
  exact ⟨rfl, uh HD⟩
def Torn (w : World) (D : Nat) (ps : Nat -> ByteArray) (n : Nat) (w' : World) : Prop := ∃ ps', DiskW w' D ps' true 0 /\ Keeps (· = D) w w' /\ (ps' = ps \/ ∃ t, ps' = updP ps n t /\ (10 : UInt8) ∉ t.data.toList)
theorem disk_write_off {w : World} {D : Nat} {ps : Nat -> ByteArray} (h : DiskW w D ps true 0) (n : Nat) (hn : n < 150) (l : List UInt8) (hs : l.length < 40000) (h10 : (10 : UInt8) ∉ l) (torn : Int) :
  Calls Tryz.prog 130 #[.pointer (some ⟨D, 0, none⟩), .int .i64 n, .string ⟨(l ++ [10]).toArray⟩, .int .i64 torn] w fun e w' => e = .returned (.bool false) /\ Torn w D ps n w' := by
 have hl := h.l
 have hc := h.c
 have f0 := h.f n
 have hpn := h.p n hn
 have hn0 : (0 : Int) <= (n : Int) := by omega
 have hn1 : (n : Int) < 150 := by omega
 have hz : (⟨(l ++ [10]).toArray⟩ : ByteArray).size = l.length + 1 := by rw [bytes_len]; simp
 by_cases ht : 0 <= torn
 ·obtain ⟨m, hm, hml⟩ : ∃ m : Nat, min torn (l.length : Int) = m /\ m <= l.length := ⟨(min torn (l.length : Int)).toNat, by omega, by omega⟩
  have hsub : ∀ c, c ∈ ((⟨(l ++ [10]).toArray⟩ : ByteArray).extract 0 m).data.toList -> c ∈ l := fun c hc => by
   rw [cut_list] at hc
   have : c ∈ ((l ++ [10]).drop 0).take (m - 0) := hc
   rw [List.drop_zero, Nat.sub_zero, List.take_append_of_le_length hml] at this
   exact List.mem_of_mem_take this
  have hsz : ((⟨(l ++ [10]).toArray⟩ : ByteArray).extract 0 m).size < 50000 := by
   rw [cut_list, bytes_len]
   simp
   omega
  generalize (⟨(l ++ [10]).toArray⟩ : ByteArray) = s at hz hsub hsz ⊢
  have HD : Hid (Torn w D ps n (w.drew.setCell ⟨D, n, none⟩ (.string (s.extract 0 m)))) := ⟨_, (h.below (below_drew w)).place n hn (s.extract 0 m) hsz, (Keeps.of_below _ (below_drew w) zr).trans (keeps_set _ _ _ _), .inr ⟨_, rfl, fun q => h10 (hsub _ q)⟩⟩
  clear h hn hsub hsz h10
  by_cases hlt : torn <= l.length
  ·obtain rfl : torn = (m : Int) := by omega
   have hw : IntKind.i64.wrap (l.length : Int) = l.length := by simp [IntKind.wrap, IntKind.bits, IntKind.signed]; omega
   have hmn : min (m : Int) (l.length : Int) = m := by omega
   have hb : (m : Int) <= (l.length : Int) + 1 := by omega
   clear hm
   go_enter Tryz.func130, Tryz.ntmps130
   go_wp2
   refine wp_region_tail (fun y => y = w.drew) 12 (by kernel_rfl) (by kernel_rfl) rfl (fun hHeld => ?_)
   refine takeH 0 (oi := ?o0_1) (v := ?v0_1) ?h0_1 (by kernel_rfl) (by assumption) ?y0_1 ?_
   case h0_1 => (simp only [gA, gZ]; rfl)
   case y0_1 => (refine ⟨fun _ _ _ h => h, rfl, fun w h => ?_⟩; (try dsimp only at h); go_simp <;> with_reducible rfl)
   try simp only [Act.put, sI, sZ, sS]
   refine takeH 1 (oi := ?o1_1) (v := ?v1_1) ?h1_1 (by kernel_rfl) (by assumption) ?y1_1 ?_
   case h1_1 => (simp only [gA, gZ, gS]; rfl)
   case y1_1 => (refine ⟨fun _ _ _ h => h, rfl, fun w h => ?_⟩; (try dsimp only at h); go_simp <;> with_reducible rfl)
   try simp only [Act.put, sI, sZ, sS]
   refine takeH 2 (oi := ?o2_1) (v := ?v2_1) ?h2_1 (by kernel_rfl) (by assumption) ?y2_1 ?_
   case h2_1 => (simp only [gA, gZ, gS]; rfl)
   case y2_1 => (refine ⟨fun _ _ _ h => h, rfl, fun w h => ?_⟩; (try dsimp only at h); go_simp <;> with_reducible rfl)
   try simp only [Act.put, sI, sZ, sS]
   refine takeH 3 (oi := ?o3_1) (v := ?v3_1) ?h3_1 (by kernel_rfl) (by assumption) ?y3_1 ?_
   case h3_1 => (simp only [gA, gZ, gS]; rfl)
   case y3_1 => (refine ⟨fun _ _ _ h => h, rfl, fun w h => ?_⟩; (try dsimp only at h); go_simp <;> with_reducible rfl)
   try simp only [Act.put, sI, sZ, sS]
   refine takeH 4 (oi := ?o4_1) (v := ?v4_1) ?h4_1 (by kernel_rfl) (by assumption) ?y4_1 ?_
   case h4_1 => (simp only [gA, gZ, gS]; rfl)
   case y4_1 => (refine ⟨fun _ _ _ h => h, rfl, fun w h => ?_⟩; (try dsimp only at h); go_simp <;> with_reducible rfl)
   try simp only [Act.put, sI, sZ, sS]
   refine takeH 5 (oi := ?o5_1) (v := ?v5_1) ?h5_1 (by kernel_rfl) (by assumption) ?y5_1 ?_
   case h5_1 => (simp only [gA, gZ, gS]; rfl)
   case y5_1 => (refine ⟨fun _ _ _ h => h, rfl, fun w h => ?_⟩; (try dsimp only at h); go_simp <;> with_reducible rfl)
   try simp only [Act.put, sI, sZ, sS]
   refine takeH 6 (oi := ?o6_1) (v := ?v6_1) ?h6_1 (by kernel_rfl) (by assumption) ?y6_1 ?_
   case h6_1 => (simp only [gA, gZ, gS]; rfl)
   case y6_1 => (refine ⟨fun _ _ _ h => h, rfl, fun w h => ?_⟩; (try dsimp only at h); go_simp <;> with_reducible rfl)
   try simp only [Act.put, sI, sZ, sS]
   refine takeH 7 (oi := ?o7_1) (v := ?v7_1) ?h7_1 (by kernel_rfl) (by assumption) ?y7_1 ?_
   case h7_1 => (simp only [gA, gZ, gS]; rfl)
   case y7_1 => (refine ⟨fun _ _ _ h => h, rfl, fun w h => ?_⟩; (try dsimp only at h); go_simp <;> with_reducible rfl)
   try simp only [Act.put, sI, sZ, sS]
   refine takeH 8 (oi := ?o8_1) (v := ?v8_1) ?h8_1 (by kernel_rfl) (by assumption) ?y8_1 ?_
   case h8_1 => (simp only [gA, gZ, gS]; rfl)
   case y8_1 => (refine ⟨fun _ _ _ h => h, rfl, fun w h => ?_⟩; (try dsimp only at h); go_simp <;> with_reducible rfl)
   try simp only [Act.put, sI, sZ, sS]
   refine takeH 9 (oi := ?o9_1) (v := ?v9_1) ?h9_1 (by kernel_rfl) (by assumption) ?y9_1 ?_
   case h9_1 => (simp only [gA, gZ, gS]; rfl)
   case y9_1 => (refine ⟨fun _ _ _ h => h, rfl, fun w h => ?_⟩; (try dsimp only at h); go_simp <;> with_reducible rfl)
   try simp only [Act.put, sI, sZ, sS]
   refine takeH 10 (oi := ?o10_1) (v := ?v10_1) ?h10_1 (by kernel_rfl) (by assumption) ?y10_1 ?_
   case h10_1 => (simp only [gA, gZ, gS]; rfl)
   case y10_1 => (refine ⟨fun _ _ _ h => h, rfl, fun w h => ?_⟩; (try dsimp only at h); go_simp <;> with_reducible rfl)
   try simp only [Act.put, sI, sZ, sS]
   refine takeH 11 (oi := ?o11_1) (v := ?v11_1) ?h11_1 (by kernel_rfl) (by assumption) ?y11_1 ?_
   case h11_1 => (simp only [gA, gZ, gS]; rfl)
   case y11_1 => (refine ⟨fun _ _ _ h => h, rfl, fun w h => ?_⟩; (try dsimp only at h); go_simp <;> with_reducible rfl)
   try simp only [Act.put, sI, sZ, sS]
   refine wpAnyH_done (by kernel_rfl) ?_ _
   show wpList _ _ _ _ _ _
   clear hHeld
   go_wp2
   go_ret
   exact ⟨rfl, uh HD⟩
  ·obtain rfl : m = l.length := by omega
   have hw : IntKind.i64.wrap (l.length : Int) = l.length := by simp [IntKind.wrap, IntKind.bits, IntKind.signed]; omega
   have hmn : min torn (l.length : Int) = l.length := by omega
   have hb : (l.length : Int) <= (l.length : Int) + 1 := by omega
   clear hm
   go_enter Tryz.func130, Tryz.ntmps130
   go_wp2
   refine wp_region_tail (fun y => y = w.drew) 12 (by kernel_rfl) (by kernel_rfl) rfl (fun hHeld => ?_)
   refine takeH 0 (oi := ?o0_2) (v := ?v0_2) ?h0_2 (by kernel_rfl) (by assumption) ?y0_2 ?_
   case h0_2 => (simp only [gA, gZ]; rfl)
   case y0_2 => (refine ⟨fun _ _ _ h => h, rfl, fun w h => ?_⟩; (try dsimp only at h); go_simp <;> with_reducible rfl)
   try simp only [Act.put, sI, sZ, sS]
   refine takeH 1 (oi := ?o1_2) (v := ?v1_2) ?h1_2 (by kernel_rfl) (by assumption) ?y1_2 ?_
   case h1_2 => (simp only [gA, gZ, gS]; rfl)
   case y1_2 => (refine ⟨fun _ _ _ h => h, rfl, fun w h => ?_⟩; (try dsimp only at h); go_simp <;> with_reducible rfl)
   try simp only [Act.put, sI, sZ, sS]
   refine takeH 2 (oi := ?o2_2) (v := ?v2_2) ?h2_2 (by kernel_rfl) (by assumption) ?y2_2 ?_
   case h2_2 => (simp only [gA, gZ, gS]; rfl)
   case y2_2 => (refine ⟨fun _ _ _ h => h, rfl, fun w h => ?_⟩; (try dsimp only at h); go_simp <;> with_reducible rfl)
   try simp only [Act.put, sI, sZ, sS]
   refine takeH 3 (oi := ?o3_2) (v := ?v3_2) ?h3_2 (by kernel_rfl) (by assumption) ?y3_2 ?_
   case h3_2 => (simp only [gA, gZ, gS]; rfl)
   case y3_2 => (refine ⟨fun _ _ _ h => h, rfl, fun w h => ?_⟩; (try dsimp only at h); go_simp <;> with_reducible rfl)
   try simp only [Act.put, sI, sZ, sS]
   refine takeH 4 (oi := ?o4_2) (v := ?v4_2) ?h4_2 (by kernel_rfl) (by assumption) ?y4_2 ?_
   case h4_2 => (simp only [gA, gZ, gS]; rfl)
   case y4_2 => (refine ⟨fun _ _ _ h => h, rfl, fun w h => ?_⟩; (try dsimp only at h); go_simp <;> with_reducible rfl)
   try simp only [Act.put, sI, sZ, sS]
   refine takeH 5 (oi := ?o5_2) (v := ?v5_2) ?h5_2 (by kernel_rfl) (by assumption) ?y5_2 ?_
   case h5_2 => (simp only [gA, gZ, gS]; rfl)
   case y5_2 => (refine ⟨fun _ _ _ h => h, rfl, fun w h => ?_⟩; (try dsimp only at h); go_simp <;> with_reducible rfl)
   try simp only [Act.put, sI, sZ, sS]
   refine takeH 6 (oi := ?o6_2) (v := ?v6_2) ?h6_2 (by kernel_rfl) (by assumption) ?y6_2 ?_
   case h6_2 => (simp only [gA, gZ, gS]; rfl)
   case y6_2 => (refine ⟨fun _ _ _ h => h, rfl, fun w h => ?_⟩; (try dsimp only at h); go_simp <;> with_reducible rfl)
   try simp only [Act.put, sI, sZ, sS]
   refine takeH 7 (oi := ?o7_2) (v := ?v7_2) ?h7_2 (by kernel_rfl) (by assumption) ?y7_2 ?_
   case h7_2 => (simp only [gA, gZ, gS]; rfl)
   case y7_2 => (refine ⟨fun _ _ _ h => h, rfl, fun w h => ?_⟩; (try dsimp only at h); go_simp <;> with_reducible rfl)
   try simp only [Act.put, sI, sZ, sS]
   refine takeH 8 (oi := ?o8_2) (v := ?v8_2) ?h8_2 (by kernel_rfl) (by assumption) ?y8_2 ?_
   case h8_2 => (simp only [gA, gZ, gS]; rfl)
   case y8_2 => (refine ⟨fun _ _ _ h => h, rfl, fun w h => ?_⟩; (try dsimp only at h); go_simp <;> with_reducible rfl)
   try simp only [Act.put, sI, sZ, sS]
   refine takeH 9 (oi := ?o9_2) (v := ?v9_2) ?h9_2 (by kernel_rfl) (by assumption) ?y9_2 ?_
   case h9_2 => (simp only [gA, gZ, gS]; rfl)
   case y9_2 => (refine ⟨fun _ _ _ h => h, rfl, fun w h => ?_⟩; (try dsimp only at h); go_simp <;> with_reducible rfl)
   try simp only [Act.put, sI, sZ, sS]
   refine takeH 10 (oi := ?o10_2) (v := ?v10_2) ?h10_2 (by kernel_rfl) (by assumption) ?y10_2 ?_
   case h10_2 => (simp only [gA, gZ, gS]; rfl)
   case y10_2 => (refine ⟨fun _ _ _ h => h, rfl, fun w h => ?_⟩; (try dsimp only at h); go_simp <;> with_reducible rfl)
   try simp only [Act.put, sI, sZ, sS]
   refine takeH 11 (oi := ?o11_2) (v := ?v11_2) ?h11_2 (by kernel_rfl) (by assumption) ?y11_2 ?_
   case h11_2 => (simp only [gA, gZ, gS]; rfl)
   case y11_2 => (refine ⟨fun _ _ _ h => h, rfl, fun w h => ?_⟩; (try dsimp only at h); go_simp <;> with_reducible rfl)
   try simp only [Act.put, sI, sZ, sS]
   refine wpAnyH_done (by kernel_rfl) ?_ _
   show wpList _ _ _ _ _ _
   clear hHeld
   go_wp2
   go_ret
   exact ⟨rfl, uh HD⟩
 ·have HD : Hid (Torn w D ps n w) := ⟨ps, h, Keeps.refl _ _, .inl rfl⟩
  generalize (⟨(l ++ [10]).toArray⟩ : ByteArray) = s at hz ⊢
  clear h hn h10
  go_enter Tryz.func130, Tryz.ntmps130
  go_wp2
  go_ret
  exact ⟨rfl, uh HD⟩
end Go.Proofs.YtfoojmflbifkpaaGreatDoor
