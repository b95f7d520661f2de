/- Texts of one proof, one behind the other. -/
import Derived.Test.YtbmkmfoaoganeaaGreatDoorQb
set_option maxRecDepth 100000
set_option maxHeartbeats 16000000
namespace Go.Proofs.YtbmkmfoaoganeaaGreatDoor
open Go.RowKit Go.Maps
def VOk (st : DkS) : Prop := ∀ k, (st.V k).size <= 12
def DoesK (f : Nat) (ws : List ByteArray) (st st' : DkS) (out : Except Int (List UInt8)) : Prop :=
 ∀ w y s M v, Tab w -> Libs w -> ErrorType w -> DkG w y s M st -> WsI y v ws -> (VOk st -> VOk st' /\ OutOk out) /\ Calls Tryz.prog f #[.pointer (some ⟨s, 0, none⟩), v] y (Did w s M y st' out)
theorem outP_ok {e : Int} {t : List UInt8} (h1 : 0 <= e /\ e <= 20) (h2 : t.length <= 2000000000) : OutOk (outP e t) := by
 unfold outP
 split
 ·exact h2
 ·show -9223372036854775808 <= e /\ e <= 9223372036854775807
  omega
theorem does_bad {f : Nat} {ws : List ByteArray} {st : DkS} (h : ∀ w y s M v, Tab w -> Libs w -> ErrorType w -> DkG w y s M st -> WsI y v ws -> Calls Tryz.prog f #[.pointer (some ⟨s, 0, none⟩), v] y (Did w s M y st (.error 3))) : ∃ st' out, DoesK f ws st st' out :=
 ⟨st, .error 3, fun w y s M v ht hl hg hG hv => ⟨fun q => ⟨q, by show (-9223372036854775808 : Int) <= 3 /\ (3 : Int) <= 9223372036854775807; decide⟩, h w y s M v ht hl hg hG hv⟩⟩
theorem now_fit {y : World} {B D : Nat} {es : List (List Fop ⊕ Int)} {down : Bool} {ps : Nat -> ByteArray} {cut : Bool} {left : Int} {F : Nat -> Prop} (h : BdW y B D es down ps cut left F) : ∀ z, z ∈ [((stE es).1.length : Int), (stE es).2, (es.length : Int)] -> -9223372036854775808 <= z /\ z <= 9223372036854775807 := by
 obtain ⟨s1, s2, s3⟩ := stE_bounds h.holds.good
 have s4 := h.most
 intro z hz
 simp only [List.mem_cons, List.mem_nil_iff, or_false] at hz
 rcases hz with rfl | rfl | rfl <;> omega
theorem does_of {f : Nat} {ws : List ByteArray} {st st' : DkS} {out : Except Int (List UInt8)} (hC : ∀ w y s M v, Tab w -> Libs w -> ErrorType w -> DkG w y s M st -> WsI y v ws -> Calls Tryz.prog f #[.pointer (some ⟨s, 0, none⟩), v] y (Did w s M y st' out)) (hO : KeysT st.V st.L /\ TxsOk (stE st.es).1 /\ (stE st.es).1.length <= 150 /\ (∀ z, z ∈ [((stE st.es).1.length : Int), (stE st.es).2, (st.es.length : Int)] -> -9223372036854775808 <= z /\ z <= 9223372036854775807) -> VOk st -> VOk st' /\ OutOk out) : ∃ st' out, DoesK f ws st st' out :=
 ⟨st', out, fun w y s M v ht hl hg hG hv => ⟨hO (by obtain ⟨_, _, _, _, _, _, _, _, _, _, hI, _⟩ := hG; exact ⟨hI.gr.t, hI.ok, hI.past.most, now_fit hI.bd⟩), hC w y s M v ht hl hg hG hv⟩⟩
theorem word_len {word : List UInt8} {t : List UInt8} (h1 : word.length <= 100) (h2 : t.length <= 1500000000) : (word ++ t).length <= 2000000000 := by
 rw [List.length_append]
 omega
theorem ints_len {l : List Int} (h : l.length <= 4001) (hw : ∀ z, z ∈ l -> -9223372036854775808 <= z /\ z <= 9223372036854775807) : (Lib.join (l.map Lib.itoa) [32]).length <= 1500000000 := by
 have h1 := join_le (l.map Lib.itoa) [32] 21 (fun x hx => by
  obtain ⟨z, hz, rfl⟩ := List.mem_map.1 hx
  exact itoa_21 z (hw z hz).1 (hw z hz).2)
 rw [List.length_map] at h1
 simp only [List.length_cons, List.length_nil] at h1
 omega
theorem pcs_len {l : List (Int × Int × ByteArray)} (h : l.length <= 4001) (hw : ∀ z, z ∈ l -> (pieceL z).length <= 200000) : (Lib.join (l.map pieceL) [44, 32]).length <= 1500000000 := by
 have h1 := join_le (l.map pieceL) [44, 32] 200000 (fun x hx => by
  obtain ⟨z, hz, rfl⟩ := List.mem_map.1 hx
  exact hw z hz)
 rw [List.length_map] at h1
 simp only [List.length_cons, List.length_nil] at h1
 omega
theorem keys_len {l : List Ky} (h : l.length <= 4001) (hw : ∀ z, z ∈ l -> KyOk z /\ z.word.size <= 30000) : (Lib.join (l.map keyL) [44, 32]).length <= 1500000000 := by
 have h1 := join_le (l.map keyL) [44, 32] 200000 (fun x hx => by
  obtain ⟨z, hz, rfl⟩ := List.mem_map.1 hx
  exact keyL_le z (hw z hz).1 (hw z hz).2)
 rw [List.length_map] at h1
 simp only [List.length_cons, List.length_nil] at h1
 omega
theorem DkG.i {w y : World} {s : Nat} {M : Nat -> Prop} {st : DkS} (h : DkG w y s M st) : KeysT st.V st.L /\ TxsOk (stE st.es).1 /\ (stE st.es).1.length <= 150 := by
 obtain ⟨_, _, _, _, _, _, _, _, _, _, hI, _⟩ := h
 exact ⟨hI.gr.t, hI.ok, hI.past.most⟩
theorem only_one {α : Type} {P : List α -> Prop} (h : ∀ l m, P l -> P m -> l = m) : ∃ l, (P l \/ l = []) /\ ∀ m, P m -> l = m := by
 rcases Classical.em (∃ l, P l) with ⟨l, hl⟩ | q
 ·exact ⟨l, .inl hl, fun m hm => h l m hl hm⟩
 ·exact ⟨[], .inr rfl, fun m hm => absurd ⟨m, hm⟩ q⟩
theorem valE_le (n : Nat) (known : Int) (k : Ky) (a t : Int) : 0 <= valE n known k a t /\ valE n known k a t <= 20 := by
 have := countErr_le n known a
 unfold valE
 repeat' split
 all_goals (first | decide | exact this)
theorem pieE_le (n : Nat) (known : Int) (k : Ky) (a : Int) : 0 <= pieE n known k a /\ pieE n known k a <= 20 := by
 have := countErr_le n known a
 unfold pieE
 repeat' split
 all_goals (first | decide | exact this)
theorem keysE_le (n : Nat) (known a t : Int) : 0 <= keysE n known a t /\ keysE n known a t <= 20 := by
 have := countErr_le n known a
 unfold keysE
 repeat' split
 all_goals (first | decide | exact this)
theorem everE_le (n : Nat) (known : Int) (k : Ky) (a b lo hi : Int) : 0 <= everE n known k a b lo hi /\ everE n known k a b lo hi <= 20 := by
 have h1 := countErr_le n known a
 have h2 := countErr_le n known b
 unfold everE
 repeat' split
 all_goals (first | decide | exact h1 | exact h2)
theorem roomE_le (n : Int) (d : Bool) : 0 <= roomE n d /\ roomE n d <= 20 := by
 unfold roomE
 repeat' split
 all_goals decide
theorem fgE_le (st : DkS) (a : Int) : 0 <= fgE st a /\ fgE st a <= 20 := by
 have h1 := roomE_le st.es.length st.down
 unfold fgE
 repeat' split
 all_goals (first | decide | exact h1 | (unfold forgetErr; split <;> decide))
theorem cmE_le (st : DkS) : 0 <= cmE st /\ cmE st <= 20 := by
 have h1 := roomE_le st.es.length st.down
 unfold cmE
 repeat' split
 all_goals (first | decide | exact h1)
theorem does_prop (st : DkS) (x0 x1 : ByteArray) : ∃ st' out, DoesK 26 [x0, x1] st st' out := by
 cases q0 : numW x0 with
 | none => exact does_bad fun w y s M v ht hl hg hG hv => dk_prop_bad0 x0 x1 ht hl hg hG hv q0
 | some a0 =>
  refine does_of (fun w y s M v ht hl hg hG hv => dk_prop_ok x0 x1 ht hl hg hG hv a0 q0) (fun hi q => ⟨q, outP_ok ?_ ?_⟩)
  ·unfold propE
   repeat' split
   all_goals decide
  ·have h1 : (propV st.V a0 x1).size <= 12 := by
    unfold propV
    split
    ·exact q _
    ·decide
   have h2 : (propV st.V a0 x1).data.toList.length = (propV st.V a0 x1).size := Array.length_toList
   omega
theorem does_hops (st : DkS) (x0 x1 x2 : ByteArray) : ∃ st' out, DoesK 19 [x0, x1, x2] st st' out := by
 cases q0 : numW x0 with
 | none => exact does_bad fun w y s M v ht hl hg hG hv => dk_hops_bad0 x0 x1 x2 ht hl hg hG hv q0
 | some a0 =>
  cases q2 : numW x2 with
  | none => exact does_bad fun w y s M v ht hl hg hG hv => dk_hops_bad2 x0 x1 x2 ht hl hg hG hv a0 q0 q2
  | some a2 =>
   refine does_of (fun w y s M v ht hl hg hG hv => dk_hops_ok x0 x1 x2 ht hl hg hG hv a0 q0 a2 q2) (fun hi q => ⟨q, outP_ok ?_ (word_len (by decide) (ints_len ?_ ?_))⟩)
   ·unfold hopsE
    repeat' split
    all_goals decide
   ·exact Nat.le_trans (hops_len hi.1 _ _ _) (by decide)
   ·exact fun z hz => kyOk_int (hi.1.wf z (hops_in hi.1 _ _ _ z hz))
theorem does_way (st : DkS) (x0 x1 x2 : ByteArray) : ∃ st' out, DoesK 28 [x0, x1, x2] st st' out := by
 cases q0 : numW x0 with
 | none => exact does_bad fun w y s M v ht hl hg hG hv => dk_way_bad0 x0 x1 x2 ht hl hg hG hv q0
 | some a0 =>
  cases q1 : numW x1 with
  | none => exact does_bad fun w y s M v ht hl hg hG hv => dk_way_bad1 x0 x1 x2 ht hl hg hG hv a0 q0 q1
  | some a1 =>
   rcases Classical.em (KeysT st.V st.L) with hT | hT
   ·obtain ⟨e0, lw, _, hLen, hN, h0, h1, hQ⟩ := q_way hT a0 a1 (wf_of (numW_wf q0)) (wf_of (numW_wf q1)) (textB x2)
    exact does_of (fun w y s M v ht hl hg hG hv => dk_way_ok x0 x1 x2 ht hl hg hG hv a0 q0 a1 q1 e0 lw hLen hN (fun hp => hQ hp)) (fun hi q => ⟨q, outP_ok ⟨h0, h1⟩ (word_len (by decide) (ints_len hLen (fun z hz => kyOk_int (hi.1.wf z (hN z hz)))))⟩)
   ·exact ⟨st, .error 3, fun w y s M v ht hl hg hG hv => absurd hG.i.1 hT⟩
theorem does_edges (st : DkS) : ∃ st' out, DoesK 15 [] st st' out :=
 does_of (fun w y s M v ht hl hg hG hv => dk_edges_ok ht hG hv) (fun hi q => ⟨q, word_len (word := [101, 100, 103, 101, 115, 32]) (by decide) (keys_len (Nat.le_trans (Nat.le_trans (List.length_filter_le _ _) hi.1.len) (by decide)) (fun z hz => ⟨(hi.1.ok z (List.mem_filter.1 hz).1).1, keyB_small (hi.1.ok z (List.mem_filter.1 hz).1).2⟩))⟩)
theorem does_nodes (st : DkS) (x0 : ByteArray) : ∃ st' out, DoesK 22 [x0] st st' out := by
 refine does_of (fun w y s M v ht hl hg hG hv => dk_nodes_ok x0 ht hl hg hG hv) (fun hi q => ⟨q, word_len (word := [110, 111, 100, 101, 115, 32]) (by decide) (ints_len ?_ ?_)⟩)
 ·have h1 : (sortedI (nodesR st.V (textB x0) st.L)).length = (nodesR st.V (textB x0) st.L).length := (List.mergeSort_perm _ _).length_eq
  have h2 := nodesR_le st.V (textB x0) st.L
  have h3 := hi.1.len
  omega
 ·exact fun z hz => kyOk_int (hi.1.wf z (nodesR_in (textB x0) z (sortedI_mem.1 hz)))
theorem does_cut (st : DkS) (x0 : ByteArray) : ∃ st' out, DoesK 14 [x0] st st' out := by
 cases q0 : numW x0 with
 | none => exact does_bad fun w y s M v ht hl hg hG hv => dk_cut_bad0 x0 ht hl hg hG hv q0
 | some a0 => exact does_of (fun w y s M v ht hl hg hG hv => dk_cut_ok x0 ht hl hg hG hv a0 q0) (fun _ q => ⟨q, by show (3 : Nat) <= 2000000000; decide⟩)
theorem does_open (st : DkS) : ∃ st' out, DoesK 24 [] st st' out := does_of (fun w y s M v ht hl hg hG hv => dk_open_ok ht hl hg hG hv) (fun _ q => ⟨q, by show (4 : Nat) <= 2000000000; decide⟩)
theorem does_new (st : DkS) : ∃ st' out, DoesK 21 [] st st' out := does_of (fun w y s M v ht hl hg hG hv => dk_new_ok ht hl hg hG hv) (fun _ _ => ⟨fun k => by show (refS [] k _ 0).size <= 12; rw [refS_nil]; decide, by show (3 : Nat) <= 2000000000; decide⟩)
theorem does_help (st : DkS) : ∃ st' out, DoesK 18 [] st st' out := does_of (fun w y s M v ht hl hg hG hv => dk_help_ok hG hv) (fun _ q => ⟨q, by
 have := join_le helpS [32] 10 (by decide)
 have h2 : helpS.length = 17 := by decide
 rw [h2] at this
 show (Lib.join helpS [32]).length <= 2000000000
 simp only [List.length_cons, List.length_nil] at this
 omega⟩)
theorem does_keys (st : DkS) (x0 x1 : ByteArray) : ∃ st' out, DoesK 20 [x0, x1] st st' out := by
 cases q0 : numW x0 with
 | none => exact does_bad fun w y s M v ht hl hg hG hv => dk_keys_bad0 x0 x1 ht hl hg hG hv q0
 | some a0 =>
  cases q1 : numW x1 with
  | none => exact does_bad fun w y s M v ht hl hg hG hv => dk_keys_bad1 x0 x1 ht hl hg hG hv a0 q0 q1
  | some a1 =>
   obtain ⟨Lk, hL, hU⟩ := only_one (P := KeyL (stE st.es).1 a0 a1 (keysE (stE st.es).1.length (stE st.es).2 a0 a1)) (fun _ _ => key_one)
   refine does_of (fun w y s M v ht hl hg hG hv => dk_keys_ok x0 x1 ht hl hg hG hv a0 q0 a1 q1 Lk hU) (fun hi q => ⟨q, outP_ok (keysE_le _ _ _ _) (word_len (by decide) ?_)⟩)
   rcases hL with hL | rfl
   ·exact keys_len (Nat.le_trans hL.2.2 (by decide)) (fun z hz => refS_small hi.2.1 ((hL.2.1 z).1 hz).2)
   ·exact keys_len (by decide) (fun z hz => by cases hz)
theorem does_at (st : DkS) (x0 x1 : ByteArray) : ∃ st' out, DoesK 12 [x0, x1] st st' out := by
 cases q0 : numW x0 with
 | none => exact does_bad fun w y s M v ht hl hg hG hv => dk_at_bad0 x0 x1 ht hl hg hG hv q0
 | some a0 =>
  cases q1 : numW x1 with
  | none => exact does_bad fun w y s M v ht hl hg hG hv => dk_at_bad1 x0 x1 ht hl hg hG hv a0 q0 q1
  | some a1 =>
   obtain ⟨Lk, hL, hU⟩ := only_one (P := fun Lz : List Ky => Lz.Pairwise (fun a b => cfY a b < 0) /\ ∀ k, k ∈ Lz ↔ refS (stE st.es).1 k a0.toNat a1 ≠ ByteArray.empty) (fun l m h h' => rises_one cf_irr cf_asym l m h.1 h'.1 (fun x => by rw [h.2, h'.2]))
   refine does_of (fun w y s M v ht hl hg hG hv => dk_at_ok x0 x1 ht hl hg hG hv a0 q0 a1 q1 Lk (fun Lz h1 h2 => (hU Lz ⟨h1, h2⟩).symm)) (fun hi q => ⟨?_, outP_ok (keysE_le _ _ _ _) (by decide)⟩)
   unfold atSt
   split
   ·exact fun k => refS_size hi.2.1 _ _ _
   ·exact q
theorem does_value (st : DkS) (x0 x1 x2 x3 x4 x5 : ByteArray) : ∃ st' out, DoesK 27 [x0, x1, x2, x3, x4, x5] st st' out := by
 cases q0 : keyW x0 x1 x2 x3 with
 | none => exact does_bad fun w y s M v ht hl hg hG hv => dk_value_bad0 x0 x1 x2 x3 x4 x5 ht hl hg hG hv q0
 | some a0 =>
  cases q1 : numW x4 with
  | none => exact does_bad fun w y s M v ht hl hg hG hv => dk_value_bad1 x0 x1 x2 x3 x4 x5 ht hl hg hG hv a0 q0 q1
  | some a1 =>
   cases q2 : numW x5 with
   | none => exact does_bad fun w y s M v ht hl hg hG hv => dk_value_bad2 x0 x1 x2 x3 x4 x5 ht hl hg hG hv a0 q0 a1 q1 q2
   | some a2 =>
    refine does_of (fun w y s M v ht hl hg hG hv => dk_value_ok x0 x1 x2 x3 x4 x5 ht hl hg hG hv a0 q0 a1 q1 a2 q2) (fun hi q => ⟨q, outP_ok (valE_le _ _ _ _ _) ?_⟩)
    rw [dashB_data]
    refine Nat.le_trans (dashL_le _) ?_
    have h2 : (valV (stE st.es).1 a0 a1 a2 (valE (stE st.es).1.length (stE st.es).2 a0 a1 a2)).data.toList.length = (valV (stE st.es).1 a0 a1 a2 (valE (stE st.es).1.length (stE st.es).2 a0 a1 a2)).size := Array.length_toList
    have h1 : (valV (stE st.es).1 a0 a1 a2 (valE (stE st.es).1.length (stE st.es).2 a0 a1 a2)).size <= 12 := by
     unfold valV
     split
     ·exact refS_size hi.2.1 _ _ _
     ·decide
    omega
theorem does_pieces (st : DkS) (x0 x1 x2 x3 x4 : ByteArray) : ∃ st' out, DoesK 25 [x0, x1, x2, x3, x4] st st' out := by
 cases q0 : keyW x0 x1 x2 x3 with
 | none => exact does_bad fun w y s M v ht hl hg hG hv => dk_pieces_bad0 x0 x1 x2 x3 x4 ht hl hg hG hv q0
 | some a0 =>
  cases q1 : numW x4 with
  | none => exact does_bad fun w y s M v ht hl hg hG hv => dk_pieces_bad1 x0 x1 x2 x3 x4 ht hl hg hG hv a0 q0 q1
  | some a1 =>
   obtain ⟨Lk, hL, hU⟩ := only_one (P := PieSay (stE st.es).1 a0 a1 (pieE (stE st.es).1.length (stE st.es).2 a0 a1)) (fun _ _ => pie_one)
   refine does_of (fun w y s M v ht hl hg hG hv => dk_pieces_ok x0 x1 x2 x3 x4 ht hl hg hG hv a0 q0 a1 q1 Lk hU) (fun hi q => ⟨q, outP_ok (pieE_le _ _ _ _) (word_len (by decide) ?_)⟩)
   rcases hL with hL | rfl
   ·obtain ⟨f1, f2⟩ := pieces_few hi.2.1 hi.2.2.1 hL
    exact pcs_len f1 (fun z hz => pieceL_le z (f2 z hz).1 (f2 z hz).2.1 (f2 z hz).2.2)
   ·exact pcs_len (by decide) (fun z hz => by cases hz)
theorem does_ever (st : DkS) (x0 x1 x2 x3 x4 x5 x6 x7 : ByteArray) : ∃ st' out, DoesK 16 [x0, x1, x2, x3, x4, x5, x6, x7] st st' out := by
 cases q0 : keyW x0 x1 x2 x3 with
 | none => exact does_bad fun w y s M v ht hl hg hG hv => dk_ever_bad0 x0 x1 x2 x3 x4 x5 x6 x7 ht hl hg hG hv q0
 | some a0 =>
  cases q1 : numW x4 with
  | none => exact does_bad fun w y s M v ht hl hg hG hv => dk_ever_bad1 x0 x1 x2 x3 x4 x5 x6 x7 ht hl hg hG hv a0 q0 q1
  | some a1 =>
   cases q2 : numW x5 with
   | none => exact does_bad fun w y s M v ht hl hg hG hv => dk_ever_bad2 x0 x1 x2 x3 x4 x5 x6 x7 ht hl hg hG hv a0 q0 a1 q1 q2
   | some a2 =>
    cases q3 : numW x6 with
    | none => exact does_bad fun w y s M v ht hl hg hG hv => dk_ever_bad3 x0 x1 x2 x3 x4 x5 x6 x7 ht hl hg hG hv a0 q0 a1 q1 a2 q2 (.inl q3)
    | some a3 =>
     cases q4 : numW x7 with
     | none => exact does_bad fun w y s M v ht hl hg hG hv => dk_ever_bad3 x0 x1 x2 x3 x4 x5 x6 x7 ht hl hg hG hv a0 q0 a1 q1 a2 q2 (.inr q4)
     | some b3 =>
      obtain ⟨Lk, hL, hU⟩ := only_one (P := EverL (stE st.es).1 a0 a1 a2 a3 b3 (everE (stE st.es).1.length (stE st.es).2 a0 a1 a2 a3 b3)) (fun _ _ => ever_one)
      refine does_of (fun w y s M v ht hl hg hG hv => dk_ever_ok x0 x1 x2 x3 x4 x5 x6 x7 ht hl hg hG hv a0 q0 a1 q1 a2 q2 a3 b3 ⟨q3, q4⟩ Lk hU) (fun hi q => ⟨q, outP_ok (everE_le _ _ _ _ _ _ _) (word_len (by decide) ?_)⟩)
      have hf : Lk.length <= 4001 /\ ∀ x, x ∈ Lk -> x.length <= 12 := by
       rcases hL with hL | rfl
       ·exact ever_few hi.2.1 hi.2.2.1 hL
       ·exact ⟨by decide, fun x hx => by cases hx⟩
      have h1 := join_le Lk [32] 12 hf.2
      simp only [List.length_cons, List.length_nil] at h1
      have := hf.1
      omega
theorem fgSt_V (st : DkS) (a : Int) : (fgSt st a).V = st.V := by
 unfold fgSt
 repeat' split
 all_goals rfl
theorem cmSt_V (st : DkS) (l : List Fop) : (cmSt st l).V = st.V := by
 unfold cmSt
 repeat' split
 all_goals rfl
theorem does_forget (st : DkS) (x0 : ByteArray) : ∃ st' out, DoesK 17 [x0] st st' out := by
 cases q0 : numW x0 with
 | none => exact does_bad fun w y s M v ht hl hg hG hv => dk_forget_bad0 x0 ht hl hg hG hv q0
 | some a0 => exact does_of (fun w y s M v ht hl hg hG hv => dk_forget_ok x0 ht hl hg hG hv a0 q0) (fun _ q => ⟨fun k => by rw [fgSt_V]; exact q k, outP_ok (fgE_le _ _) (by decide)⟩)
theorem does_now (st : DkS) : ∃ st' out, DoesK 23 [] st st' out := does_of (fun w y s M v ht hl hg hG hv => dk_now_ok ht hG hv) (fun hi q => ⟨q, by
 have h1 := ints_len (l := [((stE st.es).1.length : Int), (stE st.es).2, (st.es.length : Int)]) (by simp) hi.2.2.2
 have h2 : (boolL st.down).length <= 10 := by unfold boolL; cases st.down <;> decide
 show (nowL st).length <= 2000000000
 unfold nowL
 rw [List.length_append, List.length_append]
 simp only [List.length_cons, List.length_nil]
 omega⟩)
theorem cmSt_len (st : DkS) (l : List Fop) : (stE (cmSt st l).es).1.length <= (stE st.es).1.length + 1 := by
 unfold cmSt
 repeat' split
 ·exact Nat.le_succ _
 ·show (stE (st.es ++ [.inl l])).1.length <= _
  have hsn : stE (st.es ++ [.inl l]) = ((stE st.es).1 ++ [l], (stE st.es).2) := stE_snoc _ _
  rw [hsn, List.length_append]
  exact Nat.le_refl _
 ·exact Nat.le_succ _
theorem does_commit (st : DkS) (ws : List ByteArray) (hn : ws.length <= 100000) (hJ : (txL ws).length <= 100000) : ∃ st' out, DoesK 13 ws st st' out := by
 rcases Classical.em (∃ q, okL q /\ txL ws = opsL q) with ⟨q, hq, hs⟩ | hno
 ·refine does_of (fun w y s M v ht hl hg hG hv => dk_commit_ok ht hl hg hG hv hn hJ q hq hs) (fun hi h => ⟨fun k => by rw [cmSt_V]; exact h k, outP_ok (cmE_le _) ?_⟩)
  have h1 := cmSt_len st q
  have h2 := hi.2.2.1
  exact Nat.le_trans (itoa_21 _ (by omega) (by omega)) (by decide)
 ·exact does_bad fun w y s M v ht hl hg hG hv => dk_commit_no ht hl hg hG hv hn hJ (fun q hq e => hno ⟨q, hq, e⟩)
theorem list0 {α : Type} {l : List α} (h : (0 : Int) = (l.length : Int)) : l = [] := List.eq_nil_of_length_eq_zero (by omega)
theorem listS {α : Type} {l : List α} {n : Nat} (h : ((n + 1 : Nat) : Int) = (l.length : Int)) : ∃ x m, l = x :: m /\ (n : Int) = (m.length : Int) := by
 cases l with
 | nil => exact absurd h (by show ¬ ((n + 1 : Nat) : Int) = ((0 : Nat) : Int); omega)
 | cons x m => exact ⟨x, m, rfl, by have h' : ((n + 1 : Nat) : Int) = ((m.length + 1 : Nat) : Int) := h; omega⟩
theorem list1 {α : Type} {l : List α} (h : (1 : Int) = (l.length : Int)) : ∃ a, l = [a] := by
 obtain ⟨a, m0, q0, h0⟩ := listS (n := 0) h
 rw [q0, list0 h0]
 exact ⟨a, rfl⟩
theorem list2 {α : Type} {l : List α} (h : (2 : Int) = (l.length : Int)) : ∃ a b, l = [a, b] := by
 obtain ⟨a, m0, q0, h0⟩ := listS (n := 1) h
 obtain ⟨b, m1, q1, h1⟩ := listS (n := 0) h0
 rw [q0, q1, list0 h1]
 exact ⟨a, b, rfl⟩
theorem list3 {α : Type} {l : List α} (h : (3 : Int) = (l.length : Int)) : ∃ a b c, l = [a, b, c] := by
 obtain ⟨a, m0, q0, h0⟩ := listS (n := 2) h
 obtain ⟨b, m1, q1, h1⟩ := listS (n := 1) h0
 obtain ⟨c, m2, q2, h2⟩ := listS (n := 0) h1
 rw [q0, q1, q2, list0 h2]
 exact ⟨a, b, c, rfl⟩
theorem list5 {α : Type} {l : List α} (h : (5 : Int) = (l.length : Int)) : ∃ a b c d e, l = [a, b, c, d, e] := by
 obtain ⟨a, m0, q0, h0⟩ := listS (n := 4) h
 obtain ⟨b, m1, q1, h1⟩ := listS (n := 3) h0
 obtain ⟨c, m2, q2, h2⟩ := listS (n := 2) h1
 obtain ⟨d, m3, q3, h3⟩ := listS (n := 1) h2
 obtain ⟨e, m4, q4, h4⟩ := listS (n := 0) h3
 rw [q0, q1, q2, q3, q4, list0 h4]
 exact ⟨a, b, c, d, e, rfl⟩
theorem list6 {α : Type} {l : List α} (h : (6 : Int) = (l.length : Int)) : ∃ a b c d e f, l = [a, b, c, d, e, f] := by
 obtain ⟨a, m0, q0, h0⟩ := listS (n := 5) h
 obtain ⟨b, m1, q1, h1⟩ := listS (n := 4) h0
 obtain ⟨c, m2, q2, h2⟩ := listS (n := 3) h1
 obtain ⟨d, m3, q3, h3⟩ := listS (n := 2) h2
 obtain ⟨e, m4, q4, h4⟩ := listS (n := 1) h3
 obtain ⟨f, m5, q5, h5⟩ := listS (n := 0) h4
 rw [q0, q1, q2, q3, q4, q5, list0 h5]
 exact ⟨a, b, c, d, e, f, rfl⟩
theorem list8 {α : Type} {l : List α} (h : (8 : Int) = (l.length : Int)) : ∃ a b c d e f g i, l = [a, b, c, d, e, f, g, i] := by
 obtain ⟨a, m0, q0, h0⟩ := listS (n := 7) h
 obtain ⟨b, m1, q1, h1⟩ := listS (n := 6) h0
 obtain ⟨c, m2, q2, h2⟩ := listS (n := 5) h1
 obtain ⟨d, m3, q3, h3⟩ := listS (n := 4) h2
 obtain ⟨e, m4, q4, h4⟩ := listS (n := 3) h3
 obtain ⟨f, m5, q5, h5⟩ := listS (n := 2) h4
 obtain ⟨g, m6, q6, h6⟩ := listS (n := 1) h5
 obtain ⟨i, m7, q7, h7⟩ := listS (n := 0) h6
 rw [q0, q1, q2, q3, q4, q5, q6, q7, list0 h7]
 exact ⟨a, b, c, d, e, f, g, i, rfl⟩
theorem does_all (st : DkS) (k : List UInt8) (d : Int × Nat) (hd : (k, d) ∈ deeds) (ws : List ByteArray) (hc : d.1 = -1 \/ d.1 = (ws.length : Int)) (hn : ws.length <= 100000) (hJ : (txL ws).length <= 100000) : ∃ st' out, DoesK d.2 ws st st' out := by
 unfold deeds at hd
 simp only [List.mem_cons, List.mem_nil_iff, or_false, Prod.mk.injEq] at hd
 rcases hd with ⟨-, rfl⟩ | ⟨-, rfl⟩ | ⟨-, rfl⟩ | ⟨-, rfl⟩ | ⟨-, rfl⟩ | ⟨-, rfl⟩ | ⟨-, rfl⟩ | ⟨-, rfl⟩ | ⟨-, rfl⟩ | ⟨-, rfl⟩ | ⟨-, rfl⟩ | ⟨-, rfl⟩ | ⟨-, rfl⟩ | ⟨-, rfl⟩ | ⟨-, rfl⟩ | ⟨-, rfl⟩ | ⟨-, rfl⟩
 ·obtain ⟨a, b, rfl⟩ := list2 (hc.resolve_left (by decide))
  exact does_at st a b
 ·exact does_commit st ws hn hJ
 ·obtain ⟨a, rfl⟩ := list1 (hc.resolve_left (by decide))
  exact does_cut st a
 ·rw [list0 (hc.resolve_left (by decide))]
  exact does_edges st
 ·obtain ⟨a, b, c, d, e, f, g, i, rfl⟩ := list8 (hc.resolve_left (by decide))
  exact does_ever st a b c d e f g i
 ·obtain ⟨a, rfl⟩ := list1 (hc.resolve_left (by decide))
  exact does_forget st a
 ·rw [list0 (hc.resolve_left (by decide))]
  exact does_help st
 ·obtain ⟨a, b, c, rfl⟩ := list3 (hc.resolve_left (by decide))
  exact does_hops st a b c
 ·obtain ⟨a, b, rfl⟩ := list2 (hc.resolve_left (by decide))
  exact does_keys st a b
 ·rw [list0 (hc.resolve_left (by decide))]
  exact does_new st
 ·obtain ⟨a, rfl⟩ := list1 (hc.resolve_left (by decide))
  exact does_nodes st a
 ·rw [list0 (hc.resolve_left (by decide))]
  exact does_now st
 ·rw [list0 (hc.resolve_left (by decide))]
  exact does_open st
 ·obtain ⟨a, b, c, d, e, rfl⟩ := list5 (hc.resolve_left (by decide))
  exact does_pieces st a b c d e
 ·obtain ⟨a, b, rfl⟩ := list2 (hc.resolve_left (by decide))
  exact does_prop st a b
 ·obtain ⟨a, b, c, d, e, f, rfl⟩ := list6 (hc.resolve_left (by decide))
  exact does_value st a b c d e f
 ·obtain ⟨a, b, c, rfl⟩ := list3 (hc.resolve_left (by decide))
  exact does_way st a b c
def toldL : Except Int (List UInt8) -> List UInt8
 | .ok t => t
 | .error n => faultL n
def AnsP (st : DkS) (line : ByteArray) (st' : DkS) (ans : List UInt8) : Prop :=
 ∀ w y s M, Tab w -> Libs w -> ErrorType w -> DkG w y s M st -> VOk st -> VOk st' /\ ans.length <= 2000000000 /\ Calls Tryz.prog 9 #[.pointer (some ⟨s, 0, none⟩), .string line] y fun e y' => e = .returned (.string ⟨ans.toArray⟩) /\ After w s M y st' y'
theorem told_set {w y W : World} {s : Nat} {M : Nat -> Prop} {st : DkS} (h : DkG w y s M st) (hb : Below y.heap.size y W) (v : Value) : After w s M y st (W.setCell ⟨y.heap.size, 0, none⟩ v) := by
 obtain ⟨dm, D, B, ps, F, g, m, X, Nd, Fs, hI, hM⟩ := h
 have hk := keeps_set W y.heap.size 0 v
 have h0 := hI.lt
 refine ⟨M, ⟨dm, D, B, ps, F, g, m, X, Nd, Fs, (hI.below hb).box hk hI.low.size (fun i hi e => ?_), hM⟩, fun _ q => .inl q, ?_⟩
 ·have := h0 i hi
  omega
 ·exact (Keeps.of_below M hb zr).then hk (fun i hi e => by omega)
theorem ans_empty {w y : World} {s : Nat} {M : Nat -> Prop} {st : DkS} (line : ByteArray) (h : DkG w y s M st) (hs : line.size <= 30000) (hw : wordsD line = []) :
  Calls Tryz.prog 9 #[.pointer (some ⟨s, 0, none⟩), .string line] y fun e y' => e = .returned (.string ⟨#[111, 107]⟩) /\ After w s M y st y' := by
 have hmf : ∀ (fn : Fn) (first cap : Array Value) (w : World), (Instr.makeFunc fn first cap).run Tryz.prog w = .ok (.func fn first cap) w := fun _ _ _ _ => rfl
 have hb0 := below_box y (.cells #[.string ⟨#[]⟩] 9)
 have hc0 : (y.alloc (.cells #[.string ⟨#[]⟩] 9)).cell? ⟨y.heap.size, 0, none⟩ = some (.string ⟨#[]⟩) := by simp
 have hf0 : (y.alloc (.cells #[.string ⟨#[]⟩] 9)).frozen? ⟨y.heap.size, 0, none⟩ = false := by simp
 have hsp := desk_split line (y.alloc (.cells #[.string ⟨#[]⟩] 9)) (by omega)
 rw [hw] at hsp
 have HSp := zh hsp
 have HG := zh h
 have HB0 := zh hb0
 have HC0 := zh hc0
 have HF0 := zh hf0
 have HLt : Hid (y.heap.size < (y.alloc (.cells #[.string ⟨#[]⟩] 9)).heap.size) := zh (by simp)
 clear h hb0 hc0 hf0 hsp hs hw
 go_enter_defers Tryz.func9, Tryz.ntmps9
 go_wp2_with fail
 generalize y.alloc (.cells #[.string ⟨#[]⟩] 9) = Y0 at *
 refine (uh HSp).mono ?_
 rintro e Y1 ⟨A, rfl, hA, b1⟩
 have c1 := there_yet (uh HC0) b1
 have f1 : Y1.frozen? ⟨y.heap.size, 0, none⟩ = false := ((Keeps.of_below (fun _ => False) b1 zr).frozen (p := ⟨y.heap.size, 0, none⟩) (uh HLt) (fun q => q)).trans (uh HF0)
 have HB1 := zh ((uh HB0).trans (b1.mono (uh HB0).size))
 clear hA b1 HSp
 simp only [List.length_nil]
 go_wp2
 refine leaves_cons (f := 33) (args := #[.pointer (some ⟨y.heap.size, 0, none⟩)]) (by simp) (by simp [go_sem]) ?_
 refine (catch_idle y.heap.size _).mono ?_
 rintro e u' w'' ⟨rfl, rfl, rfl⟩
 have HA := zh (told_set (uh HG) (uh HB1) (.string ⟨#[111, 107]⟩))
 simp [Leaves, settle, results, Tryz.results9, go_sem, c1]
 exact uh HA
theorem leaves_tmps {P : Program} {fn : Func} {t t' : Array Value} {R : Ending -> World -> Prop} (hr : results fn t' = results fn t) : ∀ (ds : List Deferred) (u : FrameMode) (w : World), Leaves P fn t' R ds u w -> Leaves P fn t R ds u w
 | [], .returning, w, h => by
  unfold Leaves at h ⊢
  rw [<- hr]
  exact h
 | [], .panicking chain, w, h => by
  unfold Leaves at h ⊢
  exact h
 | [], .run, _, h => by
  unfold Leaves at h
  exact h.elim
 | d :: ds, u, w, h => by
  unfold Leaves at h ⊢
  obtain ⟨h0, fv, cap, f, args, h1, h2, h3⟩ := h
  refine ⟨h0, fv, cap, f, args, h1, h2, h3.mono ?_⟩
  intro e u' w' q
  cases e with
  | returned v => exact leaves_tmps hr ds _ _ q
  | panicked c => exact leaves_tmps hr ds _ _ q
  | outgrown => exact q
theorem ans_results (a : Act) (i : Nat) (hi : i ≠ 4) (v : Value) : results Tryz.f9 (a.put (some i) v).tmps = results Tryz.f9 a.tmps := by
 unfold results
 rw [Tryz.results9]
 simp [Act.put]
 rw [Array.getElem?_setIfInBounds_ne hi]
theorem told_after {w y Wf y' : World} {s : Nat} {M : Nat -> Prop} {st st' : DkS} (hG : DkG w y s M st) (hWy : Below y.heap.size y Wf) (hp : y.heap.size < Wf.heap.size) (hA : After w s M Wf st' y') (v : Value) : After w s M y st' (y'.setCell ⟨y.heap.size, 0, none⟩ v) := by
 obtain ⟨M', ⟨dm', D', B', ps', F', g', m', X', Nd', Fs', hI', hM'⟩, hsub, hk⟩ := hA
 have hnM : ¬ M y.heap.size := fun q => by
  obtain ⟨_, _, _, _, _, _, _, _, _, _, hI, hM⟩ := hG
  have := hI.lt _ ((hM _).1 q)
  omega
 have hnM' : ¬ M' y.heap.size := fun q => by
  rcases hsub _ q with r | r
  ·exact hnM r
  ·omega
 have hks := keeps_set y' y.heap.size 0 v
 refine ⟨M', ⟨dm', D', B', ps', F', g', m', X', Nd', Fs', hI'.box hks hG.low.size (fun i hi e => hnM' (by rw [<- e]; exact (hM' i).2 hi)), hM'⟩, fun i hi => (hsub i hi).imp id (fun r => Nat.le_trans hWy.size r), ?_⟩
 exact ((Keeps.of_below M hWy zr).then hk (fun _ _ q => q)).then hks (fun i hi e => by omega)
theorem kept_box {w y Wd Y2 : World} {s : Nat} {M : Nat -> Prop} {st : DkS} (hG : DkG w y s M st) (hk : Keeps M Wd Y2) {p i : Nat} (hp : y.heap.size <= p) (hl : p < Wd.heap.size) : Y2.cell? ⟨p, i, none⟩ = Wd.cell? ⟨p, i, none⟩ /\ Y2.frozen? ⟨p, i, none⟩ = Wd.frozen? ⟨p, i, none⟩ := by
 have hn : ¬ M p := fun q => by
  obtain ⟨_, _, _, _, _, _, _, _, _, _, hI, hM⟩ := hG
  have := hI.lt _ ((hM _).1 q)
  omega
 exact ⟨hk.cell (p := ⟨p, i, none⟩) hl hn, hk.frozen (p := ⟨p, i, none⟩) hl hn⟩
theorem ws_rest {Y : World} {A wn : Nat} {x0 : ByteArray} {ws : List ByteArray} {adr : Option Addr} (h : ∀ j, (hj : j < (x0 :: ws).length) -> Y.cell? ⟨A, 0 + j, none⟩ = some (.string (x0 :: ws)[j])) (hz : ∀ x, x ∈ x0 :: ws -> x.size <= 30000) (hw : wn = ws.length) (ha : ¬ wn = 0 -> adr = some ⟨A, 1, none⟩) : WsI Y (.slice adr wn wn) ws := by
 subst hw
 refine ⟨adr, ws.length, rfl, Nat.le_refl _, fun j hj => ⟨A, 1, ha (by omega), ?_⟩, fun x hx => hz x (List.mem_cons_of_mem _ hx)⟩
 have := h (j + 1) (by simp; omega)
 rw [show 0 + (j + 1) = 1 + j by omega] at this
 simpa using this
theorem deed_enters {k : List UInt8} {dn : Int} {df : Nat} (hd : (k, (dn, df)) ∈ deeds) : ∀ args w, (callFunc df args).run Tryz.prog w = .ok (.enter df args) w := by
 unfold deeds at hd
 simp only [List.mem_cons, List.mem_nil_iff, or_false, Prod.mk.injEq] at hd
 rcases hd with ⟨-, -, rfl⟩ | ⟨-, -, rfl⟩ | ⟨-, -, rfl⟩ | ⟨-, -, rfl⟩ | ⟨-, -, rfl⟩ | ⟨-, -, rfl⟩ | ⟨-, -, rfl⟩ | ⟨-, -, rfl⟩ | ⟨-, -, rfl⟩ | ⟨-, -, rfl⟩ | ⟨-, -, rfl⟩ | ⟨-, -, rfl⟩ | ⟨-, -, rfl⟩ | ⟨-, -, rfl⟩ | ⟨-, -, rfl⟩ | ⟨-, -, rfl⟩ | ⟨-, -, rfl⟩
 ·exact enters_of Tryz.func12 (by kernel_rfl) rfl
 ·exact enters_of Tryz.func13 (by kernel_rfl) rfl
 ·exact enters_of Tryz.func14 (by kernel_rfl) rfl
 ·exact enters_of Tryz.func15 (by kernel_rfl) rfl
 ·exact enters_of Tryz.func16 (by kernel_rfl) rfl
 ·exact enters_of Tryz.func17 (by kernel_rfl) rfl
 ·exact enters_of Tryz.func18 (by kernel_rfl) rfl
 ·exact enters_of Tryz.func19 (by kernel_rfl) rfl
 ·exact enters_of Tryz.func20 (by kernel_rfl) rfl
 ·exact enters_of Tryz.func21 (by kernel_rfl) rfl
 ·exact enters_of Tryz.func22 (by kernel_rfl) rfl
 ·exact enters_of Tryz.func23 (by kernel_rfl) rfl
 ·exact enters_of Tryz.func24 (by kernel_rfl) rfl
 ·exact enters_of Tryz.func25 (by kernel_rfl) rfl
 ·exact enters_of Tryz.func26 (by kernel_rfl) rfl
 ·exact enters_of Tryz.func27 (by kernel_rfl) rfl
 ·exact enters_of Tryz.func28 (by kernel_rfl) rfl
theorem ans_no {w y : World} {s : Nat} {M : Nat -> Prop} {st : DkS} (line : ByteArray) (ht : Tab w) (hl : Libs w) (hg : ErrorType w) (h : DkG w y s M st) (hs : line.size <= 30000) (x0 : ByteArray) (ws : List ByteArray) (hw : wordsD line = x0 :: ws) (hno : x0.data.toList ∉ deeds.map (·.1)) (hx : x0.size <= 100000) :
  Calls Tryz.prog 9 #[.pointer (some ⟨s, 0, none⟩), .string line] y fun e y' => e = .returned (.string ⟨(faultL 3).toArray⟩) /\ After w s M y st y' := by
 have hmf : ∀ (fn : Fn) (first cap : Array Value) (w : World), (Instr.makeFunc fn first cap).run Tryz.prog w = .ok (.func fn first cap) w := fun _ _ _ _ => rfl
 have hb0 := below_box y (.cells #[.string ⟨#[]⟩] 9)
 have hc0 : (y.alloc (.cells #[.string ⟨#[]⟩] 9)).cell? ⟨y.heap.size, 0, none⟩ = some (.string ⟨#[]⟩) := by simp
 have hf0 : (y.alloc (.cells #[.string ⟨#[]⟩] 9)).frozen? ⟨y.heap.size, 0, none⟩ = false := by simp
 have hsp := desk_split line (y.alloc (.cells #[.string ⟨#[]⟩] 9)) (by omega)
 rw [hw] at hsp
 obtain ⟨dm, D, B, ps, F, g, m, X, Nd, Fs, hI, hM⟩ := id h
 have HSp := zh hsp
 have HG := zh h
 have HB0 := zh hb0
 have HC0 := zh hc0
 have HF0 := zh hf0
 have HLt : Hid (y.heap.size < (y.alloc (.cells #[.string ⟨#[]⟩] 9)).heap.size) := zh (by simp)
 have HSd : Hid (∀ W, Below y.heap.size y W -> W.cell? ⟨s, 3, none⟩ = some (.map (some dm)) /\ (Instr.lookup 45 (.map (some dm)) (.string x0) true).run Tryz.prog W = .ok (.tuple #[.agg #[.int .i64 0, .nilFunc], .bool false]) W) := fun W hb => ⟨(hI.below hb).c3, (hI.below hb).de.look_no x0 hx hno⟩
 have HTw := zh ht
 have HLw := zh hl
 have HGw := zh hg
 have HWs := zh (words_len line)
 rw [hw] at HWs
 have HSz := zh hs
 clear h hb0 hc0 hf0 hsp hs hI hM ht hl hg
 go_enter_defers Tryz.func9, Tryz.ntmps9
 go_wp2_with fail
 generalize y.alloc (.cells #[.string ⟨#[]⟩] 9) = Y0 at *
 refine (uh HSp).mono ?_
 rintro e Y1 ⟨A, rfl, hA, b1⟩
 have c1 := there_yet (uh HC0) b1
 have f1 : Y1.frozen? ⟨y.heap.size, 0, none⟩ = false := ((Keeps.of_below (fun _ => False) b1 zr).frozen (p := ⟨y.heap.size, 0, none⟩) (uh HLt) (fun q => q)).trans (uh HF0)
 have HB1 := zh ((uh HB0).trans (b1.mono (uh HB0).size))
 have HA := zh hA
 have HB01 := zh b1
 have HX0 : Hid (Y1.cell? ⟨A, 0, none⟩ = some (.string x0)) := hA 0 (by simp)
 have HC1 := zh c1
 have HF1 := zh f1
 clear hA b1 HSp c1 f1
 obtain ⟨wn, hwn⟩ : ∃ n, n = ws.length := ⟨_, rfl⟩
 have HWn := zh hwn
 simp only [List.length_cons]
 rw [<- hwn]
 clear hwn
 have hwz : ¬ ((wn : Int) + 1 = 0) := by omega
 go_upto_region 5 with fail
 have HSx : Hid (∀ W, Below Y1.heap.size Y1 W -> W.cell? ⟨s, 3, none⟩ = some (.map (some dm)) /\ W.cell? ⟨A, 0, none⟩ = some (.string x0) /\ (Instr.lookup 45 (.map (some dm)) (.string x0) true).run Tryz.prog W = .ok (.tuple #[.agg #[.int .i64 0, .nilFunc], .bool false]) W) := fun W hb => ⟨(uh HSd W ((uh HB1).trans (hb.mono (uh HB1).size))).1, there_yet (uh HX0) hb, (uh HSd W ((uh HB1).trans (hb.mono (uh HB1).size))).2⟩
 have HBd := zh (below_drew Y1)
 refine wp_region_held_drew (S := fun W => W.cell? ⟨s, 3, none⟩ = some (.map (some dm)) /\ W.cell? ⟨A, 0, none⟩ = some (.string x0) /\ (Instr.lookup 45 (.map (some dm)) (.string x0) true).run Tryz.prog W = .ok (.tuple #[.agg #[.int .i64 0, .nilFunc], .bool false]) W) (by kernel_rfl) (uh HSx _ (uh HBd)) (fun hHeld => ?_)
 generalize Y1.drew = Yd at *
 refine takeH 0 (hQ := by exact fun _ a _ h => leaves_tmps (ans_results a _ (by decide) _) _ _ _ h) (h := ?_)
 try simp only [Act.put, sI, sZ, sS]
 refine takeH 1 (hQ := by exact fun _ a _ h => leaves_tmps (ans_results a _ (by decide) _) _ _ _ h) (h := ?_)
 try simp only [Act.put, sI, sZ, sS]
 refine takeH 2 (hQ := by exact fun _ a _ h => leaves_tmps (ans_results a _ (by decide) _) _ _ _ h) (h := ?_)
 try simp only [Act.put, sI, sZ, sS]
 refine takeH 3 (hQ := by exact fun _ a _ h => leaves_tmps (ans_results a _ (by decide) _) _ _ _ h) (h := ?_)
 try simp only [Act.put, sI, sZ, sS]
 refine takeH 4 (hQ := by exact fun _ a _ h => leaves_tmps (ans_results a _ (by decide) _) _ _ _ h) (h := ?_)
 try simp only [Act.put, sI, sZ, sS]
 refine takeH 5 (hQ := by exact fun _ a _ h => leaves_tmps (ans_results a _ (by decide) _) _ _ _ h) (h := ?_)
 try simp only [Act.put, sI, sZ, sS]
 refine takeH 6 (hQ := by exact fun _ a _ h => leaves_tmps (ans_results a _ (by decide) _) _ _ _ h) (h := ?_)
 try simp only [Act.put, sI, sZ, sS]
 refine takeH 7 (hQ := by exact fun _ a _ h => leaves_tmps (ans_results a _ (by decide) _) _ _ _ h) (h := ?_)
 try simp only [Act.put, sI, sZ, sS]
 refine takeH 8 (hQ := by exact fun _ a _ h => leaves_tmps (ans_results a _ (by decide) _) _ _ _ h) (h := ?_)
 try simp only [Act.put, sI, sZ, sS]
 refine takeH 9 (hQ := by exact fun _ a _ h => leaves_tmps (ans_results a _ (by decide) _) _ _ _ h) (h := ?_)
 try simp only [Act.put, sI, sZ, sS]
 refine takeH 10 (hQ := by exact fun _ a _ h => leaves_tmps (ans_results a _ (by decide) _) _ _ _ h) (h := ?_)
 try simp only [Act.put, sI, sZ, sS]
 refine readyH 11 (h := fun K hK => ?_)
 go_simp
 have hb2 := below_box Yd (.cells #[.int .i64 0, .nilFunc] 50)
 have HB2 := zh ((uh HBd).trans (hb2.mono (uh HBd).size))
 refine hK.out _ _ (uh HSx _ (uh HB2)) (fun hHeld => ?_)
 clear hK K
 try simp only [Act.put, sI, sZ, sS]
 have e0 : (Yd.alloc (.cells #[.int .i64 0, .nilFunc] 50)).cell? ⟨Yd.heap.size, 0, none⟩ = some (.int .i64 0) := by simp
 have e1 : (Yd.alloc (.cells #[.int .i64 0, .nilFunc] 50)).cell? ⟨Yd.heap.size, 1, none⟩ = some .nilFunc := by simp
 have g0 : (Yd.alloc (.cells #[.int .i64 0, .nilFunc] 50)).frozen? ⟨Yd.heap.size, 0, none⟩ = false := by simp
 have g1 : (Yd.alloc (.cells #[.int .i64 0, .nilFunc] 50)).frozen? ⟨Yd.heap.size, 1, none⟩ = false := by simp
 have HBx : Hid (Y1.heap.size <= Yd.heap.size) := (uh HBd).size
 clear hb2
 generalize Yd.alloc (.cells #[.int .i64 0, .nilFunc] 50) = Ye at *
 generalize Yd.heap.size = bx at *
 refine readyH 12 (h := fun K hK => ?_)
 go_simp
 obtain ⟨Wf, hWf⟩ : ∃ W, W = (Ye.setCell ⟨bx, 0, none⟩ (.int .i64 0)).setCell ⟨bx, 1, none⟩ (.nilFunc) := ⟨_, rfl⟩
 rw [<- hWf]
 have hk : Keeps (· = bx) Ye Wf := by rw [hWf]; exact (keeps_set _ _ _ _).trans (keeps_set _ _ _ _)
 have hyY := (uh HB1).trans ((uh HB2).mono (uh HB1).size)
 have h01 : Y0.heap.size <= Y1.heap.size := (uh HB01).size
 have hlt0 := uh HLt
 have hbx := uh HBx
 have hWy : Below y.heap.size y Wf := hyY.trans (keeps_low hk (fun i e => by omega) hyY.size)
 have hAl : A < Y1.heap.size := lt_of_cell (uh HX0)
 have hYe : Y1.heap.size <= Ye.heap.size := (uh HB2).size
 have hA0 : Wf.cell? ⟨A, 0, none⟩ = some (.string x0) := (hk.cell (p := ⟨A, 0, none⟩) (show A < Ye.heap.size by omega) (show ¬ A = bx by omega)).trans (there_yet (uh HX0) (uh HB2))
 have q0 : Wf.cell? ⟨bx, 0, none⟩ = some (.int .i64 0) := by rw [hWf, zo _ _ _ _ (by simp)]; exact zs _ _ _ e0
 have q1 : Wf.cell? ⟨bx, 1, none⟩ = some (.nilFunc) := by rw [hWf]; exact zs _ _ _ (by rw [zo _ _ _ _ (by simp)]; exact e1)
 have t0 : Wf.cell? ⟨y.heap.size, 0, none⟩ = some (.string ⟨#[]⟩) := (hk.cell (p := ⟨y.heap.size, 0, none⟩) (show y.heap.size < Ye.heap.size by omega) (show ¬ y.heap.size = bx by omega)).trans (there_yet (uh HC1) (uh HB2))
 have t1 : Wf.frozen? ⟨y.heap.size, 0, none⟩ = false := (hk.frozen (p := ⟨y.heap.size, 0, none⟩) (show y.heap.size < Ye.heap.size by omega) (show ¬ y.heap.size = bx by omega)).trans (((Keeps.of_below (fun _ => False) (uh HB2) zr).frozen (p := ⟨y.heap.size, 0, none⟩) (show y.heap.size < Y1.heap.size by omega) (fun q => q)).trans (uh HF1))
 have HWy := zh hWy
 have HT0 := zh t0
 have HT1 := zh t1
 have HKf := zh hk
 have HAl := zh hAl
 have HYe := zh hYe
 refine hK.out _ _ ⟨(uh HSd Wf hWy).1, hA0, (uh HSd Wf hWy).2⟩ (fun hHeld => ?_)
 clear hK K
 try simp only [Act.put, sI, sZ, sS]
 refine takeH 13 (hQ := by exact fun _ a _ h => leaves_tmps (ans_results a _ (by decide) _) _ _ _ h) (h := ?_)
 try simp only [Act.put, sI, sZ, sS]
 refine wpAnyH_done (by kernel_rfl) ?_ _
 clear hHeld hk hyY hWy hWf e0 e1 g0 g1 t0 t1 h01 hlt0 hbx hAl hYe hA0
 go_wp2
 refine leaves_cons (f := 33) (args := #[.pointer (some ⟨y.heap.size, 0, none⟩)]) (by simp) (by simp [go_sem]) ?_
 refine (catch_thrown y.heap.size 3 [] Wf (.string ⟨#[]⟩) (uh HT0) (uh HT1) (by decide) (by decide) ((uh HTw).carry ((uh HG).low.trans ((uh HWy).mono (uh HG).low.size)))).mono ?_
 rintro e u' w2 ⟨rfl, rfl, W, hb, rfl⟩
 have hc := there_yet (uh HT0) hb
 have HA2 := zh (told_set (uh HG) ((uh HWy).trans (hb.mono (uh HWy).size)) (.string ⟨(faultL 3).toArray⟩))
 simp [Leaves, settle, results, Tryz.results9, go_sem, hc]
 exact uh HA2
theorem ans_yes {w y : World} {s : Nat} {M : Nat -> Prop} {st : DkS} (line : ByteArray) (ht : Tab w) (hl : Libs w) (hg : ErrorType w) (h : DkG w y s M st) (hs : line.size <= 30000) (x0 : ByteArray) (ws : List ByteArray) (hw : wordsD line = x0 :: ws) (dn : Int) (df : Nat) (hd : (x0.data.toList, (dn, df)) ∈ deeds) (hx : x0.size <= 100000) (st' : DkS) (out : Except Int (List UInt8)) (hcase : (¬ dn = -1 /\ ¬ dn = (ws.length : Int) /\ st' = st /\ out = .error 3) \/ ((dn = -1 \/ dn = (ws.length : Int)) /\ DoesK df ws st st' out /\ VOk st)) :
  Calls Tryz.prog 9 #[.pointer (some ⟨s, 0, none⟩), .string line] y fun e y' => e = .returned (.string ⟨(toldL out).toArray⟩) /\ After w s M y st' y' := by
 have HCase := zh hcase
 clear hcase
 have hmf : ∀ (fn : Fn) (first cap : Array Value) (w : World), (Instr.makeFunc fn first cap).run Tryz.prog w = .ok (.func fn first cap) w := fun _ _ _ _ => rfl
 have hb0 := below_box y (.cells #[.string ⟨#[]⟩] 9)
 have hc0 : (y.alloc (.cells #[.string ⟨#[]⟩] 9)).cell? ⟨y.heap.size, 0, none⟩ = some (.string ⟨#[]⟩) := by simp
 have hf0 : (y.alloc (.cells #[.string ⟨#[]⟩] 9)).frozen? ⟨y.heap.size, 0, none⟩ = false := by simp
 have hsp := desk_split line (y.alloc (.cells #[.string ⟨#[]⟩] 9)) (by omega)
 rw [hw] at hsp
 obtain ⟨dm, D, B, ps, F, g, m, X, Nd, Fs, hI, hM⟩ := id h
 have HSp := zh hsp
 have HG := zh h
 have HB0 := zh hb0
 have HC0 := zh hc0
 have HF0 := zh hf0
 have HLt : Hid (y.heap.size < (y.alloc (.cells #[.string ⟨#[]⟩] 9)).heap.size) := zh (by simp)
 have HSd : Hid (∀ W, Below y.heap.size y W -> W.cell? ⟨s, 3, none⟩ = some (.map (some dm)) /\ (Instr.lookup 45 (.map (some dm)) (.string x0) true).run Tryz.prog W = .ok (.tuple #[.agg #[.int .i64 dn, .func (.func df) #[.pointer (some ⟨s, 0, none⟩)] #[]], .bool true]) W) := fun W hb => ⟨(hI.below hb).c3, (hI.below hb).de.look x0 hx (dn, df) hd⟩
 have HTw := zh ht
 have HLw := zh hl
 have HGw := zh hg
 have HWs := zh (words_len line)
 rw [hw] at HWs
 have HSz := zh hs
 clear h hb0 hc0 hf0 hsp hs hI hM ht hl hg
 go_enter_defers Tryz.func9, Tryz.ntmps9
 go_wp2_with fail
 generalize y.alloc (.cells #[.string ⟨#[]⟩] 9) = Y0 at *
 refine (uh HSp).mono ?_
 rintro e Y1 ⟨A, rfl, hA, b1⟩
 have c1 := there_yet (uh HC0) b1
 have f1 : Y1.frozen? ⟨y.heap.size, 0, none⟩ = false := ((Keeps.of_below (fun _ => False) b1 zr).frozen (p := ⟨y.heap.size, 0, none⟩) (uh HLt) (fun q => q)).trans (uh HF0)
 have HB1 := zh ((uh HB0).trans (b1.mono (uh HB0).size))
 have HA := zh hA
 have HB01 := zh b1
 have HX0 : Hid (Y1.cell? ⟨A, 0, none⟩ = some (.string x0)) := hA 0 (by simp)
 have HC1 := zh c1
 have HF1 := zh f1
 clear hA b1 HSp c1 f1
 obtain ⟨wn, hwn⟩ : ∃ n, n = ws.length := ⟨_, rfl⟩
 have HWn := zh hwn
 simp only [List.length_cons]
 rw [<- hwn]
 clear hwn
 have hwz : ¬ ((wn : Int) + 1 = 0) := by omega
 go_upto_region 5 with fail
 have HSx : Hid (∀ W, Below Y1.heap.size Y1 W -> W.cell? ⟨s, 3, none⟩ = some (.map (some dm)) /\ W.cell? ⟨A, 0, none⟩ = some (.string x0) /\ (Instr.lookup 45 (.map (some dm)) (.string x0) true).run Tryz.prog W = .ok (.tuple #[.agg #[.int .i64 dn, .func (.func df) #[.pointer (some ⟨s, 0, none⟩)] #[]], .bool true]) W) := fun W hb => ⟨(uh HSd W ((uh HB1).trans (hb.mono (uh HB1).size))).1, there_yet (uh HX0) hb, (uh HSd W ((uh HB1).trans (hb.mono (uh HB1).size))).2⟩
 have HBd := zh (below_drew Y1)
 refine wp_region_held_drew (S := fun W => W.cell? ⟨s, 3, none⟩ = some (.map (some dm)) /\ W.cell? ⟨A, 0, none⟩ = some (.string x0) /\ (Instr.lookup 45 (.map (some dm)) (.string x0) true).run Tryz.prog W = .ok (.tuple #[.agg #[.int .i64 dn, .func (.func df) #[.pointer (some ⟨s, 0, none⟩)] #[]], .bool true]) W) (by kernel_rfl) (uh HSx _ (uh HBd)) (fun hHeld => ?_)
 generalize Y1.drew = Yd at *
 refine takeH 0 (hQ := by exact fun _ a _ h => leaves_tmps (ans_results a _ (by decide) _) _ _ _ h) (h := ?_)
 try simp only [Act.put, sI, sZ, sS]
 refine takeH 1 (hQ := by exact fun _ a _ h => leaves_tmps (ans_results a _ (by decide) _) _ _ _ h) (h := ?_)
 try simp only [Act.put, sI, sZ, sS]
 refine takeH 2 (hQ := by exact fun _ a _ h => leaves_tmps (ans_results a _ (by decide) _) _ _ _ h) (h := ?_)
 try simp only [Act.put, sI, sZ, sS]
 refine takeH 3 (hQ := by exact fun _ a _ h => leaves_tmps (ans_results a _ (by decide) _) _ _ _ h) (h := ?_)
 try simp only [Act.put, sI, sZ, sS]
 refine takeH 4 (hQ := by exact fun _ a _ h => leaves_tmps (ans_results a _ (by decide) _) _ _ _ h) (h := ?_)
 try simp only [Act.put, sI, sZ, sS]
 refine takeH 5 (hQ := by exact fun _ a _ h => leaves_tmps (ans_results a _ (by decide) _) _ _ _ h) (h := ?_)
 try simp only [Act.put, sI, sZ, sS]
 refine takeH 6 (hQ := by exact fun _ a _ h => leaves_tmps (ans_results a _ (by decide) _) _ _ _ h) (h := ?_)
 try simp only [Act.put, sI, sZ, sS]
 refine takeH 7 (hQ := by exact fun _ a _ h => leaves_tmps (ans_results a _ (by decide) _) _ _ _ h) (h := ?_)
 try simp only [Act.put, sI, sZ, sS]
 refine takeH 8 (hQ := by exact fun _ a _ h => leaves_tmps (ans_results a _ (by decide) _) _ _ _ h) (h := ?_)
 try simp only [Act.put, sI, sZ, sS]
 refine takeH 9 (hQ := by exact fun _ a _ h => leaves_tmps (ans_results a _ (by decide) _) _ _ _ h) (h := ?_)
 try simp only [Act.put, sI, sZ, sS]
 refine takeH 10 (hQ := by exact fun _ a _ h => leaves_tmps (ans_results a _ (by decide) _) _ _ _ h) (h := ?_)
 try simp only [Act.put, sI, sZ, sS]
 refine readyH 11 (h := fun K hK => ?_)
 go_simp
 have hb2 := below_box Yd (.cells #[.int .i64 0, .nilFunc] 50)
 have HB2 := zh ((uh HBd).trans (hb2.mono (uh HBd).size))
 refine hK.out _ _ (uh HSx _ (uh HB2)) (fun hHeld => ?_)
 clear hK K
 try simp only [Act.put, sI, sZ, sS]
 have e0 : (Yd.alloc (.cells #[.int .i64 0, .nilFunc] 50)).cell? ⟨Yd.heap.size, 0, none⟩ = some (.int .i64 0) := by simp
 have e1 : (Yd.alloc (.cells #[.int .i64 0, .nilFunc] 50)).cell? ⟨Yd.heap.size, 1, none⟩ = some .nilFunc := by simp
 have g0 : (Yd.alloc (.cells #[.int .i64 0, .nilFunc] 50)).frozen? ⟨Yd.heap.size, 0, none⟩ = false := by simp
 have g1 : (Yd.alloc (.cells #[.int .i64 0, .nilFunc] 50)).frozen? ⟨Yd.heap.size, 1, none⟩ = false := by simp
 have HBx : Hid (Y1.heap.size <= Yd.heap.size) := (uh HBd).size
 clear hb2
 generalize Yd.alloc (.cells #[.int .i64 0, .nilFunc] 50) = Ye at *
 generalize Yd.heap.size = bx at *
 refine readyH 12 (h := fun K hK => ?_)
 go_simp
 obtain ⟨Wf, hWf⟩ : ∃ W, W = (Ye.setCell ⟨bx, 0, none⟩ (.int .i64 dn)).setCell ⟨bx, 1, none⟩ (.func (.func df) #[.pointer (some ⟨s, 0, none⟩)] #[]) := ⟨_, rfl⟩
 rw [<- hWf]
 have hk : Keeps (· = bx) Ye Wf := by rw [hWf]; exact (keeps_set _ _ _ _).trans (keeps_set _ _ _ _)
 have hyY := (uh HB1).trans ((uh HB2).mono (uh HB1).size)
 have h01 : Y0.heap.size <= Y1.heap.size := (uh HB01).size
 have hlt0 := uh HLt
 have hbx := uh HBx
 have hWy : Below y.heap.size y Wf := hyY.trans (keeps_low hk (fun i e => by omega) hyY.size)
 have hAl : A < Y1.heap.size := lt_of_cell (uh HX0)
 have hYe : Y1.heap.size <= Ye.heap.size := (uh HB2).size
 have hA0 : Wf.cell? ⟨A, 0, none⟩ = some (.string x0) := (hk.cell (p := ⟨A, 0, none⟩) (show A < Ye.heap.size by omega) (show ¬ A = bx by omega)).trans (there_yet (uh HX0) (uh HB2))
 have q0 : Wf.cell? ⟨bx, 0, none⟩ = some (.int .i64 dn) := by rw [hWf, zo _ _ _ _ (by simp)]; exact zs _ _ _ e0
 have q1 : Wf.cell? ⟨bx, 1, none⟩ = some (.func (.func df) #[.pointer (some ⟨s, 0, none⟩)] #[]) := by rw [hWf]; exact zs _ _ _ (by rw [zo _ _ _ _ (by simp)]; exact e1)
 have t0 : Wf.cell? ⟨y.heap.size, 0, none⟩ = some (.string ⟨#[]⟩) := (hk.cell (p := ⟨y.heap.size, 0, none⟩) (show y.heap.size < Ye.heap.size by omega) (show ¬ y.heap.size = bx by omega)).trans (there_yet (uh HC1) (uh HB2))
 have t1 : Wf.frozen? ⟨y.heap.size, 0, none⟩ = false := (hk.frozen (p := ⟨y.heap.size, 0, none⟩) (show y.heap.size < Ye.heap.size by omega) (show ¬ y.heap.size = bx by omega)).trans (((Keeps.of_below (fun _ => False) (uh HB2) zr).frozen (p := ⟨y.heap.size, 0, none⟩) (show y.heap.size < Y1.heap.size by omega) (fun q => q)).trans (uh HF1))
 have HWy := zh hWy
 have HT0 := zh t0
 have HT1 := zh t1
 have HKf := zh hk
 have HAl := zh hAl
 have HYe := zh hYe
 refine hK.out _ _ ⟨(uh HSd Wf hWy).1, hA0, (uh HSd Wf hWy).2⟩ (fun hHeld => ?_)
 clear hK K
 try simp only [Act.put, sI, sZ, sS]
 refine takeH 13 (hQ := by exact fun _ a _ h => leaves_tmps (ans_results a _ (by decide) _) _ _ _ h) (h := ?_)
 try simp only [Act.put, sI, sZ, sS]
 refine wpAnyH_done (by kernel_rfl) ?_ _
 clear hHeld hk hyY hWy hWf e0 e1 g0 g1 t0 t1 h01 hlt0 hbx hAl hYe hA0
 have hwl : (x0 :: ws).length <= line.size + 1 := (uh HWs).1
 have h5 : wrap64 (wn : Int) = (wn : Int) := by
  have h6 := uh HWn
  have h7 := uh HSz
  simp only [List.length_cons] at hwl
  unfold wrap64
  omega
 clear hwl
 rcases uh HCase with ⟨h1, h2, rfl, rfl⟩ | ⟨h1, hD, hV⟩
 ·have h6 : (dn != -1) = true := by simpa using h1
  have h7 : (dn != (wn : Int)) = true := by
   have := uh HWn
   have h8 : ¬ dn = (wn : Int) := by omega
   simpa using h8
  clear h1 h2 HCase
  go_wp2
  refine leaves_cons (f := 33) (args := #[.pointer (some ⟨y.heap.size, 0, none⟩)]) (by simp) (by simp [go_sem]) ?_
  refine (catch_thrown y.heap.size 3 [] Wf (.string ⟨#[]⟩) (uh HT0) (uh HT1) (by decide) (by decide) ((uh HTw).carry ((uh HG).low.trans ((uh HWy).mono (uh HG).low.size)))).mono ?_
  rintro e u' w2 ⟨rfl, rfl, W, hb, rfl⟩
  have hc := there_yet (uh HT0) hb
  have HA2 := zh (told_set (uh HG) ((uh HWy).trans (hb.mono (uh HWy).size)) (.string ⟨(faultL 3).toArray⟩))
  simp [Leaves, settle, results, Tryz.results9, go_sem, hc, toldL]
  exact uh HA2
 ·have hs : (dn != -1) = false \/ (dn != -1) = true /\ (dn != (wn : Int)) = false := by
   by_cases q : dn = -1
   ·exact .inl (by rw [q]; rfl)
   ·exact .inr ⟨by simpa using q, by rw [h1.resolve_left q, uh HWn]; simp⟩
  have HD := zh hD
  have HV := zh hV
  clear h1 hD hV HCase
  rcases hs with h6 | ⟨h6, h7⟩
  ·have hle : (1 : Int) <= (wn : Int) + 1 := by omega
   have HWd := zh (below_drew Wf)
   have HQ1 := zh (there_yet q1 (below_drew Wf))
   have HE := zh (deed_enters hd)
   have HWyd := zh ((uh HWy).trans ((uh HWd).mono (uh HWy).size))
   have hyw : y.heap.size < Wf.heap.size := lt_of_cell (uh HT0)
   have HYl := zh (Nat.lt_of_lt_of_le hyw (uh HWd).size)
   have HT0d := zh (there_yet (uh HT0) (uh HWd))
   have HT1d := zh (((Keeps.of_below (fun _ => False) (uh HWd) zr).frozen (p := ⟨y.heap.size, 0, none⟩) hyw (fun q => q)).trans (uh HT1))
   have HBy : Hid (y.heap.size <= bx) := zh (by
    have h1 := (uh HB1).size
    have h2 := uh HBx
    omega)
   have HYb : Hid (y.heap.size ≠ bx) := zh (by
    have h1 := lt_of_cell (uh HC1)
    have h1' : y.heap.size < Y1.heap.size := h1
    have h2 := uh HBx
    omega)
   have HWa : Hid (∀ j, (hj : j < (x0 :: ws).length) -> Wf.drew.cell? ⟨A, 0 + j, none⟩ = some (.string (x0 :: ws)[j])) := zh (fun j hj => by
    have h1 := there_yet (uh HA j hj) (uh HB2)
    have h2 : A < Ye.heap.size := lt_of_cell h1
    have h3 := uh HAl
    have h4 := uh HBx
    exact there_yet (((uh HKf).cell (p := ⟨A, 0 + j, none⟩) h2 (show ¬ A = bx by omega)).trans h1) (uh HWd))
   have hDd := uh HD w Wf.drew s M
   have HOut := zh ((hDd _ (uh HTw) (uh HLw) (uh HGw) ((uh HG).below (uh HWyd)) (ws_rest (adr := some ⟨A, 1, none⟩) (uh HWa) (fun x hx => Nat.le_trans ((uh HWs).2.2 x hx) (uh HSz)) (uh HWn) (fun _ => rfl))).1 (uh HV)).2
   have HCall : Hid (∀ adr : Option Addr, (adr = if wn = 0 then some ⟨A, 0, none⟩ else some ⟨A, 1, none⟩) -> Calls Tryz.prog df #[.pointer (some ⟨s, 0, none⟩), .slice adr wn wn] Wf.drew (Did w s M Wf.drew st' out)) := zh (fun adr ha => (hDd _ (uh HTw) (uh HLw) (uh HGw) ((uh HG).below (uh HWyd)) (ws_rest (uh HWa) (fun x hx => Nat.le_trans ((uh HWs).2.2 x hx) (uh HSz)) (uh HWn) (fun q => by rw [ha, if_neg q]))).2)
   clear hDd hyw
   go_upto_region 8 with fail
   refine wp_region_held_drew (S := fun W => W.cell? ⟨bx, 1, none⟩ = some (.func (.func df) #[.pointer (some ⟨s, 0, none⟩)] #[])) (by kernel_rfl) (uh HQ1) (fun hHeld => ?_)
   generalize Wf.drew = Wd at *
   refine takeH 0 (hQ := by exact fun _ a _ h => leaves_tmps (ans_results a _ (by decide) _) _ _ _ h) (h := ?_)
   try simp only [Act.put, sI, sZ, sS]
   refine takeH 1 (hQ := by exact fun _ a _ h => leaves_tmps (ans_results a _ (by decide) _) _ _ _ h) (h := ?_)
   try simp only [Act.put, sI, sZ, sS]
   refine takeH 2 (hQ := by exact fun _ a _ h => leaves_tmps (ans_results a _ (by decide) _) _ _ _ h) (h := ?_)
   try simp only [Act.put, sI, sZ, sS]
   refine takeH 3 (hQ := by exact fun _ a _ h => leaves_tmps (ans_results a _ (by decide) _) _ _ _ h) (h := ?_)
   try simp only [Act.put, sI, sZ, sS]
   refine readyH 4 (h := fun K hK => ?_)
   go_simp
   generalize hadr : (if wn = 0 then some (⟨A, 0, none⟩ : Addr) else some ⟨A, 1, none⟩) = adr
   rw [uh HE]
   rw [Oper.upon_enter]
   refine Calls.mono (uh HCall adr hadr.symm) ?_
   rintro e Y2 ⟨rfl, hAft⟩
   have hkp : Keeps M Wd Y2 := by
    obtain ⟨_, _, _, q⟩ := hAft
    exact q
   have hq1 := (kept_box (uh HG) hkp (i := 1) (uh HBy) (lt_of_cell (uh HQ1))).1.trans (uh HQ1)
   have ht0 := (kept_box (uh HG) hkp (i := 0) zr (uh HYl)).1.trans (uh HT0d)
   have ht1 := (kept_box (uh HG) hkp (i := 0) zr (uh HYl)).2.trans (uh HT1d)
   have HAf : Hid (After w s M Wd st' Y2) := hAft
   clear hAft HCall hkp hHeld
   cases out with
   | ok t =>
    dsimp only [outE]
    refine hK.out _ _ hq1 (fun hHeld => ?_)
    clear hK K
    try simp only [Act.put, sI, sZ, sS]
    refine readyH 5 (h := fun K hK => ?_)
    go_simp
    refine hK.out _ _ ((World.cell?_setCell_far _ _ _ _ (uh HYb)).trans hq1) (fun hHeld => ?_)
    clear hK K
    try simp only [Act.put, sI, sZ, sS]
    refine wpAnyH_done (by kernel_rfl) ?_ _
    clear hHeld
    go_wp2
    refine leaves_cons (f := 33) (args := #[.pointer (some ⟨y.heap.size, 0, none⟩)]) (by simp) (by simp [go_sem]) ?_
    refine (catch_idle y.heap.size _).mono ?_
    rintro e u' w'' ⟨rfl, rfl, rfl⟩
    have HA2 := zh (told_after (uh HG) (uh HWyd) (uh HYl) (uh HAf) (.string ⟨t.toArray⟩))
    simp [Leaves, settle, results, Tryz.results9, go_sem, ht0, toldL]
    exact uh HA2
   | error n =>
    have hOn : -9223372036854775808 <= n /\ n <= 9223372036854775807 := uh HOut
    dsimp only [outE, thrown]
    go_wp2
    refine leaves_cons (f := 33) (args := #[.pointer (some ⟨y.heap.size, 0, none⟩)]) (by simp) (by simp [go_sem]) ?_
    refine (catch_thrown y.heap.size n [] Y2 (.string ⟨#[]⟩) ht0 ht1 hOn.1 hOn.2 ((uh HTw).carry (uh HAf).low)).mono ?_
    rintro e u' w2 ⟨rfl, rfl, W, hb, rfl⟩
    have hc := there_yet ht0 hb
    have HA2 := zh (told_after (uh HG) (uh HWyd) (uh HYl) ((uh HAf).below hb) (.string ⟨(faultL n).toArray⟩))
    simp [Leaves, settle, results, Tryz.results9, go_sem, hc, toldL]
    exact uh HA2
  ·have hle : (1 : Int) <= (wn : Int) + 1 := by omega
   have HWd := zh (below_drew Wf)
   have HQ1 := zh (there_yet q1 (below_drew Wf))
   have HE := zh (deed_enters hd)
   have HWyd := zh ((uh HWy).trans ((uh HWd).mono (uh HWy).size))
   have hyw : y.heap.size < Wf.heap.size := lt_of_cell (uh HT0)
   have HYl := zh (Nat.lt_of_lt_of_le hyw (uh HWd).size)
   have HT0d := zh (there_yet (uh HT0) (uh HWd))
   have HT1d := zh (((Keeps.of_below (fun _ => False) (uh HWd) zr).frozen (p := ⟨y.heap.size, 0, none⟩) hyw (fun q => q)).trans (uh HT1))
   have HBy : Hid (y.heap.size <= bx) := zh (by
    have h1 := (uh HB1).size
    have h2 := uh HBx
    omega)
   have HYb : Hid (y.heap.size ≠ bx) := zh (by
    have h1 := lt_of_cell (uh HC1)
    have h1' : y.heap.size < Y1.heap.size := h1
    have h2 := uh HBx
    omega)
   have HWa : Hid (∀ j, (hj : j < (x0 :: ws).length) -> Wf.drew.cell? ⟨A, 0 + j, none⟩ = some (.string (x0 :: ws)[j])) := zh (fun j hj => by
    have h1 := there_yet (uh HA j hj) (uh HB2)
    have h2 : A < Ye.heap.size := lt_of_cell h1
    have h3 := uh HAl
    have h4 := uh HBx
    exact there_yet (((uh HKf).cell (p := ⟨A, 0 + j, none⟩) h2 (show ¬ A = bx by omega)).trans h1) (uh HWd))
   have hDd := uh HD w Wf.drew s M
   have HOut := zh ((hDd _ (uh HTw) (uh HLw) (uh HGw) ((uh HG).below (uh HWyd)) (ws_rest (adr := some ⟨A, 1, none⟩) (uh HWa) (fun x hx => Nat.le_trans ((uh HWs).2.2 x hx) (uh HSz)) (uh HWn) (fun _ => rfl))).1 (uh HV)).2
   have HCall : Hid (∀ adr : Option Addr, (adr = if wn = 0 then some ⟨A, 0, none⟩ else some ⟨A, 1, none⟩) -> Calls Tryz.prog df #[.pointer (some ⟨s, 0, none⟩), .slice adr wn wn] Wf.drew (Did w s M Wf.drew st' out)) := zh (fun adr ha => (hDd _ (uh HTw) (uh HLw) (uh HGw) ((uh HG).below (uh HWyd)) (ws_rest (uh HWa) (fun x hx => Nat.le_trans ((uh HWs).2.2 x hx) (uh HSz)) (uh HWn) (fun q => by rw [ha, if_neg q]))).2)
   clear hDd hyw
   go_upto_region 8 with fail
   refine wp_region_held_drew (S := fun W => W.cell? ⟨bx, 1, none⟩ = some (.func (.func df) #[.pointer (some ⟨s, 0, none⟩)] #[])) (by kernel_rfl) (uh HQ1) (fun hHeld => ?_)
   generalize Wf.drew = Wd at *
   refine takeH 0 (hQ := by exact fun _ a _ h => leaves_tmps (ans_results a _ (by decide) _) _ _ _ h) (h := ?_)
   try simp only [Act.put, sI, sZ, sS]
   refine takeH 1 (hQ := by exact fun _ a _ h => leaves_tmps (ans_results a _ (by decide) _) _ _ _ h) (h := ?_)
   try simp only [Act.put, sI, sZ, sS]
   refine takeH 2 (hQ := by exact fun _ a _ h => leaves_tmps (ans_results a _ (by decide) _) _ _ _ h) (h := ?_)
   try simp only [Act.put, sI, sZ, sS]
   refine takeH 3 (hQ := by exact fun _ a _ h => leaves_tmps (ans_results a _ (by decide) _) _ _ _ h) (h := ?_)
   try simp only [Act.put, sI, sZ, sS]
   refine readyH 4 (h := fun K hK => ?_)
   go_simp
   generalize hadr : (if wn = 0 then some (⟨A, 0, none⟩ : Addr) else some ⟨A, 1, none⟩) = adr
   rw [uh HE]
   rw [Oper.upon_enter]
   refine Calls.mono (uh HCall adr hadr.symm) ?_
   rintro e Y2 ⟨rfl, hAft⟩
   have hkp : Keeps M Wd Y2 := by
    obtain ⟨_, _, _, q⟩ := hAft
    exact q
   have hq1 := (kept_box (uh HG) hkp (i := 1) (uh HBy) (lt_of_cell (uh HQ1))).1.trans (uh HQ1)
   have ht0 := (kept_box (uh HG) hkp (i := 0) zr (uh HYl)).1.trans (uh HT0d)
   have ht1 := (kept_box (uh HG) hkp (i := 0) zr (uh HYl)).2.trans (uh HT1d)
   have HAf : Hid (After w s M Wd st' Y2) := hAft
   clear hAft HCall hkp hHeld
   cases out with
   | ok t =>
    dsimp only [outE]
    refine hK.out _ _ hq1 (fun hHeld => ?_)
    clear hK K
    try simp only [Act.put, sI, sZ, sS]
    refine readyH 5 (h := fun K hK => ?_)
    go_simp
    refine hK.out _ _ ((World.cell?_setCell_far _ _ _ _ (uh HYb)).trans hq1) (fun hHeld => ?_)
    clear hK K
    try simp only [Act.put, sI, sZ, sS]
    refine wpAnyH_done (by kernel_rfl) ?_ _
    clear hHeld
    go_wp2
    refine leaves_cons (f := 33) (args := #[.pointer (some ⟨y.heap.size, 0, none⟩)]) (by simp) (by simp [go_sem]) ?_
    refine (catch_idle y.heap.size _).mono ?_
    rintro e u' w'' ⟨rfl, rfl, rfl⟩
    have HA2 := zh (told_after (uh HG) (uh HWyd) (uh HYl) (uh HAf) (.string ⟨t.toArray⟩))
    simp [Leaves, settle, results, Tryz.results9, go_sem, ht0, toldL]
    exact uh HA2
   | error n =>
    have hOn : -9223372036854775808 <= n /\ n <= 9223372036854775807 := uh HOut
    dsimp only [outE, thrown]
    go_wp2
    refine leaves_cons (f := 33) (args := #[.pointer (some ⟨y.heap.size, 0, none⟩)]) (by simp) (by simp [go_sem]) ?_
    refine (catch_thrown y.heap.size n [] Y2 (.string ⟨#[]⟩) ht0 ht1 hOn.1 hOn.2 ((uh HTw).carry (uh HAf).low)).mono ?_
    rintro e u' w2 ⟨rfl, rfl, W, hb, rfl⟩
    have hc := there_yet ht0 hb
    have HA2 := zh (told_after (uh HG) (uh HWyd) (uh HYl) ((uh HAf).below hb) (.string ⟨(faultL n).toArray⟩))
    simp [Leaves, settle, results, Tryz.results9, go_sem, hc, toldL]
    exact uh HA2
theorem ws_there (y : World) (ws : List ByteArray) (hz : ∀ x, x ∈ ws -> x.size <= 30000) : ∃ y' v, Below y.heap.size y y' /\ WsI y' v ws := by
 refine ⟨y.alloc (.cells (ws.map Value.string).toArray 9), .slice (some ⟨y.heap.size, 0, none⟩) ws.length ws.length, below_box y _, some ⟨y.heap.size, 0, none⟩, ws.length, rfl, Nat.le_refl _, fun j hj => ⟨y.heap.size, 0, rfl, ?_⟩, hz⟩
 unfold World.cell?
 rw [heap_alloc_new]
 simp [hj]
theorem join_tail_le (x : List UInt8) (l : List (List UInt8)) : (Lib.join l [32]).length <= (Lib.join (x :: l) [32]).length := by
 cases l with
 | nil => simp [Lib.join]
 | cons y l =>
  rw [Lib.join_cons, Lib.join_cons]
  simp only [Lib.joinTail, List.map_cons, List.flatten_cons, List.length_append, List.length_cons, List.length_nil]
  omega
theorem faultL_le (n : Int) (h : -9223372036854775808 <= n /\ n <= 9223372036854775807) : (faultL n).length <= 2000000000 := by
 have := itoa_21 n h.1 h.2
 unfold faultL
 simp only [List.length_append, List.length_cons, List.length_nil]
 omega
theorem toldL_le {out : Except Int (List UInt8)} (h : OutOk out) : (toldL out).length <= 2000000000 := by
 cases out with
 | ok t => exact h
 | error n => exact faultL_le n h
theorem ans_does {st st' : DkS} {line x0 : ByteArray} {ws : List ByteArray} {dn : Int} {df : Nat} {out : Except Int (List UInt8)} (hs : line.size <= 30000) (hw : wordsD line = x0 :: ws) (hd : (x0.data.toList, (dn, df)) ∈ deeds) (hc : dn = -1 \/ dn = (ws.length : Int)) (hD : DoesK df ws st st' out) : AnsP st line st' (toldL out) := by
 have hW := words_len line
 rw [hw] at hW
 have hx : x0.size <= 30000 := Nat.le_trans (hW.2.2 x0 (by simp)) hs
 intro w y s M ht hl hg hG hV
 obtain ⟨y', v, hb, hv⟩ := ws_there y ws (fun x hx => Nat.le_trans (hW.2.2 x (List.mem_cons_of_mem _ hx)) hs)
 obtain ⟨h1, h2⟩ := (hD w y' s M v ht hl hg (hG.below hb) hv).1 hV
 refine ⟨h1, toldL_le h2, ?_⟩
 exact ans_yes line ht hl hg hG hs x0 ws hw dn df hd (by omega) st' out (.inr ⟨hc, hD, hV⟩)
theorem ans_other {st : DkS} {line x0 : ByteArray} {ws : List ByteArray} (hs : line.size <= 30000) (hw : wordsD line = x0 :: ws) (hno : x0.data.toList ∉ deeds.map (·.1)) : AnsP st line st (faultL 3) := by
 have hW := words_len line
 rw [hw] at hW
 have hx : x0.size <= 30000 := Nat.le_trans (hW.2.2 x0 (by simp)) hs
 exact fun w y s M ht hl hg hG hV => ⟨hV, faultL_le 3 (by decide), ans_no line ht hl hg hG hs x0 ws hw hno (by omega)⟩
theorem ans_all (st : DkS) (line : ByteArray) (hs : line.size <= 30000) : ∃ st' ans, AnsP st line st' ans := by
 have hW := words_len line
 cases hw : wordsD line with
 | nil => exact ⟨st, [111, 107], fun w y s M ht hl hg hG hV => ⟨hV, by simp, ans_empty line hG hs hw⟩⟩
 | cons x0 ws =>
  rw [hw] at hW
  have hx : x0.size <= 30000 := Nat.le_trans (hW.2.2 x0 (by simp)) hs
  by_cases hm : x0.data.toList ∈ deeds.map (·.1)
  ·obtain ⟨⟨k, dn, df⟩, hd, hk⟩ := List.mem_map.1 hm
   dsimp only at hk
   subst hk
   by_cases hc : dn = -1 \/ dn = (ws.length : Int)
   ·have h1 : ws.length + 1 <= line.size + 1 := hW.1
    have h2 : (txL ws).length <= (txL (x0 :: ws)).length := by
     unfold txL
     rw [List.map_cons]
     exact join_tail_le _ _
    have h3 := hW.2.1
    obtain ⟨st', out, hD⟩ := does_all st _ (dn, df) hd ws hc (by omega) (by omega)
    exact ⟨st', toldL out, ans_does hs hw hd hc hD⟩
   ·exact ⟨st, faultL 3, fun w y s M ht hl hg hG hV => ⟨hV, faultL_le 3 (by decide), ans_yes line ht hl hg hG hs x0 ws hw dn df hd (by omega) st (.error 3) (.inl ⟨fun e => hc (.inl e), fun e => hc (.inr e), rfl, rfl⟩)⟩⟩
  ·exact ⟨st, faultL 3, ans_other hs hw hm⟩
end Go.Proofs.YtbmkmfoaoganeaaGreatDoor
