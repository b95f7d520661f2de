/- How changes are written: the document's own answer. -/
import Derived.Test.YtcgdmehdocaooaaGreatDoorApp
namespace Go.Proofs.YtcgdmehdocaooaaGreatDoor
open Go.RowKit

theorem words_length (ns : List Int) (hb : ∀ n, n ∈ ns → -9223372036854775808 ≤ n ∧ n ≤ 9223372036854775807) : (Lib.join (ns.map Lib.itoa) [32]).length ≤ ns.length * 22 := by
  have := join_length 32 21 (ns.map Lib.itoa) (fun y hy => by
    obtain ⟨n, hn, rfl⟩ := List.mem_map.1 hy
    exact Lib.itoa_length_le n (hb n hn).1 (hb n hn).2)
  simpa using this

def itxt (n : Int) : ByteArray := ⟨(Lib.itoa n).toArray⟩
theorem itxt_data (l : List Int) : (l.map itxt).map (·.data.toList) = l.map Lib.itoa := by
  rw [List.map_map]; rfl

set_option maxRecDepth 100000 in
set_option maxHeartbeats 4000000 in
theorem ref_Words (ns : List Int) (b cap : Nat) (w : World) (h1 : 1 ≤ ns.length) (h9 : ns.length ≤ 100) (hb : ∀ n, n ∈ ns → -9223372036854775808 ≤ n ∧ n ≤ 9223372036854775807)
    (hb0 : b < w.heap.size) (hc : ∀ k, (hk : k < ns.length) → w.cell? ⟨b, 0 + k, none⟩ = some (.int .i64 ns[k])) (ht : Tab w) :
    Calls Tryz.prog 24 #[.slice (some ⟨b, 0, none⟩) ns.length cap] w fun e w' => e = .returned (.string ⟨(Lib.join (ns.map Lib.itoa) [32]).toArray⟩) ∧ Below w.heap.size w w' := by
  have HC := hide hc
  have HT := hide ht
  have HN := hide hb
  clear hc ht hb
  go_enter Tryz.func24, Tryz.ntmps24
  go_wp2
  go_loopw [3, 8] (fun t i x => ∃ k : Nat, k ≤ ns.length ∧ i = .int .i64 k ∧ x.ownsRow w.heap.size 9 1 t ((ns.take k).map itxt).length (((ns.take k).map itxt).map Value.string) ∧ Below w.heap.size w x) (fun _ i _ => ns.length - (intOf i).toNat)
  case atStart => exact ⟨0, Nat.zero_le _, rfl, by simpa using World.ownsRow_nil _ _ _ _, Below.refl _ _⟩
  case round =>
    obtain ⟨k, hk, rfl, hown, hb⟩ := hrel
    by_cases hlt : k < ns.length
    · have hlt' : (k : Int) < (ns.length : Int) := by omega
      have c0 := (hb.cell (p := ⟨b, 0 + k, none⟩) hb0).trans (unhide HC k hlt)
      rw [Nat.zero_add] at c0
      have hz := hb.size
      have hnk := unhide HN _ (List.getElem_mem hlt)
      have HW := hide (itoa ns[k] wr hnk.1 hnk.2 ((unhide HT).carry hb))
      have htk : ns.take (k + 1) = ns.take k ++ [ns[k]] := List.take_succ_eq_append_getElem hlt
      have HK : Hid ((ns.take (k + 1)).map itxt = (ns.take k).map itxt ++ [⟨(Lib.itoa ns[k]).toArray⟩]) := by unfold Hid; rw [htk, List.map_append]; rfl
      have hlk : ((ns.take k).map itxt).length < 1099511627776 := by simp; omega
      have HB := hide hb
      have HO := hide hown
      clear hb hown htk hnk HC HT HN
      have hF1 : ∃ F, F = (ns.take k).map itxt := ⟨_, rfl⟩
      obtain ⟨F, hF⟩ := hF1
      rw [← hF] at HO HK hlk
      clear hF
      generalize ns[k] = n at *
      go_wp2_with fail
      refine (unhide HW).mono ?_
      rintro e w2 ⟨rfl, b2⟩
      have hz2 := b2.size
      have B2 := hide b2
      have O2 := hide (ownsRow_carry (unhide HO) b2)
      clear b2 HW
      go_wp2_with (at_builtin; refine wpList_appS _ rfl (.tmp 12) (.tmp 15) rfl w.heap.size _ F rfl ((unhide O2).alloc _) w2.heap.size ⟨(Lib.itoa n).toArray⟩ rfl ?d0 hlk ?d3 ?_)
      case d0 => simp
      case d3 => simp; omega
      intro v' wn k1 k2
      have HBN := hide (append_step hz (unhide HB) (unhide B2) hz (unhide HO) k2)
      have HON : Hid (wn.ownsRow w.heap.size 9 1 v' ((ns.take (k + 1)).map itxt).length (((ns.take (k + 1)).map itxt).map Value.string)) := by unfold Hid; rw [unhide HK]; simpa using k1
      clear k1 k2
      go_wp2
      go_roundw
      case rel => exact ⟨k + 1, by omega, by go_num, unhide HON, unhide HBN⟩
      case measure => simp [intOf]; omega
    · have hlt' : ¬ (k : Int) < (ns.length : Int) := by omega
      have hkl : ns.take k = ns := List.take_of_length_le (by omega)
      rw [hkl] at hown
      obtain ⟨g, cp, rfl, q1, q2, q3⟩ := own_cells hown (by intro e; simp at e; subst e; simp at h1)
      have hlen : (Lib.join ((ns.map itxt).map (·.data.toList)) (⟨#[32]⟩ : ByteArray).data.toList).length ≤ 140737488355328 := by
        rw [itxt_data]
        have := words_length ns (unhide HN)
        show (Lib.join (ns.map Lib.itoa) [32]).length ≤ _
        omega
      have HJ := hide (Tryz.strings_Join g 0 cp (ns.map itxt) ⟨#[32]⟩ wr q3 q2 (by simp; omega) q1 hlen)
      have HB := hide hb
      clear hb hown hkl hlen q1 q2 q3 HC HT HN
      rw [itxt_data] at HJ
      simp only [List.length_map] at HJ
      go_wp2_with fail
      refine (unhide HJ).mono ?_
      rintro e w2 ⟨rfl, b2⟩
      have HB2 := hide ((unhide HB).trans (b2.mono (unhide HB).size))
      clear b2
      go_wp2
      go_ret
      exact ⟨rfl, unhide HB2⟩

/-- Numbers that a text may be made of. -/
def I64 (n : Int) : Prop := -9223372036854775808 ≤ n ∧ n ≤ 9223372036854775807

theorem words2 (x y : Int) (b cap : Nat) (w : World) (hx : I64 x) (hy : I64 y) (h0 : w.cell? ⟨b, 0, none⟩ = some (.int .i64 x)) (h1 : w.cell? ⟨b, 1, none⟩ = some (.int .i64 y)) (ht : Tab w) :
    Calls Tryz.prog 24 #[.slice (some ⟨b, 0, none⟩) 2 cap] w fun e w' => ∃ s : ByteArray, e = .returned (.string s) ∧ s.size ≤ 44 ∧ Hid (s.data.toList = Lib.itoa x ++ 32 :: Lib.itoa y) ∧ Below w.heap.size w w' := by
  have hb : ∀ n, n ∈ [x, y] → -9223372036854775808 ≤ n ∧ n ≤ 9223372036854775807 := by
    intro n hn; simp at hn; rcases hn with rfl | rfl
    · exact hx
    · exact hy
  have hl := words_length [x, y] hb
  refine (ref_Words [x, y] b cap w (by simp) (by simp) hb (lt_of_cell h0) ?_ ht).mono ?_
  · intro k hk
    have hk' : k < 2 := hk
    rcases k with _ | _ | k
    · exact h0
    · exact h1
    · omega
  · rintro e w' ⟨rfl, b1⟩
    refine ⟨_, rfl, ?_, ?_, b1⟩
    · simpa [ByteArray.size] using hl
    · show (Lib.join [Lib.itoa x, Lib.itoa y] [32]) = _
      rw [join_two, Lib.join_one]

theorem words1 (x : Int) (b cap : Nat) (w : World) (hx : I64 x) (h0 : w.cell? ⟨b, 0, none⟩ = some (.int .i64 x)) (ht : Tab w) :
    Calls Tryz.prog 24 #[.slice (some ⟨b, 0, none⟩) 1 cap] w fun e w' => ∃ s : ByteArray, e = .returned (.string s) ∧ s.size ≤ 22 ∧ Hid (s.data.toList = Lib.itoa x) ∧ Below w.heap.size w w' := by
  have hb : ∀ n, n ∈ [x] → -9223372036854775808 ≤ n ∧ n ≤ 9223372036854775807 := by
    intro n hn; simp at hn; rw [hn]; exact hx
  have hl := words_length [x] hb
  refine (ref_Words [x] b cap w (by simp) (by simp) hb (lt_of_cell h0) ?_ ht).mono ?_
  · intro k hk
    have hk' : k < 1 := hk
    rcases k with _ | k
    · exact h0
    · omega
  · rintro e w' ⟨rfl, b1⟩
    refine ⟨_, rfl, ?_, ?_, b1⟩
    · simpa [ByteArray.size] using hl
    · show (Lib.join [Lib.itoa x] [32]) = _
      rw [Lib.join_one]

set_option maxHeartbeats 400000 in
theorem ref_dash (s : ByteArray) (w : World) : Calls Tryz.prog 25 #[.string s] w fun e w' => e = .returned (.string (dashB s)) ∧ w' = w := by
  by_cases h : s.toList = []
  · have E : Hid (dashB s = ⟨#[45]⟩) := by unfold Hid dashB; rw [if_pos h]
    go_enter Tryz.func25, Tryz.ntmps25
    go_wp2
    go_ret
    exact ⟨ret_string (unhide E), rfl⟩
  · have E : Hid (dashB s = s) := by unfold Hid dashB; rw [if_neg h]
    have h' : s.toList.isEmpty = false := by simp [h]
    go_enter Tryz.func25, Tryz.ntmps25
    go_wp2
    go_ret
    exact ⟨ret_string (unhide E), rfl⟩

end Go.Proofs.YtcgdmehdocaooaaGreatDoor
