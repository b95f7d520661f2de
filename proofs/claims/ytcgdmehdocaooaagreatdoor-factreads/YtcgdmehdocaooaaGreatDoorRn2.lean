/- The document's number and word, walked. -/
import Derived.Test.YtcgdmehdocaooaaGreatDoorRn
namespace Go.Proofs.YtcgdmehdocaooaaGreatDoor
open Go.RowKit

set_option maxHeartbeats 1000000 in
theorem ref_plain (s : ByteArray) (w : World) : Calls Tryz.prog 11 #[.string s] w fun e w' => e = .returned (.string (textB s)) ∧ w' = w := by
  by_cases h : s.toList = [45]
  · have E : Hid (textB s = ⟨#[]⟩) := by unfold Hid textB; rw [if_pos h]
    have h' : (s.toList == [45]) = true := by simp [h]
    clear h
    go_enter Tryz.func11, Tryz.ntmps11
    go_wp2
    go_ret
    exact ⟨ret_string (unhide E), rfl⟩
  · have E : Hid (textB s = s) := by unfold Hid textB; rw [if_neg h]
    have h' : (s.toList == [45]) = false := by simp [h]
    go_enter Tryz.func11, Tryz.ntmps11
    go_wp2
    go_ret
    exact ⟨ret_string (unhide E), rfl⟩

/-- What the document's number is. -/
def NumSays (s : ByteArray) (w : World) (e : Ending) (w' : World) : Prop := ∃ b, e = .returned (.tuple #[.int .i64 (numB s), .bool b]) ∧ Below w.heap.size w w'

set_option maxHeartbeats 2000000 in
theorem ref_Number (s : ByteArray) (w : World) (hs : s.size ≤ 100000) (hl : Libs w) (ht : Tab w) :
    Calls Tryz.prog 10 #[.string s] w (NumSays s w) := by
  by_cases hv : ∃ v, Lib.atoiAll s.data.toList = .ok v
  · obtain ⟨v, hv⟩ := hv
    have hb := atoi_bounds _ _ hv
    have HC := hide (parse_ok s v w hs hv)
    have HN := hide (numL_ok _ v hv)
    have HF := hide (fun W (h : Below w.heap.size w W) => format v W hb (ht.carry h))
    clear hv hb hl ht
    by_cases he : Lib.itoa v = s.data.toList
    · have hE : Hid (numB s = v) := by unfold Hid numB; rw [unhide HN, if_pos he]
      have h' : ((⟨(Lib.itoa v).toArray⟩ : ByteArray).toList == s.toList) = true := by rw [ByteArray.toList_eq, ByteArray.toList_eq]; simpa using he
      clear HN
      generalize (⟨(Lib.itoa v).toArray⟩ : ByteArray) = x at *
      go_enter Tryz.func10, Tryz.ntmps10
      go_wp2_with fail
      refine (unhide HC).mono ?_
      rintro e w1 ⟨rfl, b1⟩
      have HF1 := hide (unhide HF w1 b1)
      have B1 := hide b1
      clear HC HF b1
      go_wp2_with fail
      refine (unhide HF1).mono ?_
      rintro e w2 ⟨rfl, b2⟩
      have B2 := hide ((unhide B1).trans (b2.mono (unhide B1).size))
      clear HF1 b2 B1
      go_wp2
      go_ret2
      exact ⟨true, by rw [unhide hE]; rfl, unhide B2⟩
    · have hE : Hid (numB s = 0) := by unfold Hid numB; rw [unhide HN, if_neg he]
      have h' : ((⟨(Lib.itoa v).toArray⟩ : ByteArray).toList == s.toList) = false := by rw [ByteArray.toList_eq, ByteArray.toList_eq]; simpa using he
      clear HN
      generalize (⟨(Lib.itoa v).toArray⟩ : ByteArray) = x at *
      go_enter Tryz.func10, Tryz.ntmps10
      go_wp2_with fail
      refine (unhide HC).mono ?_
      rintro e w1 ⟨rfl, b1⟩
      have HF1 := hide (unhide HF w1 b1)
      have B1 := hide b1
      clear HC HF b1
      go_wp2_with fail
      refine (unhide HF1).mono ?_
      rintro e w2 ⟨rfl, b2⟩
      have B2 := hide ((unhide B1).trans (b2.mono (unhide B1).size))
      clear HF1 b2 B1
      go_wp2
      go_ret2
      exact ⟨false, by rw [unhide hE]; rfl, unhide B2⟩
  · have hE : Hid (numB s = 0) := numL_bad _ (fun v h => hv ⟨v, h⟩)
    have HC := hide (parse_bad s w hs (fun v h => hv ⟨v, h⟩) hl)
    clear hv hl ht
    go_enter Tryz.func10, Tryz.ntmps10
    go_wp2_with fail
    refine (unhide HC).mono ?_
    rintro e w1 ⟨v, N, rfl, b1⟩
    have B1 := hide b1
    clear HC b1
    go_wp2
    go_ret2
    exact ⟨false, by rw [unhide hE]; rfl, unhide B1⟩

set_option maxHeartbeats 2000000 in
/-- The number that one of a text's words is. -/
theorem ref_num (i m cap B g : Nat) (s : ByteArray) (w : World) (hi : i < m) (hB : w.cell? ⟨B, 0, none⟩ = some (.slice (some ⟨g, 0, none⟩) m cap)) (hc : w.cell? ⟨g, i, none⟩ = some (.string s)) (hs : s.size ≤ 100000) (hl : Libs w) (ht : Tab w) :
    Calls Tryz.prog 9 #[.int .i64 i, .pointer (some ⟨B, 0, none⟩)] w fun e w' => e = .returned (.int .i64 (numB s)) ∧ Below w.heap.size w w' := by
  have HN := hide (ref_Number s w hs hl ht)
  have hi0 : (0 : Int) ≤ (i : Int) := by omega
  have hi1 : (i : Int) < (m : Int) := by omega
  clear hl ht hs
  go_enter Tryz.func9, Tryz.ntmps9
  go_wp2_with fail
  refine (unhide HN).mono ?_
  rintro e w1 ⟨b, rfl, b1⟩
  have B1 := hide b1
  clear HN b1
  go_wp2
  go_ret
  exact ⟨rfl, unhide B1⟩

end Go.Proofs.YtcgdmehdocaooaaGreatDoor
