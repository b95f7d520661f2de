/- Reading one change: the program's read, walked. -/
import Derived.Test.YtcgdmehdocaooaaGreatDoorRd
namespace Go.Proofs.YtcgdmehdocaooaaGreatDoor
open Go.RowKit

def textB (s : ByteArray) : ByteArray := if s.toList = [45] then ⟨#[]⟩ else s
theorem textB_data (s : ByteArray) : (textB s).data.toList = textL s.data.toList := by
  unfold textB textL
  rw [ByteArray.toList_eq]
  split <;> simp_all
theorem textB_size (s : ByteArray) : (textB s).size ≤ s.size := by
  unfold textB
  split
  · exact Nat.zero_le _
  · exact Nat.le_refl _

theorem fact_text (s : ByteArray) (w : World) : Calls Tryz.prog 30 #[.string s] w fun e w' => e = .returned (.string (textB s)) ∧ w' = w := by
  by_cases h : s.toList = [45]
  · have E : Hid (textB s = ⟨#[]⟩) := by unfold Hid textB; rw [if_pos h]
    have h' : (s.toList == [45]) = true := by simp [h]
    clear h
    go_enter Tryz.func30, Tryz.ntmps30
    go_wp2
    go_ret
    exact ⟨ret_string (unhide E), rfl⟩
  · have E : Hid (textB s = s) := by unfold Hid textB; rw [if_neg h]
    have h' : (s.toList == [45]) = false := by simp [h]
    go_enter Tryz.func30, Tryz.ntmps30
    go_wp2
    go_ret
    exact ⟨ret_string (unhide E), rfl⟩

/-- The change that seven words tell, with the numbers that they are. -/
def opOf (ps : List ByteArray) (vs : List Int) : Fop := ⟨vs.getD 0 0, vs.getD 1 0, textB (ps.getD 2 ⟨#[]⟩), vs.getD 2 0, vs.getD 3 0, vs.getD 4 0, textB (ps.getD 6 ⟨#[]⟩)⟩

/-- What reading one change gives: a change, or none; and if the text is one that may be, that one. -/
def ReadOne (s : ByteArray) (w : World) (e : Ending) (w' : World) : Prop :=
  ∃ (o : Fop) (ok : Bool), e = .returned (.tuple #[opV o, .bool ok]) ∧ (o.word.size ≤ s.size ∧ o.value.size ≤ s.size) ∧ (∀ q, opB q = true → s.data.toList = opL q → ok = true ∧ o = q) ∧ Below w.heap.size w w'

def zeroOp : Fop := ⟨0, 0, ⟨#[]⟩, 0, 0, 0, ⟨#[]⟩⟩

theorem wordsB_small (s : ByteArray) : ∀ p, p ∈ wordsB s → p.size ≤ s.size := by
  have key : ∀ (k : Nat) (t : ByteArray), ∀ p, p ∈ Lib.splitB ⟨#[32]⟩ 0 k t → p.size ≤ t.size := by
    intro k
    induction k with
    | zero => intro t p hp; simp [Lib.splitB] at hp; rw [hp]; exact Nat.le_refl _
    | succ k ih =>
      intro t p hp
      unfold Lib.splitB at hp
      split at hp
      · simp at hp; rw [hp]; exact Nat.le_refl _
      · rcases List.mem_cons.1 hp with rfl | hp
        · rw [ByteArray.size_extract]; omega
        · have := ih _ p hp
          rw [ByteArray.size_extract] at this
          omega
  exact key _ s

theorem split_cell (w : World) (ps : List ByteArray) (N j : Nat) (p : ByteArray) (h : ps[j]? = some p) : (w.alloc (.cells (Lib.cellsOf ps N) 9)).cell? ⟨w.heap.size, j, none⟩ = some (.string p) := by
  rw [World.cell?_alloc_at _ _ _ _ (by simp)]
  unfold Lib.cellsOf
  rw [List.getElem?_toArray, List.getElem?_append_left (by
    rw [List.length_map]
    rcases Nat.lt_or_ge j ps.length with k | k
    · exact k
    · rw [List.getElem?_eq_none k] at h; cases h), List.getElem?_map, h]
  rfl

end Go.Proofs.YtcgdmehdocaooaaGreatDoor
