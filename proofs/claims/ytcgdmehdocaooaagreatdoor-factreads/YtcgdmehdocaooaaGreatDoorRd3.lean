/- Reading one change: the program's read, walked to its loop. -/
import Derived.Test.YtcgdmehdocaooaaGreatDoorRd2
namespace Go.Proofs.YtcgdmehdocaooaaGreatDoor
open Go.RowKit

/-- What holds when some numbers have been read: the words lie in one block, the numbers in another one, the result is as yet nought. -/
def RdInv (w : World) (ps : List ByteArray) (vs : List Int) (x : World) : Prop :=
  Below w.heap.size w x ∧ (∀ j p, ps[j]? = some p → x.cell? ⟨w.heap.size + 1, j, none⟩ = some (.string p)) ∧
  (∀ j, j < 5 → x.cell? ⟨w.heap.size + 1 + 1, j, none⟩ = some (.int .i64 (vs.getD j 0)) ∧ x.frozen? ⟨w.heap.size + 1 + 1, j, none⟩ = false) ∧
  (∀ j v, (opCells zeroOp)[j]? = some v → x.cell? ⟨w.heap.size, j, none⟩ = some v ∧ x.frozen? ⟨w.heap.size, j, none⟩ = false)

theorem RdInv.carry {w : World} {ps : List ByteArray} {vs : List Int} {x y : World} (h : RdInv w ps vs x) (hb : Below x.heap.size x y) : RdInv w ps vs y := by
  obtain ⟨h1, h2, h3, h4⟩ := h
  refine ⟨h1.trans (hb.mono h1.size), fun j p hp => (hb.cell (lt_of_cell (h2 j p hp))).trans (h2 j p hp), fun j hj => ?_, fun j v hv => ?_⟩
  · obtain ⟨c, f⟩ := h3 j hj
    exact ⟨(hb.cell (lt_of_cell c)).trans c, (hb.frozen (lt_of_cell c)).trans f⟩
  · obtain ⟨c, f⟩ := h4 j v hv
    exact ⟨(hb.cell (lt_of_cell c)).trans c, (hb.frozen (lt_of_cell c)).trans f⟩

theorem RdInv.step {w : World} {ps : List ByteArray} {vs : List Int} {x : World} (h : RdInv w ps vs x) (v : Int) : RdInv w ps (vs ++ [v]) (x.setCell ⟨w.heap.size + 1 + 1, vs.length, none⟩ (.int .i64 v)) := by
  obtain ⟨h1, h2, h3, h4⟩ := h
  refine ⟨h1.setCell (by simp; omega) _, fun j p hp => ?_, fun j hj => ?_, fun j u hu => ?_⟩
  · rw [World.cell?_setCell_other _ _ _ _ (by simp)]; exact h2 j p hp
  · rw [World.frozen?_setCell]
    refine ⟨?_, (h3 j hj).2⟩
    by_cases e : j = vs.length
    · subst e
      rw [World.cell?_setCell_same' _ _ _ (by rw [(h3 _ hj).1]; rfl)]
      simp
    · rw [World.cell?_setCell_other _ _ _ _ (fun h => e (by simpa using h.symm)), (h3 j hj).1]
      congr 2
      rcases Nat.lt_or_ge j vs.length with k | k
      · simp [List.getD, List.getElem?_append_left k]
      · have : vs.length + 1 ≤ j := by omega
        simp [List.getD, List.getElem?_eq_none k, List.getElem?_append_right k]
        rw [List.getElem?_eq_none (by simp; omega)]
        rfl
  · rw [World.frozen?_setCell, World.cell?_setCell_other _ _ _ _ (by simp <;> omega)]
    exact h4 j u hu

theorem seven {α : Type} (l : List α) (h : l.length = 7) : ∃ a b c d e f g, l = [a, b, c, d, e, f, g] := by
  match l, h with
  | [a, b, c, d, e, f, g], _ => exact ⟨a, b, c, d, e, f, g, rfl⟩

/-- The five words that are to be numbers. -/
def numWords (ps : List ByteArray) : List ByteArray := [ps.getD 0 ⟨#[]⟩, ps.getD 1 ⟨#[]⟩, ps.getD 3 ⟨#[]⟩, ps.getD 4 ⟨#[]⟩, ps.getD 5 ⟨#[]⟩]

theorem split8 (s : ByteArray) (w : World) (hs : s.size ≤ 100000) (hl : Libs w) (o : Obj) :
    Calls Tryz.prog 28 #[.string s, .string ⟨#[32]⟩, .int .i64 8] (w.alloc o) fun e w' => e = .returned (.slice (some ⟨w.heap.size + 1, 0, none⟩) (wordsB s).length (min 8 (s.size + 1))) ∧ w' = (w.alloc o).alloc (.cells (Lib.cellsOf (wordsB s) (min 8 (s.size + 1))) 9) := by
  obtain ⟨⟨m, hm⟩, _⟩ := hl
  have h := Tryz.strings_SplitN s ⟨#[32]⟩ 8 m (w.alloc o) (by omega) ((World.cell?_alloc_lt _ _ _ (lt_of_cell hm)).trans hm) (by decide) (by omega) (by omega)
  refine h.mono fun e w' ⟨h1, h2⟩ => ⟨?_, h2⟩
  rw [h1]
  simp [wordsB]

set_option maxRecDepth 100000 in
set_option maxHeartbeats 8000000 in
theorem read_few (s : ByteArray) (w : World) (hs : s.size ≤ 100000) (hl : Libs w) (h7 : ¬ (wordsB s).length = 7) :
    Calls Tryz.prog 14 #[.string s] w (ReadOne s w) := by
  have HS := hide (fun o => split8 s w hs hl o)
  have h7' : (((wordsB s).length : Int) == 7) = false := by simp; omega
  have HN : Hid (∀ q, opB q = true → s.data.toList = opL q → false = true ∧ zeroOp = q) := by
    intro q hq hsq
    have := congrArg List.length (wordsB_of s q hq hsq)
    simp [fieldsL] at this
    exact absurd this h7
  clear h7 hl
  go_enter Tryz.func14, Tryz.ntmps14
  go_wp2_with fail
  refine (unhide HS _).mono ?_
  rintro e w1 ⟨rfl, hw1⟩
  subst hw1
  clear HS
  go_wp2
  refine bodyPost_ret (v := .tuple #[opV zeroOp, .bool false]) (by simp [results, Tryz.results14, go_sem, opV, opCells, zeroOp]) rfl ⟨zeroOp, false, rfl, ⟨Nat.zero_le _, Nat.zero_le _⟩, unhide HN, ?_⟩
  exact ((Below.refl _ _).alloc (Nat.le_refl _) _).alloc (by simp) _

end Go.Proofs.YtcgdmehdocaooaaGreatDoor
