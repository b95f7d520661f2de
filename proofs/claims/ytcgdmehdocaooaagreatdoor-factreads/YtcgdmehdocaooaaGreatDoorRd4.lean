/- Reading one change: the program's read, walked, of seven words. -/
import Derived.Test.YtcgdmehdocaooaaGreatDoorRd3
namespace Go.Proofs.YtcgdmehdocaooaaGreatDoor
open Go.RowKit

theorem str5_0 (a b c d e : ByteArray) (w : World) : (Instr.index 71 (.agg #[.string a, .string b, .string c, .string d, .string e]) (.int .i64 0)).run Tryz.prog w = .ok (.string a) w := by kernel_rfl
theorem str5_1 (a b c d e : ByteArray) (w : World) : (Instr.index 71 (.agg #[.string a, .string b, .string c, .string d, .string e]) (.int .i64 1)).run Tryz.prog w = .ok (.string b) w := by kernel_rfl
theorem str5_2 (a b c d e : ByteArray) (w : World) : (Instr.index 71 (.agg #[.string a, .string b, .string c, .string d, .string e]) (.int .i64 2)).run Tryz.prog w = .ok (.string c) w := by kernel_rfl
theorem str5_3 (a b c d e : ByteArray) (w : World) : (Instr.index 71 (.agg #[.string a, .string b, .string c, .string d, .string e]) (.int .i64 3)).run Tryz.prog w = .ok (.string d) w := by kernel_rfl
theorem str5_4 (a b c d e : ByteArray) (w : World) : (Instr.index 71 (.agg #[.string a, .string b, .string c, .string d, .string e]) (.int .i64 4)).run Tryz.prog w = .ok (.string e) w := by kernel_rfl

/-- Seven cells of one block, written one behind the other. -/
def set7 (w : World) (B : Nat) (a b c d e f g : Value) : World :=
  ((((((w.setCell ⟨B, 0, none⟩ a).setCell ⟨B, 1, none⟩ b).setCell ⟨B, 2, none⟩ c).setCell ⟨B, 3, none⟩ d).setCell ⟨B, 4, none⟩ e).setCell ⟨B, 5, none⟩ f).setCell ⟨B, 6, none⟩ g

theorem set7_cells (w : World) (B : Nat) (a b c d e f g : Value) (h : ∀ j, j < 7 → (w.cell? ⟨B, j, none⟩).isSome = true) :
    (set7 w B a b c d e f g).cell? ⟨B, 0, none⟩ = some a ∧ (set7 w B a b c d e f g).cell? ⟨B, 1, none⟩ = some b ∧ (set7 w B a b c d e f g).cell? ⟨B, 2, none⟩ = some c ∧ (set7 w B a b c d e f g).cell? ⟨B, 3, none⟩ = some d ∧
    (set7 w B a b c d e f g).cell? ⟨B, 4, none⟩ = some e ∧ (set7 w B a b c d e f g).cell? ⟨B, 5, none⟩ = some f ∧ (set7 w B a b c d e f g).cell? ⟨B, 6, none⟩ = some g := by
  have o : ∀ (x : World) (i j : Nat) (v : Value), i ≠ j → (x.setCell ⟨B, i, none⟩ v).cell? ⟨B, j, none⟩ = x.cell? ⟨B, j, none⟩ := fun x i j v hij => World.cell?_setCell_other _ _ _ _ (fun q => hij (by injection q))
  have s : ∀ (x : World) (i : Nat) (v : Value), (x.cell? ⟨B, i, none⟩).isSome = true → (x.setCell ⟨B, i, none⟩ v).cell? ⟨B, i, none⟩ = some v := fun x i v hx => World.cell?_setCell_same' _ _ _ hx
  unfold set7
  refine ⟨?_, ?_, ?_, ?_, ?_, ?_, ?_⟩
  · rw [o _ 6 0 _ (by decide), o _ 5 0 _ (by decide), o _ 4 0 _ (by decide), o _ 3 0 _ (by decide), o _ 2 0 _ (by decide), o _ 1 0 _ (by decide), s _ 0 _ (h 0 (by decide))]
  · rw [o _ 6 1 _ (by decide), o _ 5 1 _ (by decide), o _ 4 1 _ (by decide), o _ 3 1 _ (by decide), o _ 2 1 _ (by decide), s _ 1 _ (by rw [o _ 0 1 _ (by decide)]; exact h 1 (by decide))]
  · rw [o _ 6 2 _ (by decide), o _ 5 2 _ (by decide), o _ 4 2 _ (by decide), o _ 3 2 _ (by decide), s _ 2 _ (by rw [o _ 1 2 _ (by decide), o _ 0 2 _ (by decide)]; exact h 2 (by decide))]
  · rw [o _ 6 3 _ (by decide), o _ 5 3 _ (by decide), o _ 4 3 _ (by decide), s _ 3 _ (by rw [o _ 2 3 _ (by decide), o _ 1 3 _ (by decide), o _ 0 3 _ (by decide)]; exact h 3 (by decide))]
  · rw [o _ 6 4 _ (by decide), o _ 5 4 _ (by decide), s _ 4 _ (by rw [o _ 3 4 _ (by decide), o _ 2 4 _ (by decide), o _ 1 4 _ (by decide), o _ 0 4 _ (by decide)]; exact h 4 (by decide))]
  · rw [o _ 6 5 _ (by decide), s _ 5 _ (by rw [o _ 4 5 _ (by decide), o _ 3 5 _ (by decide), o _ 2 5 _ (by decide), o _ 1 5 _ (by decide), o _ 0 5 _ (by decide)]; exact h 5 (by decide))]
  · rw [s _ 6 _ (by rw [o _ 5 6 _ (by decide), o _ 4 6 _ (by decide), o _ 3 6 _ (by decide), o _ 2 6 _ (by decide), o _ 1 6 _ (by decide), o _ 0 6 _ (by decide)]; exact h 6 (by decide))]

theorem set7_below {w x : World} {B : Nat} (h : Below B w x) (a b c d e f g : Value) : Below B w (set7 x B a b c d e f g) :=
  ((((((h.setCell (Nat.le_refl _) _).setCell (Nat.le_refl _) _).setCell (Nat.le_refl _) _).setCell (Nat.le_refl _) _).setCell (Nat.le_refl _) _).setCell (Nat.le_refl _) _).setCell (Nat.le_refl _) _

theorem RdInv.there {w : World} {ps : List ByteArray} {vs : List Int} {x : World} (h : RdInv w ps vs x) (j : Nat) (hj : j < 7) : (x.cell? ⟨w.heap.size, j, none⟩).isSome = true := by
  have h4 := h.2.2.2
  have : j < (opCells zeroOp).length := hj
  rw [(h4 j _ (List.getElem?_eq_getElem this)).1]; rfl

/-- The result's cells, as yet nought. -/
theorem RdInv.res {w : World} {ps : List ByteArray} {vs : List Int} {x : World} (h : RdInv w ps vs x) :
    (x.cell? ⟨w.heap.size, 0, none⟩ = some (.int .i64 0) ∧ x.cell? ⟨w.heap.size, 1, none⟩ = some (.int .i64 0) ∧ x.cell? ⟨w.heap.size, 2, none⟩ = some (.string ⟨#[]⟩) ∧ x.cell? ⟨w.heap.size, 3, none⟩ = some (.int .i64 0) ∧ x.cell? ⟨w.heap.size, 4, none⟩ = some (.int .i64 0) ∧ x.cell? ⟨w.heap.size, 5, none⟩ = some (.int .i64 0) ∧ x.cell? ⟨w.heap.size, 6, none⟩ = some (.string ⟨#[]⟩)) ∧
    (x.frozen? ⟨w.heap.size, 0, none⟩ = false ∧ x.frozen? ⟨w.heap.size, 1, none⟩ = false ∧ x.frozen? ⟨w.heap.size, 2, none⟩ = false ∧ x.frozen? ⟨w.heap.size, 3, none⟩ = false ∧ x.frozen? ⟨w.heap.size, 4, none⟩ = false ∧ x.frozen? ⟨w.heap.size, 5, none⟩ = false ∧ x.frozen? ⟨w.heap.size, 6, none⟩ = false) := by
  have h4 := h.2.2.2
  exact ⟨⟨(h4 0 _ rfl).1, (h4 1 _ rfl).1, (h4 2 _ rfl).1, (h4 3 _ rfl).1, (h4 4 _ rfl).1, (h4 5 _ rfl).1, (h4 6 _ rfl).1⟩, (h4 0 _ rfl).2, (h4 1 _ rfl).2, (h4 2 _ rfl).2, (h4 3 _ rfl).2, (h4 4 _ rfl).2, (h4 5 _ rfl).2, (h4 6 _ rfl).2⟩

/-- What the five words are, as far as they have been read. -/
def ReadTo (ps : List ByteArray) (vs : List Int) : Prop := ∀ (j : Nat) (v : Int) (t : ByteArray), vs[j]? = some v → (numWords ps)[j]? = some t → Lib.atoiAll t.data.toList = .ok v

theorem ReadTo.snoc {ps : List ByteArray} {vs : List Int} (h : ReadTo ps vs) (v : Int) (hv : ∀ t, (numWords ps)[vs.length]? = some t → Lib.atoiAll t.data.toList = .ok v) : ReadTo ps (vs ++ [v]) := by
  intro j u t hj ht
  rcases Nat.lt_or_ge j vs.length with k | k
  · rw [List.getElem?_append_left k] at hj
    exact h j u t hj ht
  · rw [List.getElem?_append_right k] at hj
    have : j = vs.length := by
      rcases Nat.lt_or_ge (j - vs.length) 1 with q | q
      · omega
      · rw [List.getElem?_eq_none (by simpa using q)] at hj; cases hj
    subst this
    simp at hj
    subst hj
    exact hv t ht

end Go.Proofs.YtcgdmehdocaooaaGreatDoor
