/- Reading changes: what the texts of changes say of the changes. -/
import Derived.Test.YtcgdmehdocaooaaGreatDoorIter
import Derived.RangeFuncBox
namespace Go.Proofs.YtcgdmehdocaooaaGreatDoor
open Go.RowKit Go.Shelf

def bytesT (l : List Txt) : List (List UInt8) := l.map (·.1.data.toList)
/-- L is what these texts are, if they are anything. -/
def Told (pre : List Txt) (L : List Fop) : Prop := ∀ qs : List Fop, (∀ q, q ∈ qs → opB q = true) → bytesT pre = qs.map opL → L = qs
/-- These texts are no changes, or too many. -/
def NoneOf (pre : List Txt) : Prop := ∀ qs : List Fop, (∀ q, q ∈ qs → opB q = true) → qs.length ≤ 8 → bytesT pre ≠ qs.map opL

theorem Told.nil : Told [] [] := fun qs _ h => by
  cases qs with
  | nil => rfl
  | cons q qs => simp [bytesT] at h

theorem Told.snoc {pre : List Txt} {L : List Fop} {x : Txt} {o : Fop} (h : Told pre L) (hx : ∀ q, opB q = true → x.1.data.toList = opL q → o = q) : Told (pre ++ [x]) (L ++ [o]) := fun qs hq he => by
  rcases List.eq_nil_or_concat qs with rfl | ⟨qs, q, rfl⟩
  · simp [bytesT] at he
  · unfold bytesT at he
    simp only [List.concat_eq_append, List.map_append, List.map_cons, List.map_nil] at he hq ⊢
    obtain ⟨h1, h2⟩ := List.append_inj' he rfl
    rw [h qs (fun q' hq' => hq q' (by simp [hq'])) h1, hx q (hq q (by simp)) (by simpa using h2)]

theorem none_long {pre : List Txt} {x : Txt} (h : pre.length = 8) : NoneOf (pre ++ [x]) := fun qs _ hl he => by
  have := congrArg List.length he
  simp [bytesT] at this
  omega

theorem none_bad {pre : List Txt} {x : Txt} (h : ∀ q, opB q = true → x.1.data.toList ≠ opL q) : NoneOf (pre ++ [x]) := fun qs hq _ he => by
  rcases List.eq_nil_or_concat qs with rfl | ⟨qs, q, rfl⟩
  · simp [bytesT] at he
  · unfold bytesT at he
    simp only [List.concat_eq_append, List.map_append, List.map_cons, List.map_nil] at he hq
    obtain ⟨h1, h2⟩ := List.append_inj' he rfl
    exact h q (hq q (by simp)) (by simpa using h2)

theorem pieces_data (s : ByteArray) (q : List Fop) (h : okL q) (hs : s.data.toList = opsL q) : (pieces s).map (·.data.toList) = q.map opL := by
  unfold pieces
  rw [Lib.splitB_data, hs]
  refine wrs_cut q h _ ?_
  have h1 := wrs_length q
  rw [← hs] at h1
  have h2 : s.data.toList.length = s.size := Array.length_toList
  omega

theorem bytes_raw (l : List Txt) : bytesT l = (rawT l).map (·.data.toList) := by simp [bytesT, rawT]

theorem told_end {pre : List Txt} {L : List Fop} {s : ByteArray} (h : Told pre L) (hp : rawT pre = pieces s) (q : List Fop) (hq : okL q) (hs : s.data.toList = opsL q) : L = q :=
  h q hq.2.2 (by rw [bytes_raw, hp, pieces_data s q hq hs])

theorem none_end {pre : List Txt} {s : ByteArray} (h : NoneOf pre) (hp : rawT pre <+: pieces s) (q : List Fop) (hq : okL q) : s.data.toList ≠ opsL q := fun hs => by
  obtain ⟨r, hr⟩ := hp
  have h1 := pieces_data s q hq hs
  rw [← hr, List.map_append, ← bytes_raw] at h1
  have h2 := congrArg (List.take (bytesT pre).length) h1
  rw [List.take_left, ← List.map_take] at h2
  exact h _ (fun o ho => hq.2.2 o (List.mem_of_mem_take ho)) (Nat.le_trans (by simp; omega) hq.2.1) h2

/-- The cells of changes, one behind the other. -/
def cellsL (L : List Fop) : List Value := L.flatMap opCells
theorem cellsL_snoc (L : List Fop) (o : Fop) : cellsL (L ++ [o]) = cellsL L ++ opCells o := by simp [cellsL]
theorem cellsL_at : ∀ (L : List Fop) (k : Nat) (hk : k < L.length) (j : Nat), j < 7 → (cellsL L)[k * 7 + j]? = (opCells L[k])[j]?
  | o :: L, 0, hk, j, hj => by
      show (opCells o ++ cellsL L)[0 * 7 + j]? = _
      rw [List.getElem?_append_left (by simpa [opCells] using hj)]
      simp
  | o :: L, k + 1, hk, j, hj => by
      show (opCells o ++ cellsL L)[(k + 1) * 7 + j]? = _
      have e : (opCells o).length = 7 := rfl
      rw [List.getElem?_append_right (by omega), show (k + 1) * 7 + j - (opCells o).length = k * 7 + j by omega, cellsL_at L k (by simpa using hk) j hj]
      simp

theorem row_ops {w : World} {base : Nat} {v : Value} {L : List Fop} (h : w.ownsRow base 44 7 v L.length (cellsL L)) : ReadsOps w v L := by
  obtain ⟨_, h2⟩ := h
  rcases h2 with ⟨hv, h2⟩ | ⟨g, cap, cur, hv, hg, hh, h3, h4, h5, h6⟩
  · exact ⟨none, 0, by rw [hv, h2], .inl (List.eq_nil_of_length_eq_zero h2)⟩
  · refine ⟨_, cap, hv, .inr ⟨g, 0, rfl, ?_, fun k hk => ?_⟩⟩
    · rcases Nat.lt_or_ge g w.heap.size with k | k
      · exact k
      · rw [Array.getElem?_eq_none k] at hh; cases hh
    · have key : ∀ j, j < 7 → w.cell? ⟨g, 0 + k * 7 + j, none⟩ = (opCells L[k])[j]? := fun j hj => by
        rw [← cellsL_at L k hk j hj, ← h6, List.getElem?_take_of_lt (by omega)]
        unfold World.cell?
        simp only [hh, Nat.zero_add]
        rw [← Array.getElem?_toList]
        rfl
      exact ⟨key 0 (by omega), key 1 (by omega), key 2 (by omega), key 3 (by omega), key 4 (by omega), key 5 (by omega), key 6 (by omega)⟩

/-- What a reading gives. -/
def ReadSays (s : ByteArray) (w : World) (e : Ending) (w' : World) : Prop :=
  ((∃ (q : List Fop) (v : Value), okL q ∧ s.data.toList = opsL q ∧ e = .returned (.tuple #[v, .nilIface]) ∧ ReadsOps w' v q) ∨
   ((∀ q, okL q → s.data.toList ≠ opsL q) ∧ e = .returned (.tuple #[.slice none 0 0, .iface 23 (.int .i64 3)]))) ∧ Below w.heap.size w w'

end Go.Proofs.YtcgdmehdocaooaaGreatDoor
