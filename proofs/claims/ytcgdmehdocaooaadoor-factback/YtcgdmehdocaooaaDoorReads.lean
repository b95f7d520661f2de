/- What a slice of changes that came in holds, and what a key that came in holds. -/
import Derived.Test.YtcgdmehdocaooaaDoorShort
import Derived.ProofKit
import Derived.OpenShut
import Derived.ChangeOld
import Derived.ChangeSame
import Derived.ChangeVars
import Derived.RowKit
import Derived.Deep.Slices
import Derived.Deep.Strs
import Derived.Lib.SmallJoins
namespace Go.Proofs.YtcgdmehdocaooaaDoor
open Go.ChangeShapes Go.WideShapes Go.ChangeAt Go.RowKit Go.Deep

theorem cellsOp : Tryd.prog.cellsOf 61 = 7 := by kernel_rfl
theorem cellsKey : Tryd.prog.cellsOf 49 = 4 := by kernel_rfl
theorem cellsSpan : Tryd.prog.cellsOf 29 = 2 := by kernel_rfl
theorem cellsInt : Tryd.prog.cellsOf 3 = 1 := by kernel_rfl
theorem cellsString : Tryd.prog.cellsOf 9 = 1 := by kernel_rfl

theorem list7 {α : Type} {cs : List α} (h : cs.length = 7) : ∃ c0 c1 c2 c3 c4 c5 c6, cs = [c0, c1, c2, c3, c4, c5, c6] := by
  match cs, h with
  | [c0, c1, c2, c3, c4, c5, c6], _ => exact ⟨c0, c1, c2, c3, c4, c5, c6, rfl⟩

/-- The cells of one change that came in. -/
theorem op_cells {H : Type} {enc : TypeId × Value → H} {W : World} {base n : Nat} {spare : Nat → Bool} {held : Bool} {cs : List Value} {x : DataW H × List MemPlace} (h : DataW.trod enc Tryd.prog W base spare held n 61 cs = some x) :
    ∃ o : Fop, Small o ∧ cs = opCells o := by
  obtain ⟨y0, y1, y2, m, _, hl, h0, h1, h2⟩ := Go.Deep.trod_struct3 Tryd.underlying61 h
  rw [cellsOp] at hl
  obtain ⟨c0, c1, c2, c3, c4, c5, c6, rfl⟩ := list7 hl
  simp only [cellsKey, cellsSpan, cellsString, List.drop, List.take] at h0 h1 h2
  obtain ⟨z0, z1, z2, z3, m1, _, _, k0, k1, k2, k3⟩ := Go.Joins.trod_struct4 Tryd.underlying49 h0
  simp only [cellsInt, cellsString, List.drop, List.take] at k0 k1 k2 k3
  obtain ⟨s0, s1, m2, _, _, q0, q1⟩ := trod_struct2 Tryd.underlying29 h1
  simp only [cellsInt, List.drop, List.take] at q0 q1
  obtain ⟨n0, e0, _, _⟩ := DataW.trod_int Tryd.underlying3 k0
  obtain ⟨n1, e1, _, _⟩ := DataW.trod_int Tryd.underlying3 k1
  obtain ⟨t2, e2, _, g2⟩ := DataW.trod_string Tryd.underlying9 k2
  obtain ⟨n3, e3, _, _⟩ := DataW.trod_int Tryd.underlying3 k3
  obtain ⟨n4, e4, _, _⟩ := DataW.trod_int Tryd.underlying3 q0
  obtain ⟨n5, e5, _, _⟩ := DataW.trod_int Tryd.underlying3 q1
  obtain ⟨t6, e6, _, g6⟩ := DataW.trod_string Tryd.underlying9 h2
  simp only [List.cons.injEq, and_true] at e0 e1 e2 e3 e4 e5 e6
  subst e0 e1 e2 e3 e4 e5 e6
  exact ⟨⟨n0, n1, t2, n3, n4, n5, t6⟩, ⟨g2, g6⟩, rfl⟩

/-- What a slice of changes that came in holds. -/
theorem reads_ops {H : Type} {enc : TypeId × Value → H} {W : World} {v : Value} {d : DataW H} {p : List MemPlace} (hv : ∃ a len cap, v = .slice a len cap) (h : DataW.Trod enc Tryd.prog W 0 (fun _ => true) true 47 v d p) :
    ∃ l, ReadsOps W v l ∧ (∀ x, x ∈ l → Small x) ∧ l.length ≤ maxLen := by
  obtain ⟨a0, len0, cap0, rfl⟩ := hv
  obtain ⟨fuel, hf⟩ := h
  rcases Go.Deep.open_slice Tryd.underlying47 hf with ⟨hcs, _⟩ | ⟨a, len, cap, m, n, D, Pl, hcs, _, hl, hm, hmm, _, hx⟩
  · simp [Value.cells] at hcs
    obtain ⟨rfl, rfl, rfl⟩ := hcs
    exact ⟨[], ⟨none, 0, rfl, Or.inl rfl⟩, by simp, by simp⟩
  · simp [Value.cells] at hcs
    obtain ⟨rfl, rfl, rfl⟩ := hcs
    simp only [if_true] at hmm
    subst hmm
    rw [cellsOp] at hx
    have hex : ∀ i : Nat, ∃ o : Fop, i < len0 → Small o ∧ W.cells? 0 (a.add (i * 7)) 7 = some (opCells o) := by
      intro i
      by_cases hi : i < len0
      · obtain ⟨cs', h1, h2⟩ := hx i (by omega)
        obtain ⟨o, ho, rfl⟩ := op_cells h2
        exact ⟨o, fun _ => ⟨ho, h1⟩⟩
      · exact ⟨⟨0, 0, ⟨#[]⟩, 0, 0, 0, ⟨#[]⟩⟩, fun h => absurd h hi⟩
    let f := fun i => Classical.choose (hex i)
    have hf2 : ∀ i, i < len0 → Small (f i) ∧ W.cells? 0 (a.add (i * 7)) 7 = some (opCells (f i)) := fun i hi => Classical.choose_spec (hex i) hi
    refine ⟨(List.range len0).map f, ⟨some a, m, by simp, ?_⟩, ?_, by simpa using Nat.le_trans hl hm⟩
    · by_cases h0 : len0 = 0
      · subst h0; exact Or.inl rfl
      · right
        obtain ⟨b, off, spot⟩ := a
        have h00 := (World.cells?_some (hf2 0 (by omega)).2).2.2 0 (by omega)
        have h01 : W.cell? ⟨b, off, spot⟩ = some (.int .i64 (f 0).kind) := by simpa [Addr.add, opCells] using h00
        have hspot : spot = none := World.cell?_spot h01
        subst hspot
        refine ⟨b, off, rfl, lt_of_cell h01, ?_⟩
        intro k hk
        have hk' : k < len0 := by simpa using hk
        have hc := (World.cells?_some (hf2 k hk').2).2.2
        have e : ((List.range len0).map f)[k] = f k := by simp
        rw [e]
        have q : ∀ i v, i < 7 → (opCells (f k))[i]? = some v → W.cell? ⟨b, off + k * 7 + i, none⟩ = some v := by
          intro i v hi hv
          have := hc i hi
          rw [Go.WideShapes.add_plain, Go.WideShapes.add_plain] at this
          rw [this]; exact hv
        exact ⟨q 0 _ (by omega) rfl, q 1 _ (by omega) rfl, q 2 _ (by omega) rfl, q 3 _ (by omega) rfl, q 4 _ (by omega) rfl, q 5 _ (by omega) rfl, q 6 _ (by omega) rfl⟩
    · intro x hx
      simp only [List.mem_map, List.mem_range] at hx
      obtain ⟨i, hi, rfl⟩ := hx
      exact (hf2 i hi).1

end Go.Proofs.YtcgdmehdocaooaaDoor
