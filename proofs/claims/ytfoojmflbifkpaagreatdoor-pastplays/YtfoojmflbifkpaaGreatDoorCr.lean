/- Texts of one proof, one behind the other. -/
import Derived.Test.YtfoojmflbifkpaaGreatDoorCq
import Derived.ProofKit
import Derived.OpenShut
import Derived.ChangeOld
import Derived.ChangeSame
import Derived.ChangeVars
import Derived.RowKit
import Derived.Deep.Slices
import Derived.Deep.Strs
import Derived.Lib.SmallJoins

/- What a slice of changes that came in holds, and what a key that came in holds. -/
namespace Go.Proofs.YtfoojmflbifkpaaGreatDoor
open Go.ChangeShapes Go.WideShapes Go.ChangeAt Go.RowKit Go.Deep

theorem cellsOp : Tryz.prog.cellsOf 36 = 7 := by kernel_rfl
theorem cellsKey : Tryz.prog.cellsOf 32 = 4 := by kernel_rfl
theorem cellsSpan : Tryz.prog.cellsOf 34 = 2 := by kernel_rfl
theorem cellsInt : Tryz.prog.cellsOf 3 = 1 := by kernel_rfl
theorem cellsString : Tryz.prog.cellsOf 9 = 1 := by kernel_rfl

theorem list7 {α : Type} {cs : List α} (h : cs.length = 7) : ∃ c0 c1 c2 c3 c4 c5 c6, cs = [c0, c1, c2, c3, c4, c5, c6] := by
  match cs, h with
  | [c0, c1, c2, c3, c4, c5, c6], _ => exact ⟨c0, c1, c2, c3, c4, c5, c6, rfl⟩

/-- The cells of one change that came in. -/
theorem op_cells {H : Type} {enc : TypeId × Value → H} {W : World} {base n : Nat} {spare : Nat → Bool} {held : Bool} {cs : List Value} {x : DataW H × List MemPlace} (h : DataW.trod enc Tryz.prog W base spare held n 36 cs = some x) :
    ∃ o : Fop, Small o ∧ cs = opCells o := by
  obtain ⟨y0, y1, y2, m, _, hl, h0, h1, h2⟩ := Go.Deep.trod_struct3 Tryz.underlying36 h
  rw [cellsOp] at hl
  obtain ⟨c0, c1, c2, c3, c4, c5, c6, rfl⟩ := list7 hl
  simp only [cellsKey, cellsSpan, cellsString, List.drop, List.take] at h0 h1 h2
  obtain ⟨z0, z1, z2, z3, m1, _, _, k0, k1, k2, k3⟩ := Go.Joins.trod_struct4 Tryz.underlying32 h0
  simp only [cellsInt, cellsString, List.drop, List.take] at k0 k1 k2 k3
  obtain ⟨s0, s1, m2, _, _, q0, q1⟩ := trod_struct2 Tryz.underlying34 h1
  simp only [cellsInt, List.drop, List.take] at q0 q1
  obtain ⟨n0, e0, _, _⟩ := DataW.trod_int Tryz.underlying3 k0
  obtain ⟨n1, e1, _, _⟩ := DataW.trod_int Tryz.underlying3 k1
  obtain ⟨t2, e2, _, g2⟩ := DataW.trod_string Tryz.underlying9 k2
  obtain ⟨n3, e3, _, _⟩ := DataW.trod_int Tryz.underlying3 k3
  obtain ⟨n4, e4, _, _⟩ := DataW.trod_int Tryz.underlying3 q0
  obtain ⟨n5, e5, _, _⟩ := DataW.trod_int Tryz.underlying3 q1
  obtain ⟨t6, e6, _, g6⟩ := DataW.trod_string Tryz.underlying9 h2
  simp only [List.cons.injEq, and_true] at e0 e1 e2 e3 e4 e5 e6
  subst e0 e1 e2 e3 e4 e5 e6
  exact ⟨⟨n0, n1, t2, n3, n4, n5, t6⟩, ⟨g2, g6⟩, rfl⟩

/-- What a slice of changes that came in holds. -/
theorem reads_ops {H : Type} {enc : TypeId × Value → H} {W : World} {v : Value} {d : DataW H} {p : List MemPlace} (hv : ∃ a len cap, v = .slice a len cap) (h : DataW.Trod enc Tryz.prog W 0 (fun _ => true) true 37 v d p) :
    ∃ l, ReadsOps W v l ∧ (∀ x, x ∈ l → Small x) ∧ l.length ≤ maxLen := by
  obtain ⟨a0, len0, cap0, rfl⟩ := hv
  obtain ⟨fuel, hf⟩ := h
  rcases Go.Deep.open_slice Tryz.underlying37 hf with ⟨hcs, _⟩ | ⟨a, len, cap, m, n, D, Pl, hcs, _, hl, hm, hmm, _, hx⟩
  · simp [Value.cells] at hcs
    obtain ⟨rfl, rfl, rfl⟩ := hcs
    exact ⟨[], ⟨none, 0, rfl, Or.inl rfl⟩, by simp, by simp⟩
  · simp [Value.cells] at hcs
    obtain ⟨rfl, rfl, rfl⟩ := hcs
    simp only [if_true] at hmm
    subst hmm
    rw [cellsOp] at hx
    have hex : ∀ i : Nat, ∃ o : Fop, i < len0 → Small o ∧ W.cells? 0 (a.add (i * 7)) 7 = some (opCells o) := by
      intro i
      by_cases hi : i < len0
      · obtain ⟨cs', h1, h2⟩ := hx i (by omega)
        obtain ⟨o, ho, rfl⟩ := op_cells h2
        exact ⟨o, fun _ => ⟨ho, h1⟩⟩
      · exact ⟨⟨0, 0, ⟨#[]⟩, 0, 0, 0, ⟨#[]⟩⟩, fun h => absurd h hi⟩
    let f := fun i => Classical.choose (hex i)
    have hf2 : ∀ i, i < len0 → Small (f i) ∧ W.cells? 0 (a.add (i * 7)) 7 = some (opCells (f i)) := fun i hi => Classical.choose_spec (hex i) hi
    refine ⟨(List.range len0).map f, ⟨some a, m, by simp, ?_⟩, ?_, by simpa using Nat.le_trans hl hm⟩
    · by_cases h0 : len0 = 0
      · subst h0; exact Or.inl rfl
      · right
        obtain ⟨b, off, spot⟩ := a
        have h00 := (World.cells?_some (hf2 0 (by omega)).2).2.2 0 (by omega)
        have h01 : W.cell? ⟨b, off, spot⟩ = some (.int .i64 (f 0).kind) := by simpa [Addr.add, opCells] using h00
        have hspot : spot = none := World.cell?_spot h01
        subst hspot
        refine ⟨b, off, rfl, lt_of_cell h01, ?_⟩
        intro k hk
        have hk' : k < len0 := by simpa using hk
        have hc := (World.cells?_some (hf2 k hk').2).2.2
        have e : ((List.range len0).map f)[k] = f k := by simp
        rw [e]
        have q : ∀ i v, i < 7 → (opCells (f k))[i]? = some v → W.cell? ⟨b, off + k * 7 + i, none⟩ = some v := by
          intro i v hi hv
          have := hc i hi
          rw [Go.WideShapes.add_plain, Go.WideShapes.add_plain] at this
          rw [this]; exact hv
        exact ⟨q 0 _ (by omega) rfl, q 1 _ (by omega) rfl, q 2 _ (by omega) rfl, q 3 _ (by omega) rfl, q 4 _ (by omega) rfl, q 5 _ (by omega) rfl, q 6 _ (by omega) rfl⟩
    · intro x hx
      simp only [List.mem_map, List.mem_range] at hx
      obtain ⟨i, hi, rfl⟩ := hx
      exact (hf2 i hi).1

end Go.Proofs.YtfoojmflbifkpaaGreatDoor

/- What the steps and the questions that came in hold; a row that is too long. -/
namespace Go.Proofs.YtfoojmflbifkpaaGreatDoor
open Go.ChangeShapes Go.WideShapes Go.ChangeAt Go.RowKit Go.Deep

theorem cellsStep : Tryz.prog.cellsOf 48 = 4 := by kernel_rfl
theorem cellsAsk : Tryz.prog.cellsOf 56 = 9 := by kernel_rfl
theorem cellsOpsS : Tryz.prog.cellsOf 37 = 1 := by kernel_rfl

theorem list4 {α : Type} {cs : List α} (h : cs.length = 4) : ∃ c0 c1 c2 c3, cs = [c0, c1, c2, c3] := by
  match cs, h with
  | [c0, c1, c2, c3], _ => exact ⟨c0, c1, c2, c3, rfl⟩
theorem list9 {α : Type} {cs : List α} (h : cs.length = 9) : ∃ c0 c1 c2 c3 c4 c5 c6 c7 c8, cs = [c0, c1, c2, c3, c4, c5, c6, c7, c8] := by
  match cs, h with
  | [c0, c1, c2, c3, c4, c5, c6, c7, c8], _ => exact ⟨c0, c1, c2, c3, c4, c5, c6, c7, c8, rfl⟩

theorem trod_struct5 {H : Type} {enc : TypeId × Value → H} {P : Program} {w : World} {base : Nat} {spare : Nat → Bool} {held : Bool} {t : TypeId} {f0 f1 f2 f3 f4 : Field} {fuel : Nat} {cs : List Value} {x : DataW H × List MemPlace} (ht : P.underlying t = some (.struct #[f0, f1, f2, f3, f4])) (h : DataW.trod enc P w base spare held fuel t cs = some x) :
    ∃ y0 y1 y2 y3 y4 n, cs.length = P.cellsOf t ∧ DataW.trod enc P w base spare held n f0.type ((cs.drop f0.offset).take (P.cellsOf f0.type)) = some y0 ∧ DataW.trod enc P w base spare held n f1.type ((cs.drop f1.offset).take (P.cellsOf f1.type)) = some y1 ∧ DataW.trod enc P w base spare held n f2.type ((cs.drop f2.offset).take (P.cellsOf f2.type)) = some y2 ∧ DataW.trod enc P w base spare held n f3.type ((cs.drop f3.offset).take (P.cellsOf f3.type)) = some y3 ∧ DataW.trod enc P w base spare held n f4.type ((cs.drop f4.offset).take (P.cellsOf f4.type)) = some y4 := by
  obtain ⟨xs, n, _, rfl, hl, hlen, hf⟩ := DataW.trod_struct ht h
  match xs, hlen with
  | [y0, y1, y2, y3, y4], _ => exact ⟨y0, y1, y2, y3, y4, n, hl, by simpa using hf 0 f0 rfl, by simpa using hf 1 f1 rfl, by simpa using hf 2 f2 rfl, by simpa using hf 3 f3 rfl, by simpa using hf 4 f4 rfl⟩

def stepCells (z : StepN) : List Value := [.int .i64 z.what, .int .i64 z.n, .int .i64 z.torn, z.v]
def StepOk (W : World) (z : StepN) : Prop := ReadsOps W z.v z.l ∧ z.l.length ≤ maxLen ∧ ∀ x, x ∈ z.l → Small x

/-- The cells of one step that came in. -/
theorem step_cells {H : Type} {enc : TypeId × Value → H} {W : World} {n : Nat} {cs : List Value} {x : DataW H × List MemPlace} (h : DataW.trod enc Tryz.prog W 0 (fun _ => true) true n 48 cs = some x) :
    ∃ z : StepN, StepOk W z ∧ cs = stepCells z := by
  obtain ⟨z0, z1, z2, z3, m1, _, hl, k0, k1, k2, k3⟩ := Go.Joins.trod_struct4 Tryz.underlying48 h
  rw [cellsStep] at hl
  obtain ⟨c0, c1, c2, c3, rfl⟩ := list4 hl
  simp only [cellsInt, cellsOpsS, List.drop, List.take] at k0 k1 k2 k3
  obtain ⟨n0, e0, _, _⟩ := DataW.trod_int Tryz.underlying3 k0
  obtain ⟨n1, e1, _, _⟩ := DataW.trod_int Tryz.underlying3 k1
  obtain ⟨n2, e2, _, _⟩ := DataW.trod_int Tryz.underlying3 k2
  simp only [List.cons.injEq, and_true] at e0 e1 e2
  subst e0 e1 e2
  have hc3 : ∃ a len cap, c3 = .slice a len cap := by
    rcases Go.Deep.open_slice Tryz.underlying37 k3 with ⟨hcs, _⟩ | ⟨a, len, cap, m, n, D, Pl, hcs, _⟩
    · simp only [List.cons.injEq, and_true] at hcs
      exact ⟨_, _, _, hcs⟩
    · simp only [List.cons.injEq, and_true] at hcs
      exact ⟨_, _, _, hcs⟩
  obtain ⟨a, len, cap, rfl⟩ := hc3
  obtain ⟨l, r1, r2, r3⟩ := reads_ops (W := W) (enc := enc) (v := .slice a len cap) (d := z3.1) (p := z3.2) ⟨_, _, _, rfl⟩ ⟨m1, k3⟩
  exact ⟨⟨n0, n1, n2, .slice a len cap, l⟩, ⟨r1, r3, r2⟩, rfl⟩

/-- What a slice of steps that came in holds. -/
theorem reads_steps {H : Type} {enc : TypeId × Value → H} {W : World} {v : Value} {d : DataW H} {p : List MemPlace} (hv : ∃ a len cap, v = .slice a len cap) (h : DataW.Trod enc Tryz.prog W 0 (fun _ => true) true 22 v d p) :
    ∃ (l : List StepN) (ad : Option Addr) (c : Nat), v = .slice ad l.length c ∧ StepsAt W ad l ∧ l.length ≤ maxLen := by
  obtain ⟨a0, len0, cap0, rfl⟩ := hv
  obtain ⟨fuel, hf⟩ := h
  rcases Go.Deep.open_slice Tryz.underlying22 hf with ⟨hcs, _⟩ | ⟨a, len, cap, m, n, D, Pl, hcs, _, hl, hm, hmm, _, hx⟩
  · simp [Value.cells] at hcs
    obtain ⟨rfl, rfl, rfl⟩ := hcs
    exact ⟨[], none, 0, rfl, fun j hj => by simp at hj, by simp⟩
  · simp [Value.cells] at hcs
    obtain ⟨rfl, rfl, rfl⟩ := hcs
    simp only [if_true] at hmm
    subst hmm
    rw [cellsStep] at hx
    have hex : ∀ i : Nat, ∃ z : StepN, i < len0 → StepOk W z ∧ W.cells? 0 (a.add (i * 4)) 4 = some (stepCells z) := by
      intro i
      by_cases hi : i < len0
      · obtain ⟨cs', h1, h2⟩ := hx i (by omega)
        obtain ⟨o, ho, rfl⟩ := step_cells h2
        exact ⟨o, fun _ => ⟨ho, h1⟩⟩
      · exact ⟨⟨0, 0, 0, .slice none 0 0, []⟩, fun h => absurd h hi⟩
    let f := fun i => Classical.choose (hex i)
    have hf2 : ∀ i, i < len0 → StepOk W (f i) ∧ W.cells? 0 (a.add (i * 4)) 4 = some (stepCells (f i)) := fun i hi => Classical.choose_spec (hex i) hi
    refine ⟨(List.range len0).map f, some a, m, by simp, fun k hk => ?_, by simpa using Nat.le_trans hl hm⟩
    have hk' : k < len0 := by simpa using hk
    obtain ⟨b, off, spot⟩ := a
    have h00 := (World.cells?_some (hf2 0 (by omega)).2).2.2 0 (by omega)
    have h01 : W.cell? ⟨b, off, spot⟩ = some (.int .i64 (f 0).what) := by simpa [Addr.add, stepCells] using h00
    have hspot : spot = none := World.cell?_spot h01
    subst hspot
    have hc := (World.cells?_some (hf2 k hk').2).2.2
    have e : ((List.range len0).map f)[k] = f k := by simp
    rw [e]
    have q : ∀ i v, i < 4 → (stepCells (f k))[i]? = some v → W.cell? ⟨b, off + k * 4 + i, none⟩ = some v := by
      intro i v hi hv
      have := hc i hi
      rw [Go.WideShapes.add_plain, Go.WideShapes.add_plain] at this
      rw [this]; exact hv
    obtain ⟨o1, o2, o3⟩ := (hf2 k hk').1
    exact ⟨b, off, rfl, q 0 _ (by omega) rfl, q 1 _ (by omega) rfl, q 2 _ (by omega) rfl, q 3 _ (by omega) rfl, o1, o2, o3⟩

def askCells (z : AskN) : List Value := [.int .i64 z.k.kind, .int .i64 z.k.a, .string z.k.word, .int .i64 z.k.b, .int .i64 z.a, .int .i64 z.b, .int .i64 z.t, .int .i64 z.lo, .int .i64 z.hi]
def AskOk (z : AskN) : Prop := KyOk z.k ∧ -9223372036854775808 ≤ z.t ∧ z.t ≤ 9223372036854775807

theorem wf_i64 {n : Int} (h : (Lit.int .i64 n).wf = true) : -9223372036854775808 ≤ n ∧ n ≤ 9223372036854775807 := by
  have h' : (decide ((-9223372036854775808 : Int) ≤ n) && decide (n ≤ 9223372036854775807)) = true := h
  simp only [Bool.and_eq_true, decide_eq_true_eq] at h'
  exact h'

/-- The cells of one question that came in. -/
theorem ask_cells {H : Type} {enc : TypeId × Value → H} {W : World} {base n : Nat} {spare : Nat → Bool} {held : Bool} {cs : List Value} {x : DataW H × List MemPlace} (h : DataW.trod enc Tryz.prog W base spare held n 56 cs = some x) :
    ∃ z : AskN, AskOk z ∧ cs = askCells z := by
  obtain ⟨y0, y1, y2, y3, y4, m, hl, h0, h1, h2, h3, h4⟩ := trod_struct5 Tryz.underlying56 h
  rw [cellsAsk] at hl
  obtain ⟨c0, c1, c2, c3, c4, c5, c6, c7, c8, rfl⟩ := list9 hl
  simp only [cellsKey, cellsSpan, cellsInt, List.drop, List.take] at h0 h1 h2 h3 h4
  obtain ⟨z0, z1, z2, z3, m1, _, _, k0, k1, k2, k3⟩ := Go.Joins.trod_struct4 Tryz.underlying32 h0
  simp only [cellsInt, cellsString, List.drop, List.take] at k0 k1 k2 k3
  obtain ⟨s0, s1, m2, _, _, q0, q1⟩ := trod_struct2 Tryz.underlying34 h4
  simp only [cellsInt, List.drop, List.take] at q0 q1
  obtain ⟨n0, e0, _, w0⟩ := DataW.trod_int Tryz.underlying3 k0
  obtain ⟨n1, e1, _, w1⟩ := DataW.trod_int Tryz.underlying3 k1
  obtain ⟨t2, e2, _, g2⟩ := DataW.trod_string Tryz.underlying9 k2
  obtain ⟨n3, e3, _, w3⟩ := DataW.trod_int Tryz.underlying3 k3
  obtain ⟨n4, e4, _, _⟩ := DataW.trod_int Tryz.underlying3 h1
  obtain ⟨n5, e5, _, _⟩ := DataW.trod_int Tryz.underlying3 h2
  obtain ⟨n6, e6, _, w6⟩ := DataW.trod_int Tryz.underlying3 h3
  obtain ⟨n7, e7, _, _⟩ := DataW.trod_int Tryz.underlying3 q0
  obtain ⟨n8, e8, _, _⟩ := DataW.trod_int Tryz.underlying3 q1
  simp only [List.cons.injEq, and_true] at e0 e1 e2 e3 e4 e5 e6 e7 e8
  subst e0 e1 e2 e3 e4 e5 e6 e7 e8
  exact ⟨⟨⟨n0, n1, t2, n3⟩, n4, n5, n6, n7, n8⟩, ⟨⟨w0, w1, w3, g2⟩, wf_i64 w6⟩, rfl⟩

/-- What a slice of questions that came in holds. -/
theorem reads_asks {H : Type} {enc : TypeId × Value → H} {W : World} {v : Value} {d : DataW H} {p : List MemPlace} (hv : ∃ a len cap, v = .slice a len cap) (h : DataW.Trod enc Tryz.prog W 0 (fun _ => true) true 23 v d p) :
    ∃ (l : List AskN) (ad : Option Addr) (c : Nat), v = .slice ad l.length c ∧ AsksAt W ad l ∧ l.length ≤ maxLen := by
  obtain ⟨a0, len0, cap0, rfl⟩ := hv
  obtain ⟨fuel, hf⟩ := h
  rcases Go.Deep.open_slice Tryz.underlying23 hf with ⟨hcs, _⟩ | ⟨a, len, cap, m, n, D, Pl, hcs, _, hl, hm, hmm, _, hx⟩
  · simp [Value.cells] at hcs
    obtain ⟨rfl, rfl, rfl⟩ := hcs
    exact ⟨[], none, 0, rfl, fun j hj => by simp at hj, by simp⟩
  · simp [Value.cells] at hcs
    obtain ⟨rfl, rfl, rfl⟩ := hcs
    simp only [if_true] at hmm
    subst hmm
    rw [cellsAsk] at hx
    have hex : ∀ i : Nat, ∃ z : AskN, i < len0 → AskOk z ∧ W.cells? 0 (a.add (i * 9)) 9 = some (askCells z) := by
      intro i
      by_cases hi : i < len0
      · obtain ⟨cs', h1, h2⟩ := hx i (by omega)
        obtain ⟨o, ho, rfl⟩ := ask_cells h2
        exact ⟨o, fun _ => ⟨ho, h1⟩⟩
      · exact ⟨⟨⟨0, 0, ⟨#[]⟩, 0⟩, 0, 0, 0, 0, 0⟩, fun h => absurd h hi⟩
    let f := fun i => Classical.choose (hex i)
    have hf2 : ∀ i, i < len0 → AskOk (f i) ∧ W.cells? 0 (a.add (i * 9)) 9 = some (askCells (f i)) := fun i hi => Classical.choose_spec (hex i) hi
    refine ⟨(List.range len0).map f, some a, m, by simp, fun k hk => ?_, by simpa using Nat.le_trans hl hm⟩
    have hk' : k < len0 := by simpa using hk
    obtain ⟨b, off, spot⟩ := a
    have h00 := (World.cells?_some (hf2 0 (by omega)).2).2.2 0 (by omega)
    have h01 : W.cell? ⟨b, off, spot⟩ = some (.int .i64 (f 0).k.kind) := by simpa [Addr.add, askCells] using h00
    have hspot : spot = none := World.cell?_spot h01
    subst hspot
    have hc := (World.cells?_some (hf2 k hk').2).2.2
    have e : ((List.range len0).map f)[k] = f k := by simp
    rw [e]
    have q : ∀ i v, i < 9 → (askCells (f k))[i]? = some v → W.cell? ⟨b, off + k * 9 + i, none⟩ = some v := by
      intro i v hi hv
      have := hc i hi
      rw [Go.WideShapes.add_plain, Go.WideShapes.add_plain] at this
      rw [this]; exact hv
    obtain ⟨o1, o2, o3⟩ := (hf2 k hk').1
    exact ⟨b, off, rfl, q 0 _ (by omega) rfl, q 1 _ (by omega) rfl, q 2 _ (by omega) rfl, q 3 _ (by omega) rfl, q 4 _ (by omega) rfl, q 5 _ (by omega) rfl, q 6 _ (by omega) rfl, q 7 _ (by omega) rfl, q 8 _ (by omega) rfl, o1, o2, o3⟩

set_option maxRecDepth 100000 in
set_option maxHeartbeats 1000000 in
theorem law_past_long (w : World) (nL nA : Nat) (many : Int) (ad aa : Option Addr) (cl ca : Nat) (h : 25 < nL ∨ 15 < nA) :
    Calls Tryz.prog 3 #[.slice ad nL cl, .slice aa nA ca, .int .i64 many] w fun e w' => e = .returned (.bool true) ∧ Below w.heap.size w w' := by
  by_cases h1 : (25 : Int) < (nL : Int)
  · clear h
    go_enter Tryz.func3, Tryz.ntmps3
    go_wp2
    go_ret
    exact ⟨rfl, Below.refl _ _⟩
  · have h2 : (15 : Int) < (nA : Int) := by omega
    clear h
    go_enter Tryz.func3, Tryz.ntmps3
    go_wp2
    go_ret
    exact ⟨rfl, Below.refl _ _⟩

theorem law_past_any (w : World) (L : List StepN) (A : List AskN) (many : Int) (ad aa : Option Addr) (cl ca : Nat) (hL : StepsAt w ad L) (hA : AsksAt w aa A) (ht : Tab w) (hg : ErrorType w) :
    Calls Tryz.prog 3 #[.slice ad L.length cl, .slice aa A.length ca, .int .i64 many] w fun e w' => e = .returned (.bool true) ∧ Below w.heap.size w w' := by
  by_cases h : 25 < L.length ∨ 15 < A.length
  · exact law_past_long w L.length A.length many ad aa cl ca h
  · exact law_past w L A many ad aa cl ca hL hA (by omega) (by omega) ht hg

end Go.Proofs.YtfoojmflbifkpaaGreatDoor
