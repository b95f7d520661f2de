/- Texts of one proof, one behind the other. -/
import Derived.Test.YtfoojmflbifkpaaGreatDoorFp
import Derived.Test.YtfoojmflbifkpaaGreatDoorRows
import Derived.Test.YtfoojmflbifkpaaGreatDoorGg
import Derived.ProofKit
import Derived.OpenShut
import Derived.ChangeOld
import Derived.ChangeSame
import Derived.ChangeVars
import Derived.RowKit
import Derived.Deep.Slices
import Derived.Deep.Strs
import Derived.Lib.SmallJoins
import Derived.JoinedOf
import Derived.RowKitTokens
import Derived.LaidLaws
import Derived.LaidHandle
import Derived.Stop.Joined
import Derived.Stop.LaidErr
import Derived.Deep.DeepHandedRow
import Derived.Deep.DeepWitnessRowRef
import Derived.Deep.DeepLaidRun
import Derived.Deep.SlicePairs
import Derived.Shelf.Vars
import Derived.Lib.LaidU8
import Derived.Carry
set_option maxRecDepth 100000
set_option maxHeartbeats 16000000
namespace Go.Proofs.YtfoojmflbifkpaaGreatDoor
open Go.ChangeShapes Go.WideShapes Go.ChangeAt Go.RowKit Go.Deep
theorem cellsOp : Tryz.prog.cellsOf 36 = 7 := by kernel_rfl
theorem cellsKey : Tryz.prog.cellsOf 32 = 4 := by kernel_rfl
theorem cellsSpan : Tryz.prog.cellsOf 34 = 2 := by kernel_rfl
theorem cellsInt : Tryz.prog.cellsOf 3 = 1 := by kernel_rfl
theorem cellsString : Tryz.prog.cellsOf 9 = 1 := by kernel_rfl
theorem list7 {α : Type} {cs : List α} (h : cs.length = 7) : ∃ c0 c1 c2 c3 c4 c5 c6, cs = [c0, c1, c2, c3, c4, c5, c6] := by
 match cs, h with
 | [c0, c1, c2, c3, c4, c5, c6], _ => exact ⟨c0, c1, c2, c3, c4, c5, c6, rfl⟩
theorem op_cells {H : Type} {enc : TypeId × Value -> H} {W : World} {base n : Nat} {spare : Nat -> Bool} {held : Bool} {cs : List Value} {x : DataW H × List MemPlace} (h : DataW.trod enc Tryz.prog W base spare held n 36 cs = some x) :
  ∃ o : Fop, Small o /\ cs = opCells o := by
 obtain ⟨y0, y1, y2, m, _, hl, h0, h1, h2⟩ := Go.Deep.trod_struct3 Tryz.underlying36 h
 rw [cellsOp] at hl
 obtain ⟨c0, c1, c2, c3, c4, c5, c6, rfl⟩ := list7 hl
 simp only [cellsKey, cellsSpan, cellsString, List.drop, List.take] at h0 h1 h2
 obtain ⟨z0, z1, z2, z3, m1, _, _, k0, k1, k2, k3⟩ := Go.Joins.trod_struct4 Tryz.underlying32 h0
 simp only [cellsInt, cellsString, List.drop, List.take] at k0 k1 k2 k3
 obtain ⟨s0, s1, m2, _, _, q0, q1⟩ := trod_struct2 Tryz.underlying34 h1
 simp only [cellsInt, List.drop, List.take] at q0 q1
 obtain ⟨n0, e0, _, _⟩ := DataW.trod_int Tryz.underlying3 k0
 obtain ⟨n1, e1, _, _⟩ := DataW.trod_int Tryz.underlying3 k1
 obtain ⟨t2, e2, _, g2⟩ := DataW.trod_string Tryz.underlying9 k2
 obtain ⟨n3, e3, _, _⟩ := DataW.trod_int Tryz.underlying3 k3
 obtain ⟨n4, e4, _, _⟩ := DataW.trod_int Tryz.underlying3 q0
 obtain ⟨n5, e5, _, _⟩ := DataW.trod_int Tryz.underlying3 q1
 obtain ⟨t6, e6, _, g6⟩ := DataW.trod_string Tryz.underlying9 h2
 simp only [List.cons.injEq, and_true] at e0 e1 e2 e3 e4 e5 e6
 subst e0 e1 e2 e3 e4 e5 e6
 exact ⟨⟨n0, n1, t2, n3, n4, n5, t6⟩, ⟨g2, g6⟩, rfl⟩
theorem reads_ops {H : Type} {enc : TypeId × Value -> H} {W : World} {v : Value} {d : DataW H} {p : List MemPlace} (hv : ∃ a len cap, v = .slice a len cap) (h : DataW.Trod enc Tryz.prog W 0 (fun _ => true) true 37 v d p) :
  ∃ l, ReadsOps W v l /\ (∀ x, x ∈ l -> Small x) /\ l.length <= maxLen := by
 obtain ⟨a0, len0, cap0, rfl⟩ := hv
 obtain ⟨fuel, hf⟩ := h
 rcases Go.Deep.open_slice Tryz.underlying37 hf with ⟨hcs, _⟩ | ⟨a, len, cap, m, n, D, Pl, hcs, _, hl, hm, hmm, _, hx⟩
 ·simp [Value.cells] at hcs
  obtain ⟨rfl, rfl, rfl⟩ := hcs
  exact ⟨[], ⟨none, 0, rfl, Or.inl rfl⟩, by simp, by simp⟩
 ·simp [Value.cells] at hcs
  obtain ⟨rfl, rfl, rfl⟩ := hcs
  simp only [if_true] at hmm
  subst hmm
  rw [cellsOp] at hx
  have hex : ∀ i : Nat, ∃ o : Fop, i < len0 -> Small o /\ W.cells? 0 (a.add (i * 7)) 7 = some (opCells o) := by
   intro i
   by_cases hi : i < len0
   ·obtain ⟨cs', h1, h2⟩ := hx i (by omega)
    obtain ⟨o, ho, rfl⟩ := op_cells h2
    exact ⟨o, fun _ => ⟨ho, h1⟩⟩
   ·exact ⟨⟨0, 0, ⟨#[]⟩, 0, 0, 0, ⟨#[]⟩⟩, fun h => absurd h hi⟩
  let f := fun i => Classical.choose (hex i)
  have hf2 : ∀ i, i < len0 -> Small (f i) /\ W.cells? 0 (a.add (i * 7)) 7 = some (opCells (f i)) := fun i hi => Classical.choose_spec (hex i) hi
  refine ⟨(List.range len0).map f, ⟨some a, m, by simp, ?_⟩, ?_, by simpa using Nat.le_trans hl hm⟩
  ·by_cases h0 : len0 = 0
   ·subst h0; exact Or.inl rfl
   ·right
    obtain ⟨b, off, spot⟩ := a
    have h00 := (World.cells?_some (hf2 0 (by omega)).2).2.2 0 (by omega)
    have h01 : W.cell? ⟨b, off, spot⟩ = some (.int .i64 (f 0).kind) := by simpa [Addr.add, opCells] using h00
    have hspot : spot = none := World.cell?_spot h01
    subst hspot
    refine ⟨b, off, rfl, lt_of_cell h01, ?_⟩
    intro k hk
    have hk' : k < len0 := by simpa using hk
    have hc := (World.cells?_some (hf2 k hk').2).2.2
    have e : ((List.range len0).map f)[k] = f k := by simp
    rw [e]
    have q : ∀ i v, i < 7 -> (opCells (f k))[i]? = some v -> W.cell? ⟨b, off + k * 7 + i, none⟩ = some v := by
     intro i v hi hv
     have := hc i hi
     rw [Go.WideShapes.add_plain, Go.WideShapes.add_plain] at this
     rw [this]; exact hv
    exact ⟨q 0 _ (by omega) rfl, q 1 _ (by omega) rfl, q 2 _ (by omega) rfl, q 3 _ (by omega) rfl, q 4 _ (by omega) rfl, q 5 _ (by omega) rfl, q 6 _ (by omega) rfl⟩
  ·intro x hx
   simp only [List.mem_map, List.mem_range] at hx
   obtain ⟨i, hi, rfl⟩ := hx
   exact (hf2 i hi).1
theorem wf_i64 {n : Int} (h : (Lit.int .i64 n).wf = true) : -9223372036854775808 <= n /\ n <= 9223372036854775807 := by
 have h' : (decide ((-9223372036854775808 : Int) <= n) && decide (n <= 9223372036854775807)) = true := h
 simp only [Bool.and_eq_true, decide_eq_true_eq] at h'
 exact h'
theorem cellsStep : Tryz.prog.cellsOf 48 = 4 := by kernel_rfl
theorem cellsAsk : Tryz.prog.cellsOf 56 = 9 := by kernel_rfl
theorem cellsOpsS : Tryz.prog.cellsOf 37 = 1 := by kernel_rfl
theorem list4 {α : Type} {cs : List α} (h : cs.length = 4) : ∃ c0 c1 c2 c3, cs = [c0, c1, c2, c3] := by
 match cs, h with
 | [c0, c1, c2, c3], _ => exact ⟨c0, c1, c2, c3, rfl⟩
theorem list9 {α : Type} {cs : List α} (h : cs.length = 9) : ∃ c0 c1 c2 c3 c4 c5 c6 c7 c8, cs = [c0, c1, c2, c3, c4, c5, c6, c7, c8] := by
 match cs, h with
 | [c0, c1, c2, c3, c4, c5, c6, c7, c8], _ => exact ⟨c0, c1, c2, c3, c4, c5, c6, c7, c8, rfl⟩
theorem trod_struct5 {H : Type} {enc : TypeId × Value -> H} {P : Program} {w : World} {base : Nat} {spare : Nat -> Bool} {held : Bool} {t : TypeId} {f0 f1 f2 f3 f4 : Field} {fuel : Nat} {cs : List Value} {x : DataW H × List MemPlace} (ht : P.underlying t = some (.struct #[f0, f1, f2, f3, f4])) (h : DataW.trod enc P w base spare held fuel t cs = some x) :
  ∃ y0 y1 y2 y3 y4 n, cs.length = P.cellsOf t /\ DataW.trod enc P w base spare held n f0.type ((cs.drop f0.offset).take (P.cellsOf f0.type)) = some y0 /\ DataW.trod enc P w base spare held n f1.type ((cs.drop f1.offset).take (P.cellsOf f1.type)) = some y1 /\ DataW.trod enc P w base spare held n f2.type ((cs.drop f2.offset).take (P.cellsOf f2.type)) = some y2 /\ DataW.trod enc P w base spare held n f3.type ((cs.drop f3.offset).take (P.cellsOf f3.type)) = some y3 /\ DataW.trod enc P w base spare held n f4.type ((cs.drop f4.offset).take (P.cellsOf f4.type)) = some y4 := by
 obtain ⟨xs, n, _, rfl, hl, hlen, hf⟩ := DataW.trod_struct ht h
 match xs, hlen with
 | [y0, y1, y2, y3, y4], _ => exact ⟨y0, y1, y2, y3, y4, n, hl, by simpa using hf 0 f0 rfl, by simpa using hf 1 f1 rfl, by simpa using hf 2 f2 rfl, by simpa using hf 3 f3 rfl, by simpa using hf 4 f4 rfl⟩
def stepCells (z : StepN) : List Value := [.int .i64 z.what, .int .i64 z.n, .int .i64 z.torn, z.v]
def StepOk (W : World) (z : StepN) : Prop := ReadsOps W z.v z.l /\ z.l.length <= maxLen /\ (∀ x, x ∈ z.l -> Small x) /\ z.n <= 9223372036854775807
theorem step_cells {H : Type} {enc : TypeId × Value -> H} {W : World} {n : Nat} {cs : List Value} {x : DataW H × List MemPlace} (h : DataW.trod enc Tryz.prog W 0 (fun _ => true) true n 48 cs = some x) :
  ∃ z : StepN, StepOk W z /\ cs = stepCells z := by
 obtain ⟨z0, z1, z2, z3, m1, _, hl, k0, k1, k2, k3⟩ := Go.Joins.trod_struct4 Tryz.underlying48 h
 rw [cellsStep] at hl
 obtain ⟨c0, c1, c2, c3, rfl⟩ := list4 hl
 simp only [cellsInt, cellsOpsS, List.drop, List.take] at k0 k1 k2 k3
 obtain ⟨n0, e0, _, _⟩ := DataW.trod_int Tryz.underlying3 k0
 obtain ⟨n1, e1, _, wf1⟩ := DataW.trod_int Tryz.underlying3 k1
 obtain ⟨n2, e2, _, _⟩ := DataW.trod_int Tryz.underlying3 k2
 simp only [List.cons.injEq, and_true] at e0 e1 e2
 subst e0 e1 e2
 have hc3 : ∃ a len cap, c3 = .slice a len cap := by
  rcases Go.Deep.open_slice Tryz.underlying37 k3 with ⟨hcs, _⟩ | ⟨a, len, cap, m, n, D, Pl, hcs, _⟩
  ·simp only [List.cons.injEq, and_true] at hcs
   exact ⟨_, _, _, hcs⟩
  ·simp only [List.cons.injEq, and_true] at hcs
   exact ⟨_, _, _, hcs⟩
 obtain ⟨a, len, cap, rfl⟩ := hc3
 obtain ⟨l, r1, r2, r3⟩ := reads_ops (W := W) (enc := enc) (v := .slice a len cap) (d := z3.1) (p := z3.2) ⟨_, _, _, rfl⟩ ⟨m1, k3⟩
 exact ⟨⟨n0, n1, n2, .slice a len cap, l⟩, ⟨r1, r3, r2, (wf_i64 wf1).2⟩, rfl⟩
theorem reads_steps {H : Type} {enc : TypeId × Value -> H} {W : World} {v : Value} {d : DataW H} {p : List MemPlace} (hv : ∃ a len cap, v = .slice a len cap) (h : DataW.Trod enc Tryz.prog W 0 (fun _ => true) true 22 v d p) :
  ∃ (l : List StepN) (ad : Option Addr) (c : Nat), v = .slice ad l.length c /\ StepsAt W ad l /\ l.length <= maxLen := by
 obtain ⟨a0, len0, cap0, rfl⟩ := hv
 obtain ⟨fuel, hf⟩ := h
 rcases Go.Deep.open_slice Tryz.underlying22 hf with ⟨hcs, _⟩ | ⟨a, len, cap, m, n, D, Pl, hcs, _, hl, hm, hmm, _, hx⟩
 ·simp [Value.cells] at hcs
  obtain ⟨rfl, rfl, rfl⟩ := hcs
  exact ⟨[], none, 0, rfl, fun j hj => by simp at hj, by simp⟩
 ·simp [Value.cells] at hcs
  obtain ⟨rfl, rfl, rfl⟩ := hcs
  simp only [if_true] at hmm
  subst hmm
  rw [cellsStep] at hx
  have hex : ∀ i : Nat, ∃ z : StepN, i < len0 -> StepOk W z /\ W.cells? 0 (a.add (i * 4)) 4 = some (stepCells z) := by
   intro i
   by_cases hi : i < len0
   ·obtain ⟨cs', h1, h2⟩ := hx i (by omega)
    obtain ⟨o, ho, rfl⟩ := step_cells h2
    exact ⟨o, fun _ => ⟨ho, h1⟩⟩
   ·exact ⟨⟨0, 0, 0, .slice none 0 0, []⟩, fun h => absurd h hi⟩
  let f := fun i => Classical.choose (hex i)
  have hf2 : ∀ i, i < len0 -> StepOk W (f i) /\ W.cells? 0 (a.add (i * 4)) 4 = some (stepCells (f i)) := fun i hi => Classical.choose_spec (hex i) hi
  refine ⟨(List.range len0).map f, some a, m, by simp, fun k hk => ?_, by simpa using Nat.le_trans hl hm⟩
  have hk' : k < len0 := by simpa using hk
  obtain ⟨b, off, spot⟩ := a
  have h00 := (World.cells?_some (hf2 0 (by omega)).2).2.2 0 (by omega)
  have h01 : W.cell? ⟨b, off, spot⟩ = some (.int .i64 (f 0).what) := by simpa [Addr.add, stepCells] using h00
  have hspot : spot = none := World.cell?_spot h01
  subst hspot
  have hc := (World.cells?_some (hf2 k hk').2).2.2
  have e : ((List.range len0).map f)[k] = f k := by simp
  rw [e]
  have q : ∀ i v, i < 4 -> (stepCells (f k))[i]? = some v -> W.cell? ⟨b, off + k * 4 + i, none⟩ = some v := by
   intro i v hi hv
   have := hc i hi
   rw [Go.WideShapes.add_plain, Go.WideShapes.add_plain] at this
   rw [this]; exact hv
  obtain ⟨o1, o2, o3, o4⟩ := (hf2 k hk').1
  exact ⟨b, off, rfl, q 0 _ (by omega) rfl, q 1 _ (by omega) rfl, q 2 _ (by omega) rfl, q 3 _ (by omega) rfl, o1, o2, o3, o4⟩
def askCells (z : AskN) : List Value := [.int .i64 z.k.kind, .int .i64 z.k.a, .string z.k.word, .int .i64 z.k.b, .int .i64 z.a, .int .i64 z.b, .int .i64 z.t, .int .i64 z.lo, .int .i64 z.hi]
def AskOk (z : AskN) : Prop := KyOk z.k /\ -9223372036854775808 <= z.t /\ z.t <= 9223372036854775807
theorem ask_cells {H : Type} {enc : TypeId × Value -> H} {W : World} {base n : Nat} {spare : Nat -> Bool} {held : Bool} {cs : List Value} {x : DataW H × List MemPlace} (h : DataW.trod enc Tryz.prog W base spare held n 56 cs = some x) :
  ∃ z : AskN, AskOk z /\ cs = askCells z := by
 obtain ⟨y0, y1, y2, y3, y4, m, hl, h0, h1, h2, h3, h4⟩ := trod_struct5 Tryz.underlying56 h
 rw [cellsAsk] at hl
 obtain ⟨c0, c1, c2, c3, c4, c5, c6, c7, c8, rfl⟩ := list9 hl
 simp only [cellsKey, cellsSpan, cellsInt, List.drop, List.take] at h0 h1 h2 h3 h4
 obtain ⟨z0, z1, z2, z3, m1, _, _, k0, k1, k2, k3⟩ := Go.Joins.trod_struct4 Tryz.underlying32 h0
 simp only [cellsInt, cellsString, List.drop, List.take] at k0 k1 k2 k3
 obtain ⟨s0, s1, m2, _, _, q0, q1⟩ := trod_struct2 Tryz.underlying34 h4
 simp only [cellsInt, List.drop, List.take] at q0 q1
 obtain ⟨n0, e0, _, w0⟩ := DataW.trod_int Tryz.underlying3 k0
 obtain ⟨n1, e1, _, w1⟩ := DataW.trod_int Tryz.underlying3 k1
 obtain ⟨t2, e2, _, g2⟩ := DataW.trod_string Tryz.underlying9 k2
 obtain ⟨n3, e3, _, w3⟩ := DataW.trod_int Tryz.underlying3 k3
 obtain ⟨n4, e4, _, _⟩ := DataW.trod_int Tryz.underlying3 h1
 obtain ⟨n5, e5, _, _⟩ := DataW.trod_int Tryz.underlying3 h2
 obtain ⟨n6, e6, _, w6⟩ := DataW.trod_int Tryz.underlying3 h3
 obtain ⟨n7, e7, _, _⟩ := DataW.trod_int Tryz.underlying3 q0
 obtain ⟨n8, e8, _, _⟩ := DataW.trod_int Tryz.underlying3 q1
 simp only [List.cons.injEq, and_true] at e0 e1 e2 e3 e4 e5 e6 e7 e8
 subst e0 e1 e2 e3 e4 e5 e6 e7 e8
 exact ⟨⟨⟨n0, n1, t2, n3⟩, n4, n5, n6, n7, n8⟩, ⟨⟨w0, w1, w3, g2⟩, wf_i64 w6⟩, rfl⟩
theorem reads_asks {H : Type} {enc : TypeId × Value -> H} {W : World} {v : Value} {d : DataW H} {p : List MemPlace} (hv : ∃ a len cap, v = .slice a len cap) (h : DataW.Trod enc Tryz.prog W 0 (fun _ => true) true 23 v d p) :
  ∃ (l : List AskN) (ad : Option Addr) (c : Nat), v = .slice ad l.length c /\ AsksAt W ad l /\ l.length <= maxLen := by
 obtain ⟨a0, len0, cap0, rfl⟩ := hv
 obtain ⟨fuel, hf⟩ := h
 rcases Go.Deep.open_slice Tryz.underlying23 hf with ⟨hcs, _⟩ | ⟨a, len, cap, m, n, D, Pl, hcs, _, hl, hm, hmm, _, hx⟩
 ·simp [Value.cells] at hcs
  obtain ⟨rfl, rfl, rfl⟩ := hcs
  exact ⟨[], none, 0, rfl, fun j hj => by simp at hj, by simp⟩
 ·simp [Value.cells] at hcs
  obtain ⟨rfl, rfl, rfl⟩ := hcs
  simp only [if_true] at hmm
  subst hmm
  rw [cellsAsk] at hx
  have hex : ∀ i : Nat, ∃ z : AskN, i < len0 -> AskOk z /\ W.cells? 0 (a.add (i * 9)) 9 = some (askCells z) := by
   intro i
   by_cases hi : i < len0
   ·obtain ⟨cs', h1, h2⟩ := hx i (by omega)
    obtain ⟨o, ho, rfl⟩ := ask_cells h2
    exact ⟨o, fun _ => ⟨ho, h1⟩⟩
   ·exact ⟨⟨⟨0, 0, ⟨#[]⟩, 0⟩, 0, 0, 0, 0, 0⟩, fun h => absurd h hi⟩
  let f := fun i => Classical.choose (hex i)
  have hf2 : ∀ i, i < len0 -> AskOk (f i) /\ W.cells? 0 (a.add (i * 9)) 9 = some (askCells (f i)) := fun i hi => Classical.choose_spec (hex i) hi
  refine ⟨(List.range len0).map f, some a, m, by simp, fun k hk => ?_, by simpa using Nat.le_trans hl hm⟩
  have hk' : k < len0 := by simpa using hk
  obtain ⟨b, off, spot⟩ := a
  have h00 := (World.cells?_some (hf2 0 (by omega)).2).2.2 0 (by omega)
  have h01 : W.cell? ⟨b, off, spot⟩ = some (.int .i64 (f 0).k.kind) := by simpa [Addr.add, askCells] using h00
  have hspot : spot = none := World.cell?_spot h01
  subst hspot
  have hc := (World.cells?_some (hf2 k hk').2).2.2
  have e : ((List.range len0).map f)[k] = f k := by simp
  rw [e]
  have q : ∀ i v, i < 9 -> (askCells (f k))[i]? = some v -> W.cell? ⟨b, off + k * 9 + i, none⟩ = some v := by
   intro i v hi hv
   have := hc i hi
   rw [Go.WideShapes.add_plain, Go.WideShapes.add_plain] at this
   rw [this]; exact hv
  obtain ⟨o1, o2, o3⟩ := (hf2 k hk').1
  exact ⟨b, off, rfl, q 0 _ (by omega) rfl, q 1 _ (by omega) rfl, q 2 _ (by omega) rfl, q 3 _ (by omega) rfl, q 4 _ (by omega) rfl, q 5 _ (by omega) rfl, q 6 _ (by omega) rfl, q 7 _ (by omega) rfl, q 8 _ (by omega) rfl, o1, o2, o3⟩
theorem own : ownKnob Tryz.prog.godebug = none := by kernel_rfl
theorem laidOut : laidOutB Tryz.prog = true := by kernel_rfl
theorem errAt : Tryz.prog.globalNamed "errors.errorType" = some 1 := by kernel_rfl
theorem rtypeAt : (Tryz.prog.cutTypes.find? (·.1 == "internal/reflectlite.rtype")).map (·.2) = some 301 := by kernel_rfl
theorem oneRow : ((List.range Tryz.prog.types.size).filter fun t => Tryz.prog.rowNamed t [101, 114, 114, 111, 114]) = [41] := by kernel_rfl
theorem powAt : Tryz.prog.globalNamed "internal/strconv.uint64pow10" = some 4 := by kernel_rfl
theorem powType : (Tryz.prog.globals[4]?).map (·.type) = some 367 := by kernel_rfl
theorem powData : (Rows.laid_internal_strconv_uint64pow10 : DataW Unit) = Lib.tabData .u64 Lib.pow10Tab := by kernel_rfl
theorem errorType_of_handles {W : World} (h : handlesMet Tryz.prog [("errors.errorType", Rows.laid_errors_errorType)] W) : ErrorType W := by
 obtain ⟨name, u, ty, e1, e2, e3, e4, e5⟩ := h _ (List.mem_singleton.2 rfl)
 have en : name = [101, 114, 114, 111, 114] := (Option.some.inj e1).symm
 subst en
 obtain rfl := Option.some.inj (rtypeAt.symm.trans e2)
 have hm : ty ∈ (List.range Tryz.prog.types.size).filter fun t => Tryz.prog.rowNamed t [101, 114, 114, 111, 114] := List.mem_filter.2 ⟨List.mem_range.2 e3, e4⟩
 rw [oneRow] at hm
 obtain rfl := List.mem_singleton.1 hm
 have hh : typeHandle Tryz.prog 41 = .pointer (some ⟨9, 41, none⟩) := by kernel_rfl
 rw [hh] at e5
 simpa [ErrorType] using World.var?_cell errAt e5 0
theorem tab_of_laid {W : World} {rest : List (String × DataW Unit)} (h : laidMet Tryz.prog (("internal/strconv.uint64pow10", Rows.laid_internal_strconv_uint64pow10) :: rest) W) : Tab W := by
 rw [powData] at h
 exact Lib.tabIs_of_head powAt powType Tryz.underlying367 Tryz.underlying259 (by kernel_rfl) (by kernel_rfl) h
theorem rangeAt : Tryz.prog.globalNamed "strconv.ErrRange" = some 3 := by kernel_rfl
theorem syntaxAt : Tryz.prog.globalNamed "strconv.ErrSyntax" = some 2 := by kernel_rfl
theorem rangeType : (Tryz.prog.globals[3]?).map (·.type) = some 41 := by kernel_rfl
theorem syntaxType : (Tryz.prog.globals[2]?).map (·.type) = some 41 := by kernel_rfl
theorem cellsES : Tryz.prog.cellsOf 377 = 1 := by kernel_rfl
theorem cellsStr : Tryz.prog.cellsOf 9 = 1 := by kernel_rfl
theorem starES : "*" ++ "errors.errorString" = "*errors.errorString" := by decide
theorem rowES (u : TypeId) (h : Tryz.prog.typeName? 3 u = some "*errors.errorString") : u = 375 :=
 typeName_ptr_named (nm := "errors.errorString") (by rw [starES]; kernel_rfl) (by kernel_rfl) (by decide) u (by rw [starES]; exact h)
theorem maxLen_cell {W : World} (h : W.ShapedOpen Tryz.prog) : ∃ m, W.cell? ⟨0, 0, none⟩ = some (.int .i64 m) :=
 cell_of_shapedOpen_int (zero := #[.int .i64 0]) (t := 3) h (of_decide_eq_true (by kernel_rfl)) (by kernel_rfl) rfl (by kernel_rfl) (by kernel_rfl) Tryz.underlying3
theorem bp_laid {W : World} (h : laidMetH Tryz.prog Rows.basePlaysRow.laid W) (hsh : W.ShapedOpen Tryz.prog) : Tab W /\ Libs W /\ ErrorType W := by
 have h' : laidMet Tryz.prog [("math/bits.deBruijn32tab", Rows.laid_math_bits_deBruijn32tab), ("math/bits.deBruijn64tab", Rows.laid_math_bits_deBruijn64tab), ("internal/strconv.uint64pow10", Rows.laid_internal_strconv_uint64pow10), ("unicode/utf8.acceptRanges", Rows.laid_unicode_utf8_acceptRanges), ("strconv.ErrRange", Rows.laid_strconv_ErrRange), ("strconv.ErrSyntax", Rows.laid_strconv_ErrSyntax), ("unicode/utf8.first", Rows.laid_unicode_utf8_first)] W /\ handlesMet Tryz.prog [("errors.errorType", Rows.laid_errors_errorType)] W := h
 have h4 := h'.1.tail.tail.tail.tail
 obtain ⟨a0, s0, hv0, _, _, _⟩ := laid_sentinel h4 rangeAt rangeType Tryz.underlying41 rowES Tryz.underlying375 Tryz.underlying377 rfl rfl Tryz.underlying9 cellsES cellsStr
 obtain ⟨a1, s1, hv1, _, _, _⟩ := laid_sentinel h4.tail syntaxAt syntaxType Tryz.underlying41 rowES Tryz.underlying375 Tryz.underlying377 rfl rfl Tryz.underlying9 cellsES cellsStr
 exact ⟨tab_of_laid h'.1.tail.tail, ⟨maxLen_cell hsh, ⟨_, _, hv1⟩, ⟨_, _, hv0⟩⟩, errorType_of_handles h'.2⟩
def db32 : Array Value := ([0, 1, 28, 2, 29, 14, 24, 3, 30, 22, 20, 15, 25, 17, 4, 8, 31, 27, 13, 23, 21, 19, 16, 7, 26, 12, 18, 6, 11, 5, 10, 9] : List Int).map (Value.int .u8) |>.toArray
def db64 : Array Value := ([0, 1, 56, 2, 57, 49, 28, 3, 61, 58, 42, 50, 38, 29, 17, 4, 62, 47, 59, 36, 45, 43, 51, 22, 53, 39, 33, 30, 24, 18, 12, 5, 63, 55, 48, 27, 60, 41, 37, 16, 46, 35, 44, 21, 52, 32, 23, 11, 54, 26, 40, 15, 34, 20, 31, 10, 25, 14, 19, 9, 13, 8, 7, 6] : List Int).map (Value.int .u8) |>.toArray
def rangeS : ByteArray := { data := #[118, 97, 108, 117, 101, 32, 111, 117, 116, 32, 111, 102, 32, 114, 97, 110, 103, 101] }
def syntaxS : ByteArray := { data := #[105, 110, 118, 97, 108, 105, 100, 32, 115, 121, 110, 116, 97, 120] }
def laidWorld2 (n : Nat) (w0 : World) : World :=
 let put := fun (cs : Array Value) (o : Obj) => match o with
  | .cells _ t frozen => Obj.cells cs t frozen
  | o => o
 { w0 with heap := (((((((w0.heap.modify 1 (put #[.iface 301 (.agg #[.pointer (some ⟨9, 41, none⟩)])])).modify 4 (put (Lib.pow10Tab.map fun z => Value.int .u64 z).toArray)).modify 5 (put db32)).modify 6 (put db64)).modify 8 (put ((List.range 16).flatMap fun i => [Value.int .u8 (Lib.accLo i), Value.int .u8 (Lib.accHi i)]).toArray)).modify 7 (put (Lib.firstTab.map fun z => Value.int .u8 z).toArray)).modify 3 (put #[.iface 375 (.pointer (some ⟨n, 0, none⟩))])).modify 2 (put #[.iface 375 (.pointer (some ⟨n + 1, 0, none⟩))]) }
def bpWorld (P : Program) (os : Os) : World := laidWorld2 (World.holding P default ⟨#[], #[], []⟩).heap.size (World.holding P os ⟨#[.cells #[.string rangeS] 377, .cells #[.string syntaxS] 377], #[], []⟩)
def bpArgs : Array Value := #[.slice none 0 0, .slice none 0 0]
theorem bp_met (os : Os) : laidMetH Tryz.prog Rows.basePlaysRow.laid ((bpWorld Tryz.prog os).forCall (fun _ _ => 0) ⟨#[], bpArgs, []⟩).memory :=
 laidMetH_of_parts (laidMet_of_run3 10 (by kernel_rfl) (by kernel_rfl) (by kernel_rfl)) (by kernel_rfl)
theorem bp_witness (os : Os) {H : Type} (enc : TypeId × Value -> H) :
  (OpenSpec.ofChange Rows.basePlaysSpec).preRow enc Tryz.prog Tryz.f5 [] false Rows.basePlaysRow.laid ((bpWorld Tryz.prog os).forCall (fun _ _ => 0) ⟨#[], bpArgs, []⟩).memory bpArgs := by
 have hw : (DataW.whole enc Tryz.prog ((bpWorld Tryz.prog os).forCall (fun _ _ => 0) ⟨#[], bpArgs, []⟩).memory Tryz.f5.params.toList (OpenSpec.ofChange Rows.basePlaysSpec).vars false bpArgs.toList 8).map (fun x => (x.1, x.2.1)) =
   some ([.nil, .nil], []) := by kernel_rfl
 obtain ⟨⟨x1, x2, x3⟩, hx, hx1⟩ := Option.map_eq_some_iff.1 hw
 simp only [Prod.mk.injEq] at hx1
 obtain ⟨rfl, rfl⟩ := hx1
 exact OpenSpec.preRow_of_cond 8 hx (by kernel_rfl) (fun k hk => by cases hk) (by kernel_rfl) (bp_met os)
theorem basePlays_lifted (os : Os) (started : os.Started) (H : Type) (enc : TypeId × Value -> H) (F : Stop.Interp) :
  ReturnsInHanded {} Tryz.checked os 5 .any ((OpenSpec.ofChange Rows.basePlaysSpec).preRow enc Tryz.prog Tryz.f5 [] false Rows.basePlaysRow.laid) (((OpenSpec.ofChange Rows.basePlaysSpec).at F).post enc Tryz.prog Tryz.f5 false true false false) := by
 refine returnsInHanded_of_row (C := Tryz.checked) (s := OpenSpec.ofChange Rows.basePlaysSpec) own started (by kernel_rfl) Tryz.func5
  (witness_row_atRef (enc := enc) (C := Tryz.checked) false (bpWorld Tryz.prog os) bpArgs rfl (by kernel_rfl) (by kernel_rfl) (by kernel_rfl) (bp_witness os enc)) ?_
 intro W base args ds gs before hval0 hW _ _ _ hL hsh _
 have hval : ∀ (j : Nat) t v, Tryz.f5.params[j]? = some t -> args[j]? = some v -> Value.okWide Tryz.prog W .any base t v := hval0
 have hW' := hW
 obtain ⟨p, q, hA0, hV, rfl, _, _⟩ := hW
 have hA : DataW.TrodAll enc Tryz.prog W 0 (fun _ => true) true Tryz.f5.params.toList args.toList ds p := hA0
 rw [Tryz.params5] at hA hval
 obtain ⟨v0, v1, d0, d1, p0, p1, rfl, rfl, rfl, h0, h1⟩ := trodAll_two hA
 obtain ⟨rfl, rfl⟩ := trodVars_none hV
 have lt0 : ∀ x ∈ p0, x.block < W.heap.size := by obtain ⟨m, hm⟩ := h0; exact DataW.trod_lt m _ _ _ hm
 have lt1 : ∀ x ∈ p1, x.block < W.heap.size := by obtain ⟨m, hm⟩ := h1; exact DataW.trod_lt m _ _ _ hm
 obtain ⟨l, ad, c, rfl, rl, _⟩ := reads_steps (okWide_slice Tryz.underlying22 (hval 0 22 v0 rfl rfl)) h0
 obtain ⟨A, ad1, c1, rfl, ra, _⟩ := reads_asks (okWide_slice Tryz.underlying23 (hval 1 23 v1 rfl rfl)) h1
 obtain ⟨hg, hlib, herr⟩ := bp_laid hL hsh
 clear hA0 hval0
 refine (law_base_any W l A ad ad1 c c1 rl ra hg hlib herr).mono fun e W' ⟨he, bel⟩ => ?_
 subst he
 exact ⟨_, rfl, _, _, _, [], _, [], hW', trodAll_mk1 (shut_bool Tryz.underlying4 _), (trodAll_cons_mk (Below.trod laidOut (by kernel_rfl) (of_decide_eq_true (by kernel_rfl)) h0 bel lt0) (trodAll_cons_mk (Below.trod laidOut (by kernel_rfl) (of_decide_eq_true (by kernel_rfl)) h1 bel lt1) trodAll_mk0)), rfl, bel.frame _, fun h => by cases h⟩
/-! The row's closed facts: the four great ones each alone. -/
theorem bp_f1 : (Rows.basePlaysRow.inPlace == Tryz.prog.inPlace 5) = true := by kernel_rfl
theorem bp_f2 : (Rows.basePlaysRow.unfollowed == Tryz.prog.unfollowed 5) = true := by kernel_rfl
theorem bp_f3 : (Rows.basePlaysRow.recurses == Tryz.prog.recurses 5) = true := by kernel_rfl
theorem bp_f4 : (Rows.basePlaysRow.named == Tryz.prog.varsNamed 5) = true := by kernel_rfl
theorem bp_facts : joinedFacts Tryz.prog 5 Tryz.f5 (OpenSpec.ofChange Rows.basePlaysSpec).bare Rows.basePlaysRow = true := by
 unfold joinedFacts
 rw [bp_f1, bp_f2, bp_f3, bp_f4]
 kernel_rfl
theorem basePlays_row_holds : Rows.BasePlaysSaid :=
 OpenClaim.holds_of_cond 5 Tryz.f5 rfl rfl rfl rfl rfl rfl rfl ⟨rfl, rfl, rfl, rfl, rfl⟩ rfl rfl rfl rfl rfl (by kernel_rfl) Tryz.func5 bp_facts
  (of_decide_eq_true (by kernel_rfl)) (by unfold Func.isWrapper; first | (rw [if_pos (by decide +kernel)]; kernel_rfl) | (rw [if_neg (by decide +kernel)]; exact ⟨rfl, rfl⟩))
  (fun os started H enc _ F0 => by rw [OpenClaim.pre_eq_preRow]; exact basePlays_lifted os started H enc F0)
end Go.Proofs.YtfoojmflbifkpaaGreatDoor
