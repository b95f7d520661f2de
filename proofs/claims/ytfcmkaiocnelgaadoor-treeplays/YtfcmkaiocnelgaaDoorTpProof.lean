/- TreePlays returns true, whatever steps and whatever number it is told, and leaves its arguments as they were. -/
import Derived.Test.YtfcmkaiocnelgaaDoorRows
import Derived.Test.YtfcmkaiocnelgaaDoorPtX
import Derived.ProofKit
import Derived.OpenShut
import Derived.ChangeOld
import Derived.ChangeSame
import Derived.ChangeVars
import Derived.JoinedOf
import Derived.RowKit
import Derived.RowKitTokens
import Derived.LaidLaws
import Derived.LaidHandle
import Derived.Stop.Joined
import Derived.Deep.Slices
import Derived.Deep.SlicePairs
import Derived.Deep.Strs
import Derived.Lib.SmallJoins
namespace Go.Proofs.YtfcmkaiocnelgaaDoor
open Go.ChangeShapes Go.WideShapes Go.ChangeAt Go.RowKit Go.Deep

theorem own : ownKnob Tryd.prog.godebug = none := by kernel_rfl
theorem laidOut : laidOutB Tryd.prog = true := by kernel_rfl
theorem errAt : Tryd.prog.globalNamed "errors.errorType" = some 0 := by kernel_rfl
theorem rtypeAt : (Tryd.prog.cutTypes.find? (·.1 == "internal/reflectlite.rtype")).map (·.2) = some 229 := by kernel_rfl
theorem oneRow : ((List.range Tryd.prog.types.size).filter fun t => Tryd.prog.rowNamed t [101, 114, 114, 111, 114]) = [33] := by kernel_rfl
theorem cellsPut : Tryd.prog.cellsOf 80 = 4 := by kernel_rfl
theorem cellsSpan : Tryd.prog.cellsOf 29 = 2 := by kernel_rfl
theorem cellsInt : Tryd.prog.cellsOf 3 = 1 := by kernel_rfl

/-- What the condition gives: the variable's one cell. -/
theorem errorType_of_laid {W : World} (h : laidMetH Tryd.prog Rows.treePlaysRow.laid W) : ErrorType W := by
  have h' : laidMet Tryd.prog [] W ∧ handlesMet Tryd.prog Rows.treePlaysRow.laid W := h
  obtain ⟨name, u, ty, e1, e2, e3, e4, e5⟩ := h'.2 _ (List.mem_singleton.2 rfl)
  have en : name = [101, 114, 114, 111, 114] := (Option.some.inj e1).symm
  subst en
  obtain rfl := Option.some.inj (rtypeAt.symm.trans e2)
  have hm : ty ∈ (List.range Tryd.prog.types.size).filter fun t => Tryd.prog.rowNamed t [101, 114, 114, 111, 114] := List.mem_filter.2 ⟨List.mem_range.2 e3, e4⟩
  rw [oneRow] at hm
  obtain rfl := List.mem_singleton.1 hm
  have hh : typeHandle Tryd.prog 33 = .pointer (some ⟨9, 33, none⟩) := by kernel_rfl
  rw [hh] at e5
  simpa [ErrorType] using World.var?_cell errAt e5 0

theorem list4 {α : Type} {cs : List α} (h : cs.length = 4) : ∃ c0 c1 c2 c3, cs = [c0, c1, c2, c3] := by
  match cs, h with
  | [c0, c1, c2, c3], _ => exact ⟨c0, c1, c2, c3, rfl⟩

/-- The cells of one step that came in. -/
theorem put_cells {H : Type} {enc : TypeId × Value → H} {W : World} {base n : Nat} {spare : Nat → Bool} {held : Bool} {cs : List Value} {x : DataW H × List MemPlace} (h : DataW.trod enc Tryd.prog W base spare held n 80 cs = some x) :
    ∃ p : Put, cs = [.int .i64 p.what, .int .i64 p.id, .int .i64 p.lo, .int .i64 p.hi] ∧ (Lit.int .i64 p.id).wf = true ∧ (Lit.int .i64 p.lo).wf = true := by
  obtain ⟨y0, y1, y2, m, _, hl, h0, h1, h2⟩ := Go.Deep.trod_struct3 Tryd.underlying80 h
  rw [cellsPut] at hl
  obtain ⟨c0, c1, c2, c3, rfl⟩ := list4 hl
  simp only [cellsInt, cellsSpan, List.drop, List.take] at h0 h1 h2
  obtain ⟨s0, s1, m2, _, _, q0, q1⟩ := trod_struct2 Tryd.underlying29 h2
  simp only [cellsInt, List.drop, List.take] at q0 q1
  obtain ⟨n0, e0, _, _⟩ := DataW.trod_int Tryd.underlying3 h0
  obtain ⟨n1, e1, _, g1⟩ := DataW.trod_int Tryd.underlying3 h1
  obtain ⟨n2, e2, _, g2⟩ := DataW.trod_int Tryd.underlying3 q0
  obtain ⟨n3, e3, _, _⟩ := DataW.trod_int Tryd.underlying3 q1
  simp only [List.cons.injEq, and_true] at e0 e1 e2 e3
  subst e0 e1 e2 e3
  exact ⟨⟨n0, n1, n2, n3⟩, rfl, g1, g2⟩

/-- What a slice of steps that came in holds. -/
theorem reads_puts {H : Type} {enc : TypeId × Value → H} {W : World} {v : Value} {d : DataW H} {p : List MemPlace} (hv : ∃ a len cap, v = .slice a len cap) (h : DataW.Trod enc Tryd.prog W 0 (fun _ => true) true 68 v d p) :
    ∃ (l : List Put) (ad : Option Addr) (c : Nat), v = .slice ad l.length c ∧ PutsAt W ad l := by
  obtain ⟨a0, len0, cap0, rfl⟩ := hv
  obtain ⟨fuel, hf⟩ := h
  rcases Go.Deep.open_slice Tryd.underlying68 hf with ⟨hcs, _⟩ | ⟨a, len, cap, m, n, D, Pl, hcs, _, hl, hm, hmm, _, hx⟩
  · simp [Value.cells] at hcs
    obtain ⟨rfl, rfl, rfl⟩ := hcs
    exact ⟨[], none, 0, rfl, fun j hj => by simp at hj⟩
  · simp [Value.cells] at hcs
    obtain ⟨rfl, rfl, rfl⟩ := hcs
    simp only [if_true] at hmm
    subst hmm
    rw [cellsPut] at hx
    have hex : ∀ i : Nat, ∃ o : Put, i < len0 → W.cells? 0 (a.add (i * 4)) 4 = some [.int .i64 o.what, .int .i64 o.id, .int .i64 o.lo, .int .i64 o.hi] ∧ (Lit.int .i64 o.id).wf = true ∧ (Lit.int .i64 o.lo).wf = true := by
      intro i
      by_cases hi : i < len0
      · obtain ⟨cs', h1, h2⟩ := hx i (by omega)
        obtain ⟨o, rfl, ho⟩ := put_cells h2
        exact ⟨o, fun _ => ⟨h1, ho⟩⟩
      · exact ⟨⟨0, 0, 0, 0⟩, fun h => absurd h hi⟩
    let f := fun i => Classical.choose (hex i)
    have hf2 : ∀ i, i < len0 → W.cells? 0 (a.add (i * 4)) 4 = some [.int .i64 (f i).what, .int .i64 (f i).id, .int .i64 (f i).lo, .int .i64 (f i).hi] ∧ (Lit.int .i64 (f i).id).wf = true ∧ (Lit.int .i64 (f i).lo).wf = true := fun i hi => Classical.choose_spec (hex i) hi
    refine ⟨(List.range len0).map f, some a, m, by simp, fun k hk => ?_⟩
    have hk' : k < len0 := by simpa using hk
    obtain ⟨b, off, spot⟩ := a
    have h00 := (World.cells?_some (hf2 0 (by omega)).1).2.2 0 (by omega)
    have h01 : W.cell? ⟨b, off, spot⟩ = some (.int .i64 (f 0).what) := by simpa [Addr.add] using h00
    have hspot : spot = none := World.cell?_spot h01
    subst hspot
    obtain ⟨hc0, w1, w2⟩ := hf2 k hk'
    have hc := (World.cells?_some hc0).2.2
    have e : ((List.range len0).map f)[k] = f k := by simp
    rw [e]
    have q : ∀ i v, i < 4 → ([.int .i64 (f k).what, .int .i64 (f k).id, .int .i64 (f k).lo, .int .i64 (f k).hi] : List Value)[i]? = some v → W.cell? ⟨b, off + k * 4 + i, none⟩ = some v := by
      intro i v hi hv
      have := hc i hi
      rw [Go.WideShapes.add_plain, Go.WideShapes.add_plain] at this
      rw [this]; exact hv
    exact ⟨b, off, rfl, q 0 _ (by omega) rfl, q 1 _ (by omega) rfl, q 2 _ (by omega) rfl, q 3 _ (by omega) rfl, w1, w2⟩

/-- A world that meets the condition: the settled one, the variable's cell laid. -/
def tpWorld (w0 : World) : World :=
  { w0 with heap := w0.heap.modify 0 fun
      | .cells _ t frozen => .cells #[.iface 229 (.agg #[.pointer (some ⟨9, 33, none⟩)])] t frozen
      | o => o }
theorem tpWorld_met (os : Os) (args : Array Value) : laidMetH Tryd.prog Rows.treePlaysRow.laid ((tpWorld (World.holding Tryd.prog os ⟨#[], #[], []⟩)).forCall (fun _ _ => 0) ⟨#[], args, []⟩).memory :=
  laidMetH_of_parts (laidMet_nil _ _) (by kernel_rfl)

set_option maxRecDepth 100000 in
theorem treePlays_lifted (os : Os) (started : os.Started) (H : Type) (enc : TypeId × Value → H) :
    ReturnsInHanded {} Tryd.checked os 6 .any (fun w args => (Rows.treePlaysSpec.pre enc Tryd.prog Tryd.f6 [] false w args ∧ laidMetH Tryd.prog Rows.treePlaysRow.laid w) ∧ sizedMet enc Tryd.prog Tryd.f6 (OpenSpec.ofChange Rows.treePlaysSpec) false w args)
      (Rows.treePlaysSpec.post enc Tryd.prog Tryd.f6 false true false false) := by
  refine returnsInHanded_of_change_and (C := Tryd.checked) (X := fun w _ => laidMetH Tryd.prog Rows.treePlaysRow.laid w) (fun _ _ _ hh h => h.of_heap hh) own started (by kernel_rfl) Tryd.func6
    (ChangeSpec.witness_at (enc := enc) (C := Tryd.checked) (os := os) (X := fun w _ => laidMetH Tryd.prog Rows.treePlaysRow.laid w) false (tpWorld (World.holding Tryd.prog os ⟨#[], #[], []⟩)) #[.slice none 0 0, .int .i64 0] 8 rfl (by kernel_rfl) (by kernel_rfl) (by kernel_rfl) (by kernel_rfl) (by kernel_rfl) (tpWorld_met os _)) ?_
  intro W base args ds gs before hval0 hW _ _ hL _
  have hval : ∀ (j : Nat) t v, Tryd.f6.params[j]? = some t → args[j]? = some v → Value.okWide Tryd.prog W .any base t v := hval0
  have hW' := hW
  obtain ⟨p, q, hA0, hV, rfl, hfz, hnd⟩ := hW
  have hA : DataW.TrodAll enc Tryd.prog W 0 (fun _ => true) true Tryd.f6.params.toList args.toList ds p := hA0
  rw [Tryd.params6] at hA hval
  obtain ⟨v0, v1, d0, d1, p0, p1, rfl, rfl, rfl, h0, h1⟩ := trodAll_two hA
  obtain ⟨rfl, rfl⟩ := trodVars_none hV
  have lt0 : ∀ x ∈ p0, x.block < W.heap.size := by obtain ⟨m, hm⟩ := h0; exact DataW.trod_lt m _ _ _ hm
  obtain ⟨l, ad, c, rfl, rl⟩ := reads_puts (okWide_slice Tryd.underlying68 (hval 0 68 v0 rfl rfl)) h0
  obtain ⟨n, rfl, rfl, rfl, hwn⟩ := open_int Tryd.underlying3 (hval 1 3 v1 rfl rfl) h1
  have hg := errorType_of_laid hL
  clear hA0 hval0
  refine (treePlays_walk l ad c n W rl hg).mono fun e W' ⟨he, bel⟩ => ?_
  subst he
  exact ⟨_, rfl, _, _, _, [], _, [], hW', trodAll_mk1 (shut_bool Tryd.underlying4 _), (trodAll_cons_mk (Below.trod laidOut (by kernel_rfl) (of_decide_eq_true (by kernel_rfl)) h0 bel lt0) (trodAll_cons_mk (shut_int Tryd.underlying3 hwn) trodAll_mk0)), rfl, bel.frame _, fun h => by cases h⟩

theorem treePlays_row_holds : Rows.TreePlaysSaid :=
  OpenClaim.holds_of_wide 6 Tryd.f6 rfl rfl rfl rfl rfl rfl rfl ⟨rfl, rfl, rfl, rfl, rfl⟩ rfl rfl rfl rfl rfl (by kernel_rfl) Tryd.func6 (by kernel_rfl)
    (of_decide_eq_true (by kernel_rfl)) (by unfold Func.isWrapper; first | (rw [if_pos (by decide +kernel)]; kernel_rfl) | (rw [if_neg (by decide +kernel)]; exact ⟨rfl, rfl⟩))
    (fun os started H enc _ => treePlays_lifted os started H enc)

end Go.Proofs.YtfcmkaiocnelgaaDoor
