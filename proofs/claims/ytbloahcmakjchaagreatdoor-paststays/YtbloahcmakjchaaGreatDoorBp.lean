/- Texts of one proof, one behind the other. -/
import Derived.Test.YtbloahcmakjchaaGreatDoorRows
import Derived.Test.YtbloahcmakjchaaGreatDoorBo
import Derived.ProofKit
import Derived.OpenShut
import Derived.ChangeOld
import Derived.ChangeSame
import Derived.ChangeVars
import Derived.JoinedOf
import Derived.RowKit
import Derived.RowKitTokens
import Derived.LaidLaws
import Derived.LaidHandle
import Derived.Stop.Joined
import Derived.Stop.LaidErr
import Derived.Deep.DeepHandedRow
import Derived.Deep.DeepWitnessRowRef
import Derived.Deep.DeepLaidRun
import Derived.Deep.Slices
import Derived.Deep.SlicePairs
import Derived.Deep.Strs
import Derived.Lib.SmallJoins

/- PastStays returns true, whatever it is told, and leaves its arguments as they were. -/
namespace Go.Proofs.YtbloahcmakjchaaGreatDoor
open Go.ChangeShapes Go.WideShapes Go.ChangeAt Go.RowKit Go.Deep

theorem own : ownKnob Tryz.prog.godebug = none := by kernel_rfl
theorem laidOut : laidOutB Tryz.prog = true := by kernel_rfl
theorem powAt : Tryz.prog.globalNamed "internal/strconv.uint64pow10" = some 4 := by kernel_rfl
theorem powType : (Tryz.prog.globals[4]?).map (·.type) = some 356 := by kernel_rfl
theorem powData : (Rows.laid_internal_strconv_uint64pow10 : DataW Unit) = Lib.tabData .u64 Lib.pow10Tab := by kernel_rfl
theorem cellsSay : Tryz.prog.cellsOf 147 = 5 := by kernel_rfl
theorem cellsInt : Tryz.prog.cellsOf 3 = 1 := by kernel_rfl

theorem tab_of_laid {W : World} {rest : List (String × DataW Unit)} (h : laidMet Tryz.prog (("internal/strconv.uint64pow10", Rows.laid_internal_strconv_uint64pow10) :: rest) W) : Tab W := by
  rw [powData] at h
  exact Lib.tabIs_of_head powAt powType Tryz.underlying356 Tryz.underlying274 (by kernel_rfl) (by kernel_rfl) h

theorem list5 {α : Type} {cs : List α} (h : cs.length = 5) : ∃ c0 c1 c2 c3 c4, cs = [c0, c1, c2, c3, c4] := by
  match cs, h with
  | [c0, c1, c2, c3, c4], _ => exact ⟨c0, c1, c2, c3, c4, rfl⟩

section
variable {H : Type} {enc : TypeId × Value → H} {P : Program} {w : World} {base : Nat} {spare : Nat → Bool} {held : Bool}
theorem trod_struct5 {t : TypeId} {f0 f1 f2 f3 f4 : Field} {fuel : Nat} {cs : List Value} {x : DataW H × List MemPlace} (ht : P.underlying t = some (.struct #[f0, f1, f2, f3, f4])) (h : DataW.trod enc P w base spare held fuel t cs = some x) :
    ∃ y0 y1 y2 y3 y4 n, cs.length = P.cellsOf t ∧ DataW.trod enc P w base spare held n f0.type ((cs.drop f0.offset).take (P.cellsOf f0.type)) = some y0 ∧ DataW.trod enc P w base spare held n f1.type ((cs.drop f1.offset).take (P.cellsOf f1.type)) = some y1 ∧ DataW.trod enc P w base spare held n f2.type ((cs.drop f2.offset).take (P.cellsOf f2.type)) = some y2 ∧ DataW.trod enc P w base spare held n f3.type ((cs.drop f3.offset).take (P.cellsOf f3.type)) = some y3 ∧ DataW.trod enc P w base spare held n f4.type ((cs.drop f4.offset).take (P.cellsOf f4.type)) = some y4 := by
  obtain ⟨xs, n, _, rfl, hl, hlen, hf⟩ := DataW.trod_struct ht h
  match xs, hlen with
  | [y0, y1, y2, y3, y4], _ => exact ⟨y0, y1, y2, y3, y4, n, hl, by simpa using hf 0 f0 rfl, by simpa using hf 1 f1 rfl, by simpa using hf 2 f2 rfl, by simpa using hf 3 f3 rfl, by simpa using hf 4 f4 rfl⟩
end

/-- The cells of one change by numbers that came in. -/
theorem say_cells {H : Type} {enc : TypeId × Value → H} {W : World} {base n : Nat} {spare : Nat → Bool} {held : Bool} {cs : List Value} {x : DataW H × List MemPlace} (h : DataW.trod enc Tryz.prog W base spare held n 147 cs = some x) :
    ∃ o : SayN, cs = [.int .i64 o.key, .int .i64 o.from_, .int .i64 o.many, .int .i64 o.value, .int .i64 o.last] := by
  obtain ⟨y0, y1, y2, y3, y4, m, hl, h0, h1, h2, h3, h4⟩ := trod_struct5 Tryz.underlying147 h
  rw [cellsSay] at hl
  obtain ⟨c0, c1, c2, c3, c4, rfl⟩ := list5 hl
  simp only [cellsInt, List.drop, List.take] at h0 h1 h2 h3 h4
  obtain ⟨n0, e0, _, _⟩ := DataW.trod_int Tryz.underlying3 h0
  obtain ⟨n1, e1, _, _⟩ := DataW.trod_int Tryz.underlying3 h1
  obtain ⟨n2, e2, _, _⟩ := DataW.trod_int Tryz.underlying3 h2
  obtain ⟨n3, e3, _, _⟩ := DataW.trod_int Tryz.underlying3 h3
  obtain ⟨n4, e4, _, _⟩ := DataW.trod_int Tryz.underlying3 h4
  simp only [List.cons.injEq, and_true] at e0 e1 e2 e3 e4
  subst e0 e1 e2 e3 e4
  exact ⟨⟨n0, n1, n2, n3, n4⟩, rfl⟩

/-- What a slice of changes by numbers that came in holds. -/
theorem reads_says {H : Type} {enc : TypeId × Value → H} {W : World} {v : Value} {d : DataW H} {p : List MemPlace} (hv : ∃ a len cap, v = .slice a len cap) (h : DataW.Trod enc Tryz.prog W 0 (fun _ => true) true 64 v d p) :
    ∃ (l : List SayN) (ad : Option Addr) (c : Nat), v = .slice ad l.length c ∧ SaysAt W ad l := by
  obtain ⟨a0, len0, cap0, rfl⟩ := hv
  obtain ⟨fuel, hf⟩ := h
  rcases Go.Deep.open_slice Tryz.underlying64 hf with ⟨hcs, _⟩ | ⟨a, len, cap, m, n, D, Pl, hcs, _, hl, hm, hmm, _, hx⟩
  · simp [Value.cells] at hcs
    obtain ⟨rfl, rfl, rfl⟩ := hcs
    exact ⟨[], none, 0, rfl, fun j hj => by simp at hj⟩
  · simp [Value.cells] at hcs
    obtain ⟨rfl, rfl, rfl⟩ := hcs
    simp only [if_true] at hmm
    subst hmm
    rw [cellsSay] at hx
    have hex : ∀ i : Nat, ∃ o : SayN, i < len0 → W.cells? 0 (a.add (i * 5)) 5 = some [.int .i64 o.key, .int .i64 o.from_, .int .i64 o.many, .int .i64 o.value, .int .i64 o.last] := by
      intro i
      by_cases hi : i < len0
      · obtain ⟨cs', h1, h2⟩ := hx i (by omega)
        obtain ⟨o, rfl⟩ := say_cells h2
        exact ⟨o, fun _ => h1⟩
      · exact ⟨⟨0, 0, 0, 0, 0⟩, fun h => absurd h hi⟩
    let f := fun i => Classical.choose (hex i)
    have hf2 : ∀ i, i < len0 → W.cells? 0 (a.add (i * 5)) 5 = some [.int .i64 (f i).key, .int .i64 (f i).from_, .int .i64 (f i).many, .int .i64 (f i).value, .int .i64 (f i).last] := fun i hi => Classical.choose_spec (hex i) hi
    refine ⟨(List.range len0).map f, some a, m, by simp, fun k hk => ?_⟩
    have hk' : k < len0 := by simpa using hk
    obtain ⟨b, off, spot⟩ := a
    have h00 := (World.cells?_some (hf2 0 (by omega))).2.2 0 (by omega)
    have h01 : W.cell? ⟨b, off, spot⟩ = some (.int .i64 (f 0).key) := by simpa [Addr.add] using h00
    have hspot : spot = none := World.cell?_spot h01
    subst hspot
    have hc := (World.cells?_some (hf2 k hk')).2.2
    have e : ((List.range len0).map f)[k] = f k := by simp
    rw [e]
    have q : ∀ i v, i < 5 → ([.int .i64 (f k).key, .int .i64 (f k).from_, .int .i64 (f k).many, .int .i64 (f k).value, .int .i64 (f k).last] : List Value)[i]? = some v → W.cell? ⟨b, off + k * 5 + i, none⟩ = some v := by
      intro i v hi hv
      have := hc i hi
      rw [Go.WideShapes.add_plain, Go.WideShapes.add_plain] at this
      rw [this]; exact hv
    exact ⟨b, off, rfl, q 0 _ (by omega) rfl, q 1 _ (by omega) rfl, q 2 _ (by omega) rfl, q 3 _ (by omega) rfl, q 4 _ (by omega) rfl⟩

theorem sy_laid {W : World} (h : laidMetH Tryz.prog Rows.pastStaysRow.laid W) : Tab W := by
  have h' : laidMet Tryz.prog [("math/bits.deBruijn32tab", Rows.laid_math_bits_deBruijn32tab), ("math/bits.deBruijn64tab", Rows.laid_math_bits_deBruijn64tab), ("internal/strconv.uint64pow10", Rows.laid_internal_strconv_uint64pow10)] W := h
  exact tab_of_laid h'.tail.tail

def db32 : Array Value := ([0, 1, 28, 2, 29, 14, 24, 3, 30, 22, 20, 15, 25, 17, 4, 8, 31, 27, 13, 23, 21, 19, 16, 7, 26, 12, 18, 6, 11, 5, 10, 9] : List Int).map (Value.int .u8) |>.toArray
def db64 : Array Value := ([0, 1, 56, 2, 57, 49, 28, 3, 61, 58, 42, 50, 38, 29, 17, 4, 62, 47, 59, 36, 45, 43, 51, 22, 53, 39, 33, 30, 24, 18, 12, 5, 63, 55, 48, 27, 60, 41, 37, 16, 46, 35, 44, 21, 52, 32, 23, 11, 54, 26, 40, 15, 34, 20, 31, 10, 25, 14, 19, 9, 13, 8, 7, 6] : List Int).map (Value.int .u8) |>.toArray

/-- A world that meets the condition: the settled one, the variables' cells laid. -/
def laidWorld (w0 : World) : World :=
  let put := fun (cs : Array Value) (o : Obj) => match o with
    | .cells _ t frozen => Obj.cells cs t frozen
    | o => o
  { w0 with heap := ((w0.heap.modify 4 (put (Lib.pow10Tab.map fun z => Value.int .u64 z).toArray)).modify 7 (put db32)).modify 8 (put db64) }

/-- .. as the row's start has it. -/
def syWorld (P : Program) (os : Os) : World := laidWorld (World.holding P os ⟨#[], #[], []⟩)
def syArgs : Array Value := #[.slice none 0 0, .int .i64 0]

theorem sy_met (os : Os) : laidMet Tryz.prog Rows.pastStaysRow.laid ((syWorld Tryz.prog os).forCall (fun _ _ => 0) ⟨#[], syArgs, []⟩).memory :=
  laidMet_of_run3 10 (by kernel_rfl) (by kernel_rfl) (by kernel_rfl)

theorem sy_witness (os : Os) {H : Type} (enc : TypeId × Value → H) :
    (OpenSpec.ofChange Rows.pastStaysSpec).preRow enc Tryz.prog Tryz.f5 [] false Rows.pastStaysRow.laid ((syWorld Tryz.prog os).forCall (fun _ _ => 0) ⟨#[], syArgs, []⟩).memory syArgs := by
  have hw : (DataW.whole enc Tryz.prog ((syWorld Tryz.prog os).forCall (fun _ _ => 0) ⟨#[], syArgs, []⟩).memory Tryz.f5.params.toList (OpenSpec.ofChange Rows.pastStaysSpec).vars false syArgs.toList 8).map (fun x => (x.1, x.2.1)) =
      some ([.nil, .lit (.int .i64 0)], []) := by kernel_rfl
  obtain ⟨⟨x1, x2, x3⟩, hx, hx1⟩ := Option.map_eq_some_iff.1 hw
  simp only [Prod.mk.injEq] at hx1
  obtain ⟨rfl, rfl⟩ := hx1
  exact OpenSpec.preRow_of_cond 8 hx (by kernel_rfl) (fun k hk => by cases hk) (by kernel_rfl) (sy_met os)

set_option maxRecDepth 100000 in
theorem pastStays_lifted (os : Os) (started : os.Started) (H : Type) (enc : TypeId × Value → H) (F : Stop.Interp) :
    ReturnsInHanded {} Tryz.checked os 5 .any ((OpenSpec.ofChange Rows.pastStaysSpec).preRow enc Tryz.prog Tryz.f5 [] false Rows.pastStaysRow.laid) (((OpenSpec.ofChange Rows.pastStaysSpec).at F).post enc Tryz.prog Tryz.f5 false true false false) := by
  refine returnsInHanded_of_row (C := Tryz.checked) (s := OpenSpec.ofChange Rows.pastStaysSpec) own started (by kernel_rfl) Tryz.func5
    (witness_row_atRef (enc := enc) (C := Tryz.checked) false (syWorld Tryz.prog os) syArgs rfl (by kernel_rfl) (by kernel_rfl) (by kernel_rfl) (sy_witness os enc)) ?_
  intro W base args ds gs before hval0 hW _ _ _ hL _ _
  have hval : ∀ (j : Nat) t v, Tryz.f5.params[j]? = some t → args[j]? = some v → Value.okWide Tryz.prog W .any base t v := hval0
  have hW' := hW
  obtain ⟨p, q, hA0, hV, rfl, _, _⟩ := hW
  have hA : DataW.TrodAll enc Tryz.prog W 0 (fun _ => true) true Tryz.f5.params.toList args.toList ds p := hA0
  rw [Tryz.params5] at hA hval
  obtain ⟨v0, v1, d0, d1, p0, p1, rfl, rfl, rfl, h0, h1⟩ := trodAll_two hA
  obtain ⟨rfl, rfl⟩ := trodVars_none hV
  have lt0 : ∀ x ∈ p0, x.block < W.heap.size := by obtain ⟨m, hm⟩ := h0; exact DataW.trod_lt m _ _ _ hm
  obtain ⟨l, ad, c, rfl, rl⟩ := reads_says (okWide_slice Tryz.underlying64 (hval 0 64 v0 rfl rfl)) h0
  obtain ⟨n, rfl, rfl, rfl, hwn⟩ := open_int Tryz.underlying3 (hval 1 3 v1 rfl rfl) h1
  have hg := sy_laid hL
  clear hA0 hval0
  refine (past_stays l ad c n W rl hg).mono fun e W' ⟨he, bel⟩ => ?_
  subst he
  exact ⟨_, rfl, _, _, _, [], _, [], hW', trodAll_mk1 (shut_bool Tryz.underlying4 _), (trodAll_cons_mk (Below.trod laidOut (by kernel_rfl) (of_decide_eq_true (by kernel_rfl)) h0 bel lt0) (trodAll_cons_mk (shut_int Tryz.underlying3 hwn) trodAll_mk0)), rfl, bel.frame _, fun h => by cases h⟩

/-! The row's closed facts: the four great ones each alone. -/
theorem sy_f1 : (Rows.pastStaysRow.inPlace == Tryz.prog.inPlace 5) = true := by kernel_rfl
theorem sy_f2 : (Rows.pastStaysRow.unfollowed == Tryz.prog.unfollowed 5) = true := by kernel_rfl
theorem sy_f3 : (Rows.pastStaysRow.recurses == Tryz.prog.recurses 5) = true := by kernel_rfl
theorem sy_f4 : (Rows.pastStaysRow.named == Tryz.prog.varsNamed 5) = true := by kernel_rfl
theorem sy_facts : joinedFacts Tryz.prog 5 Tryz.f5 (OpenSpec.ofChange Rows.pastStaysSpec).bare Rows.pastStaysRow = true := by
  unfold joinedFacts
  rw [sy_f1, sy_f2, sy_f3, sy_f4]
  kernel_rfl

theorem pastStays_row_holds : Rows.PastStaysSaid :=
  OpenClaim.holds_of_cond 5 Tryz.f5 rfl rfl rfl rfl rfl rfl rfl ⟨rfl, rfl, rfl, rfl, rfl⟩ rfl rfl rfl rfl rfl (by kernel_rfl) Tryz.func5 sy_facts
    (of_decide_eq_true (by kernel_rfl)) (by unfold Func.isWrapper; first | (rw [if_pos (by decide +kernel)]; kernel_rfl) | (rw [if_neg (by decide +kernel)]; exact ⟨rfl, rfl⟩))
    (fun os started H enc _ F0 => by rw [OpenClaim.pre_eq_preRow]; exact pastStays_lifted os started H enc F0)

end Go.Proofs.YtbloahcmakjchaaGreatDoor
