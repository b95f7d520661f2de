/- Texts of one proof, one behind the other. -/
import Derived.Test.YtfoojmflbifkpaaGreatDoorRows
import Derived.Test.YtfoojmflbifkpaaGreatDoorCr
import Derived.ProofKit
import Derived.OpenShut
import Derived.ChangeOld
import Derived.ChangeSame
import Derived.ChangeVars
import Derived.JoinedOf
import Derived.RowKit
import Derived.RowKitTokens
import Derived.LaidLaws
import Derived.LaidHandle
import Derived.Stop.Joined
import Derived.Stop.LaidErr
import Derived.Deep.DeepHandedRow
import Derived.Deep.DeepWitnessRowRef
import Derived.Deep.DeepLaidRun
import Derived.Deep.Slices
import Derived.Deep.SlicePairs
import Derived.Deep.Strs
import Derived.Lib.SmallJoins

/- PastPlays returns true, whatever it is told, and leaves its arguments as they were. -/
namespace Go.Proofs.YtfoojmflbifkpaaGreatDoor
open Go.ChangeShapes Go.WideShapes Go.ChangeAt Go.RowKit Go.Deep

theorem own : ownKnob Tryz.prog.godebug = none := by kernel_rfl
theorem laidOut : laidOutB Tryz.prog = true := by kernel_rfl
theorem errAt : Tryz.prog.globalNamed "errors.errorType" = some 1 := by kernel_rfl
theorem rtypeAt : (Tryz.prog.cutTypes.find? (·.1 == "internal/reflectlite.rtype")).map (·.2) = some 301 := by kernel_rfl
theorem oneRow : ((List.range Tryz.prog.types.size).filter fun t => Tryz.prog.rowNamed t [101, 114, 114, 111, 114]) = [41] := by kernel_rfl
theorem powAt : Tryz.prog.globalNamed "internal/strconv.uint64pow10" = some 4 := by kernel_rfl
theorem powType : (Tryz.prog.globals[4]?).map (·.type) = some 367 := by kernel_rfl
theorem powData : (Rows.laid_internal_strconv_uint64pow10 : DataW Unit) = Lib.tabData .u64 Lib.pow10Tab := by kernel_rfl

/-- What the condition gives: the variable's one cell. -/
theorem errorType_of_handles {W : World} (h : handlesMet Tryz.prog [("errors.errorType", Rows.laid_errors_errorType)] W) : ErrorType W := by
  obtain ⟨name, u, ty, e1, e2, e3, e4, e5⟩ := h _ (List.mem_singleton.2 rfl)
  have en : name = [101, 114, 114, 111, 114] := (Option.some.inj e1).symm
  subst en
  obtain rfl := Option.some.inj (rtypeAt.symm.trans e2)
  have hm : ty ∈ (List.range Tryz.prog.types.size).filter fun t => Tryz.prog.rowNamed t [101, 114, 114, 111, 114] := List.mem_filter.2 ⟨List.mem_range.2 e3, e4⟩
  rw [oneRow] at hm
  obtain rfl := List.mem_singleton.1 hm
  have hh : typeHandle Tryz.prog 41 = .pointer (some ⟨9, 41, none⟩) := by kernel_rfl
  rw [hh] at e5
  simpa [ErrorType] using World.var?_cell errAt e5 0

theorem tab_of_laid {W : World} {rest : List (String × DataW Unit)} (h : laidMet Tryz.prog (("internal/strconv.uint64pow10", Rows.laid_internal_strconv_uint64pow10) :: rest) W) : Tab W := by
  rw [powData] at h
  exact Lib.tabIs_of_head powAt powType Tryz.underlying367 Tryz.underlying259 (by kernel_rfl) (by kernel_rfl) h

theorem pp_laid {W : World} (h : laidMetH Tryz.prog Rows.pastPlaysRow.laid W) : Tab W ∧ ErrorType W := by
  have h' : laidMet Tryz.prog [("math/bits.deBruijn32tab", Rows.laid_math_bits_deBruijn32tab), ("math/bits.deBruijn64tab", Rows.laid_math_bits_deBruijn64tab), ("internal/strconv.uint64pow10", Rows.laid_internal_strconv_uint64pow10)] W ∧ handlesMet Tryz.prog [("errors.errorType", Rows.laid_errors_errorType)] W := h
  exact ⟨tab_of_laid h'.1.tail.tail, errorType_of_handles h'.2⟩

def db32 : Array Value := ([0, 1, 28, 2, 29, 14, 24, 3, 30, 22, 20, 15, 25, 17, 4, 8, 31, 27, 13, 23, 21, 19, 16, 7, 26, 12, 18, 6, 11, 5, 10, 9] : List Int).map (Value.int .u8) |>.toArray
def db64 : Array Value := ([0, 1, 56, 2, 57, 49, 28, 3, 61, 58, 42, 50, 38, 29, 17, 4, 62, 47, 59, 36, 45, 43, 51, 22, 53, 39, 33, 30, 24, 18, 12, 5, 63, 55, 48, 27, 60, 41, 37, 16, 46, 35, 44, 21, 52, 32, 23, 11, 54, 26, 40, 15, 34, 20, 31, 10, 25, 14, 19, 9, 13, 8, 7, 6] : List Int).map (Value.int .u8) |>.toArray

/-- A world that meets the condition: the settled one, the variables' cells laid. -/
def laidWorld (w0 : World) : World :=
  let put := fun (cs : Array Value) (o : Obj) => match o with
    | .cells _ t frozen => Obj.cells cs t frozen
    | o => o
  { w0 with heap := (((w0.heap.modify 1 (put #[.iface 301 (.agg #[.pointer (some ⟨9, 41, none⟩)])])).modify 4 (put (Lib.pow10Tab.map fun z => Value.int .u64 z).toArray)).modify 5 (put db32)).modify 6 (put db64) }

/-- .. as the row's start has it. -/
def ppWorld (P : Program) (os : Os) : World := laidWorld (World.holding P os ⟨#[], #[], []⟩)
def ppArgs : Array Value := #[.slice none 0 0, .slice none 0 0, .int .i64 0]

theorem pp_met (os : Os) : laidMetH Tryz.prog Rows.pastPlaysRow.laid ((ppWorld Tryz.prog os).forCall (fun _ _ => 0) ⟨#[], ppArgs, []⟩).memory :=
  laidMetH_of_parts (laidMet_of_run3 10 (by kernel_rfl) (by kernel_rfl) (by kernel_rfl)) (by kernel_rfl)

theorem pp_witness (os : Os) {H : Type} (enc : TypeId × Value → H) :
    (OpenSpec.ofChange Rows.pastPlaysSpec).preRow enc Tryz.prog Tryz.f3 [] false Rows.pastPlaysRow.laid ((ppWorld Tryz.prog os).forCall (fun _ _ => 0) ⟨#[], ppArgs, []⟩).memory ppArgs := by
  have hw : (DataW.whole enc Tryz.prog ((ppWorld Tryz.prog os).forCall (fun _ _ => 0) ⟨#[], ppArgs, []⟩).memory Tryz.f3.params.toList (OpenSpec.ofChange Rows.pastPlaysSpec).vars false ppArgs.toList 8).map (fun x => (x.1, x.2.1)) =
      some ([.nil, .nil, .lit (.int .i64 0)], []) := by kernel_rfl
  obtain ⟨⟨x1, x2, x3⟩, hx, hx1⟩ := Option.map_eq_some_iff.1 hw
  simp only [Prod.mk.injEq] at hx1
  obtain ⟨rfl, rfl⟩ := hx1
  exact OpenSpec.preRow_of_cond 8 hx (by kernel_rfl) (fun k hk => by cases hk) (by kernel_rfl) (pp_met os)

set_option maxRecDepth 100000 in
theorem pastPlays_lifted (os : Os) (started : os.Started) (H : Type) (enc : TypeId × Value → H) (F : Stop.Interp) :
    ReturnsInHanded {} Tryz.checked os 3 .any ((OpenSpec.ofChange Rows.pastPlaysSpec).preRow enc Tryz.prog Tryz.f3 [] false Rows.pastPlaysRow.laid) (((OpenSpec.ofChange Rows.pastPlaysSpec).at F).post enc Tryz.prog Tryz.f3 false true false false) := by
  refine returnsInHanded_of_row (C := Tryz.checked) (s := OpenSpec.ofChange Rows.pastPlaysSpec) own started (by kernel_rfl) Tryz.func3
    (witness_row_atRef (enc := enc) (C := Tryz.checked) false (ppWorld Tryz.prog os) ppArgs rfl (by kernel_rfl) (by kernel_rfl) (by kernel_rfl) (pp_witness os enc)) ?_
  intro W base args ds gs before hval0 hW _ _ _ hL _ _
  have hval : ∀ (j : Nat) t v, Tryz.f3.params[j]? = some t → args[j]? = some v → Value.okWide Tryz.prog W .any base t v := hval0
  have hW' := hW
  obtain ⟨p, q, hA0, hV, rfl, _, _⟩ := hW
  have hA : DataW.TrodAll enc Tryz.prog W 0 (fun _ => true) true Tryz.f3.params.toList args.toList ds p := hA0
  rw [Tryz.params3] at hA hval
  obtain ⟨v0, v1, v2, d0, d1, d2, p0, p1, p2, rfl, rfl, rfl, h0, h1, h2⟩ := trodAll_three hA
  obtain ⟨rfl, rfl⟩ := trodVars_none hV
  have lt0 : ∀ x ∈ p0, x.block < W.heap.size := by obtain ⟨m, hm⟩ := h0; exact DataW.trod_lt m _ _ _ hm
  have lt1 : ∀ x ∈ p1, x.block < W.heap.size := by obtain ⟨m, hm⟩ := h1; exact DataW.trod_lt m _ _ _ hm
  obtain ⟨l, ad, c, rfl, rl, _⟩ := reads_steps (okWide_slice Tryz.underlying22 (hval 0 22 v0 rfl rfl)) h0
  obtain ⟨A, ad1, c1, rfl, ra, _⟩ := reads_asks (okWide_slice Tryz.underlying23 (hval 1 23 v1 rfl rfl)) h1
  obtain ⟨n, rfl, rfl, rfl, hwn⟩ := open_int Tryz.underlying3 (hval 2 3 v2 rfl rfl) h2
  obtain ⟨hg, herr⟩ := pp_laid hL
  clear hA0 hval0
  refine (law_past_any W l A n ad ad1 c c1 rl ra hg herr).mono fun e W' ⟨he, bel⟩ => ?_
  subst he
  exact ⟨_, rfl, _, _, _, [], _, [], hW', trodAll_mk1 (shut_bool Tryz.underlying4 _), (trodAll_cons_mk (Below.trod laidOut (by kernel_rfl) (of_decide_eq_true (by kernel_rfl)) h0 bel lt0) (trodAll_cons_mk (Below.trod laidOut (by kernel_rfl) (of_decide_eq_true (by kernel_rfl)) h1 bel lt1) (trodAll_cons_mk (shut_int Tryz.underlying3 hwn) trodAll_mk0))), rfl, bel.frame _, fun h => by cases h⟩

/-! The row's closed facts: the four great ones each alone. -/
theorem pp_f1 : (Rows.pastPlaysRow.inPlace == Tryz.prog.inPlace 3) = true := by kernel_rfl
theorem pp_f2 : (Rows.pastPlaysRow.unfollowed == Tryz.prog.unfollowed 3) = true := by kernel_rfl
theorem pp_f3 : (Rows.pastPlaysRow.recurses == Tryz.prog.recurses 3) = true := by kernel_rfl
theorem pp_f4 : (Rows.pastPlaysRow.named == Tryz.prog.varsNamed 3) = true := by kernel_rfl
theorem pp_facts : joinedFacts Tryz.prog 3 Tryz.f3 (OpenSpec.ofChange Rows.pastPlaysSpec).bare Rows.pastPlaysRow = true := by
  unfold joinedFacts
  rw [pp_f1, pp_f2, pp_f3, pp_f4]
  kernel_rfl

theorem pastPlays_row_holds : Rows.PastPlaysSaid :=
  OpenClaim.holds_of_cond 3 Tryz.f3 rfl rfl rfl rfl rfl rfl rfl ⟨rfl, rfl, rfl, rfl, rfl⟩ rfl rfl rfl rfl rfl (by kernel_rfl) Tryz.func3 pp_facts
    (of_decide_eq_true (by kernel_rfl)) (by unfold Func.isWrapper; first | (rw [if_pos (by decide +kernel)]; kernel_rfl) | (rw [if_neg (by decide +kernel)]; exact ⟨rfl, rfl⟩))
    (fun os started H enc _ F0 => by rw [OpenClaim.pre_eq_preRow]; exact pastPlays_lifted os started H enc F0)

end Go.Proofs.YtfoojmflbifkpaaGreatDoor
