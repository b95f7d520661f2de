/- Texts of one proof, one behind the other. -/
import Derived.Test.YtbmkmfoaoganeaaGreatDoorRows
import Derived.Test.YtbmkmfoaoganeaaGreatDoorQg
import Derived.ProofKit
import Derived.OpenShut
import Derived.ChangeOld
import Derived.ChangeSame
import Derived.ChangeVars
import Derived.JoinedOf
import Derived.RowKit
import Derived.RowKitTokens
import Derived.LaidLaws
import Derived.LaidHandle
import Derived.Stop.Joined
import Derived.Stop.LaidErr
import Derived.Deep.DeepHandedRow
import Derived.Deep.DeepWitnessRowRef
import Derived.Deep.DeepLaidRun
import Derived.Deep.Slices
import Derived.Deep.SlicePairs
import Derived.Deep.Strs
import Derived.Lib.SmallJoins
import Derived.Shelf.Vars
import Derived.Lib.LaidU8
import Derived.Carry
import Derived.SizedLaws
set_option maxRecDepth 100000
set_option maxHeartbeats 16000000
namespace Go.Proofs.YtbmkmfoaoganeaaGreatDoor
open Go.ChangeShapes Go.WideShapes Go.ChangeAt Go.RowKit Go.Deep
open Go.ChangeMaps (open_string)
theorem own : ownKnob Tryz.prog.godebug = none := by kernel_rfl
theorem laidOut : laidOutB Tryz.prog = true := by kernel_rfl
theorem errAt : Tryz.prog.globalNamed "errors.errorType" = some 2 := by kernel_rfl
theorem rtypeAt : (Tryz.prog.cutTypes.find? (·.1 == "internal/reflectlite.rtype")).map (·.2) = some 285 := by kernel_rfl
theorem oneRow : ((List.range Tryz.prog.types.size).filter fun t => Tryz.prog.rowNamed t [101, 114, 114, 111, 114]) = [36] := by kernel_rfl
theorem powAt : Tryz.prog.globalNamed "internal/strconv.uint64pow10" = some 1 := by kernel_rfl
theorem powType : (Tryz.prog.globals[1]?).map (·.type) = some 224 := by kernel_rfl
theorem powData : (Rows.laid_internal_strconv_uint64pow10 : DataW Unit) = Lib.tabData .u64 Lib.pow10Tab := by kernel_rfl
theorem errorType_of_handles {W : World} (h : handlesMet Tryz.prog [("errors.errorType", Rows.laid_errors_errorType)] W) : ErrorType W := by
 obtain ⟨name, u, ty, e1, e2, e3, e4, e5⟩ := h _ (List.mem_singleton.2 rfl)
 have en : name = [101, 114, 114, 111, 114] := (Option.some.inj e1).symm
 subst en
 obtain rfl := Option.some.inj (rtypeAt.symm.trans e2)
 have hm : ty ∈ (List.range Tryz.prog.types.size).filter fun t => Tryz.prog.rowNamed t [101, 114, 114, 111, 114] := List.mem_filter.2 ⟨List.mem_range.2 e3, e4⟩
 rw [oneRow] at hm
 obtain rfl := List.mem_singleton.1 hm
 have hh : typeHandle Tryz.prog 36 = .pointer (some ⟨9, 36, none⟩) := by kernel_rfl
 rw [hh] at e5
 simpa [ErrorType] using World.var?_cell errAt e5 0
theorem tab_of_laid {W : World} {rest : List (String × DataW Unit)} (h : laidMet Tryz.prog (("internal/strconv.uint64pow10", Rows.laid_internal_strconv_uint64pow10) :: rest) W) : Tab W := by
 rw [powData] at h
 exact Lib.tabIs_of_head powAt powType Tryz.underlying224 Tryz.underlying178 (by kernel_rfl) (by kernel_rfl) h
theorem rangeAt : Tryz.prog.globalNamed "strconv.ErrRange" = some 4 := by kernel_rfl
theorem syntaxAt : Tryz.prog.globalNamed "strconv.ErrSyntax" = some 3 := by kernel_rfl
theorem rangeType : (Tryz.prog.globals[4]?).map (·.type) = some 36 := by kernel_rfl
theorem syntaxType : (Tryz.prog.globals[3]?).map (·.type) = some 36 := by kernel_rfl
theorem cellsES : Tryz.prog.cellsOf 316 = 1 := by kernel_rfl
theorem cellsStr : Tryz.prog.cellsOf 9 = 1 := by kernel_rfl
theorem starES : "*" ++ "errors.errorString" = "*errors.errorString" := by decide
theorem rowES (u : TypeId) (h : Tryz.prog.typeName? 3 u = some "*errors.errorString") : u = 314 :=
 typeName_ptr_named (nm := "errors.errorString") (by rw [starES]; kernel_rfl) (by kernel_rfl) (by decide) u (by rw [starES]; exact h)
theorem maxLen_cell {W : World} (h : W.ShapedOpen Tryz.prog) : ∃ m, W.cell? ⟨0, 0, none⟩ = some (.int .i64 m) :=
 cell_of_shapedOpen_int (zero := #[.int .i64 0]) (t := 3) h (of_decide_eq_true (by kernel_rfl)) (by kernel_rfl) rfl (by kernel_rfl) (by kernel_rfl) Tryz.underlying3
theorem dp_laid {W : World} (h : laidMetH Tryz.prog Rows.deskPiecesRow.laid W) (hsh : W.ShapedOpen Tryz.prog) : Tab W /\ Libs W /\ ErrorType W := by
 have h' : laidMet Tryz.prog [("math/bits.deBruijn32tab", Rows.laid_math_bits_deBruijn32tab), ("math/bits.deBruijn64tab", Rows.laid_math_bits_deBruijn64tab), ("internal/strconv.uint64pow10", Rows.laid_internal_strconv_uint64pow10), ("unicode/utf8.acceptRanges", Rows.laid_unicode_utf8_acceptRanges), ("strconv.ErrRange", Rows.laid_strconv_ErrRange), ("strconv.ErrSyntax", Rows.laid_strconv_ErrSyntax), ("unicode/utf8.first", Rows.laid_unicode_utf8_first)] W /\ handlesMet Tryz.prog [("errors.errorType", Rows.laid_errors_errorType)] W := h
 have h4 := h'.1.tail.tail.tail.tail
 obtain ⟨a0, s0, hv0, _, _, _⟩ := laid_sentinel h4 rangeAt rangeType Tryz.underlying36 rowES Tryz.underlying314 Tryz.underlying316 rfl rfl Tryz.underlying9 cellsES cellsStr
 obtain ⟨a1, s1, hv1, _, _, _⟩ := laid_sentinel h4.tail syntaxAt syntaxType Tryz.underlying36 rowES Tryz.underlying314 Tryz.underlying316 rfl rfl Tryz.underlying9 cellsES cellsStr
 exact ⟨tab_of_laid h'.1.tail.tail, ⟨maxLen_cell hsh, ⟨_, _, hv1⟩, ⟨_, _, hv0⟩⟩, errorType_of_handles h'.2⟩
def db32 : Array Value := ([0, 1, 28, 2, 29, 14, 24, 3, 30, 22, 20, 15, 25, 17, 4, 8, 31, 27, 13, 23, 21, 19, 16, 7, 26, 12, 18, 6, 11, 5, 10, 9] : List Int).map (Value.int .u8) |>.toArray
def db64 : Array Value := ([0, 1, 56, 2, 57, 49, 28, 3, 61, 58, 42, 50, 38, 29, 17, 4, 62, 47, 59, 36, 45, 43, 51, 22, 53, 39, 33, 30, 24, 18, 12, 5, 63, 55, 48, 27, 60, 41, 37, 16, 46, 35, 44, 21, 52, 32, 23, 11, 54, 26, 40, 15, 34, 20, 31, 10, 25, 14, 19, 9, 13, 8, 7, 6] : List Int).map (Value.int .u8) |>.toArray
def rangeS : ByteArray := { data := #[118, 97, 108, 117, 101, 32, 111, 117, 116, 32, 111, 102, 32, 114, 97, 110, 103, 101] }
def syntaxS : ByteArray := { data := #[105, 110, 118, 97, 108, 105, 100, 32, 115, 121, 110, 116, 97, 120] }
def laidWorld2 (n : Nat) (w0 : World) : World :=
 let put := fun (cs : Array Value) (o : Obj) => match o with
  | .cells _ t frozen => Obj.cells cs t frozen
  | o => o
 { w0 with heap := (((((((w0.heap.modify 2 (put #[.iface 285 (.agg #[.pointer (some ⟨9, 36, none⟩)])])).modify 1 (put (Lib.pow10Tab.map fun z => Value.int .u64 z).toArray)).modify 5 (put db32)).modify 6 (put db64)).modify 8 (put ((List.range 16).flatMap fun i => [Value.int .u8 (Lib.accLo i), Value.int .u8 (Lib.accHi i)]).toArray)).modify 7 (put (Lib.firstTab.map fun z => Value.int .u8 z).toArray)).modify 4 (put #[.iface 314 (.pointer (some ⟨n, 0, none⟩))])).modify 3 (put #[.iface 314 (.pointer (some ⟨n + 1, 0, none⟩))]) }
def dpWorld (P : Program) (os : Os) : World := laidWorld2 (World.holding P default ⟨#[], #[], []⟩).heap.size (World.holding P os ⟨#[.cells #[.string rangeS] 316, .cells #[.string syntaxS] 316], #[], []⟩)
def dpArgs : Array Value := #[.string ⟨#[]⟩, .string ⟨#[]⟩]
theorem dp_met (os : Os) : laidMetH Tryz.prog Rows.deskPiecesRow.laid ((dpWorld Tryz.prog os).forCall (fun _ _ => 0) ⟨#[], dpArgs, []⟩).memory :=
 laidMetH_of_parts (laidMet_of_run3 10 (by kernel_rfl) (by kernel_rfl) (by kernel_rfl)) (by kernel_rfl)
theorem dp_witness (os : Os) {H : Type} (enc : TypeId × Value -> H) :
  (OpenSpec.ofChange Rows.deskPiecesSpec).preRow enc Tryz.prog Tryz.f3 [] false Rows.deskPiecesRow.laid ((dpWorld Tryz.prog os).forCall (fun _ _ => 0) ⟨#[], dpArgs, []⟩).memory dpArgs := by
 have hw : (DataW.whole enc Tryz.prog ((dpWorld Tryz.prog os).forCall (fun _ _ => 0) ⟨#[], dpArgs, []⟩).memory Tryz.f3.params.toList (OpenSpec.ofChange Rows.deskPiecesSpec).vars false dpArgs.toList 8).map (fun x => (x.1, x.2.1)) =
   some ([.lit (.string []), .lit (.string [])], []) := by kernel_rfl
 obtain ⟨⟨x1, x2, x3⟩, hx, hx1⟩ := Option.map_eq_some_iff.1 hw
 simp only [Prod.mk.injEq] at hx1
 obtain ⟨rfl, rfl⟩ := hx1
 exact OpenSpec.preRow_of_cond 8 hx (by kernel_rfl) (fun k hk => by cases hk) (by kernel_rfl) (dp_met os)
theorem deskPieces_lifted (os : Os) (started : os.Started) (H : Type) (enc : TypeId × Value -> H) (F : Stop.Interp) :
  ReturnsInHanded {} Tryz.checked os 3 .any ((OpenSpec.ofChange Rows.deskPiecesSpec).preRow enc Tryz.prog Tryz.f3 [] false Rows.deskPiecesRow.laid) (((OpenSpec.ofChange Rows.deskPiecesSpec).at F).post enc Tryz.prog Tryz.f3 false true false false) := by
 refine returnsInHanded_of_row (C := Tryz.checked) (s := OpenSpec.ofChange Rows.deskPiecesSpec) own started (by kernel_rfl) Tryz.func3
  (witness_row_atRef (enc := enc) (C := Tryz.checked) false (dpWorld Tryz.prog os) dpArgs rfl (by kernel_rfl) (by kernel_rfl) (by kernel_rfl) (dp_witness os enc)) ?_
 intro W base args ds gs before hval0 hW _ _ hsz hL hsh _
 have hval : ∀ (j : Nat) t v, Tryz.f3.params[j]? = some t -> args[j]? = some v -> Value.okWide Tryz.prog W .any base t v := hval0
 have hW' := hW
 obtain ⟨p, q, hA0, hV, rfl, _, _⟩ := hW
 have hA : DataW.TrodAll enc Tryz.prog W 0 (fun _ => true) true Tryz.f3.params.toList args.toList ds p := hA0
 rw [Tryz.params3] at hA hval
 obtain ⟨v0, v1, d0, d1, p0, p1, rfl, rfl, rfl, h0, h1⟩ := trodAll_two hA
 obtain ⟨rfl, rfl⟩ := trodVars_none hV
 have lt0 : ∀ x ∈ p0, x.block < W.heap.size := by obtain ⟨m, hm⟩ := h0; exact DataW.trod_lt m _ _ _ hm
 have lt1 : ∀ x ∈ p1, x.block < W.heap.size := by obtain ⟨m, hm⟩ := h1; exact DataW.trod_lt m _ _ _ hm
 obtain ⟨a, rfl, rfl, rfl, _⟩ := open_string Tryz.underlying9 (hval 0 9 v0 rfl rfl) h0
 obtain ⟨b, rfl, rfl, rfl, _⟩ := open_string Tryz.underlying9 (hval 1 9 v1 rfl rfl) h1
 have ha : a.size <= 140737488355328 := by
  have h1 : a.data.toList.length <= reachBytes := sized_string hsz (j := 0) (t := 9) rfl rfl
  have h2 : a.data.toList.length = a.size := Array.length_toList
  have h3 := reachBytes_lt
  omega
 have hb : b.size <= 140737488355328 := by
  have h1 : b.data.toList.length <= reachBytes := sized_string hsz (j := 1) (t := 9) rfl rfl
  have h2 : b.data.toList.length = b.size := Array.length_toList
  have h3 := reachBytes_lt
  omega
 obtain ⟨hg, hlib, herr⟩ := dp_laid hL hsh
 clear hA0 hval0
 refine (deskPieces_walk a b W ha hb hg hlib herr).mono fun e W' ⟨he, bel⟩ => ?_
 subst he
 exact ⟨_, rfl, _, _, _, [], _, [], hW', trodAll_mk1 (shut_bool Tryz.underlying4 _), (trodAll_cons_mk (Below.trod laidOut (by kernel_rfl) (of_decide_eq_true (by kernel_rfl)) h0 bel lt0) (trodAll_cons_mk (Below.trod laidOut (by kernel_rfl) (of_decide_eq_true (by kernel_rfl)) h1 bel lt1) trodAll_mk0)), rfl, bel.frame _, fun h => by cases h⟩
/-! The row's closed facts: the four great ones each alone. -/
theorem dp_f1 : (Rows.deskPiecesRow.inPlace == Tryz.prog.inPlace 3) = true := by kernel_rfl
theorem dp_f2 : (Rows.deskPiecesRow.unfollowed == Tryz.prog.unfollowed 3) = true := by kernel_rfl
theorem dp_f3 : (Rows.deskPiecesRow.recurses == Tryz.prog.recurses 3) = true := by kernel_rfl
theorem dp_f4 : (Rows.deskPiecesRow.named == Tryz.prog.varsNamed 3) = true := by kernel_rfl
theorem dp_facts : joinedFacts Tryz.prog 3 Tryz.f3 (OpenSpec.ofChange Rows.deskPiecesSpec).bare Rows.deskPiecesRow = true := by
 unfold joinedFacts
 rw [dp_f1, dp_f2, dp_f3, dp_f4]
 kernel_rfl
theorem deskPieces_row_holds : Rows.DeskPiecesSaid :=
 OpenClaim.holds_of_cond 3 Tryz.f3 rfl rfl rfl rfl rfl rfl rfl ⟨rfl, rfl, rfl, rfl, rfl⟩ rfl rfl rfl rfl rfl (by kernel_rfl) Tryz.func3 dp_facts
  (of_decide_eq_true (by kernel_rfl)) (by unfold Func.isWrapper; first | (rw [if_pos (by decide +kernel)]; kernel_rfl) | (rw [if_neg (by decide +kernel)]; exact ⟨rfl, rfl⟩))
  (fun os started H enc _ F0 => by rw [OpenClaim.pre_eq_preRow]; exact deskPieces_lifted os started H enc F0)
end Go.Proofs.YtbmkmfoaoganeaaGreatDoor
