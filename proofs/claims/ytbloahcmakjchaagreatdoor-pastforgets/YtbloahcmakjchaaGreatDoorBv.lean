/- Texts of one proof, one behind the other. -/
import Derived.Test.YtbloahcmakjchaaGreatDoorBa
import Derived.LaidEql
import Derived.Stop.Asserts
import Derived.RowKitTokens
import Derived.Lib.ReflectliteSlice

/- errors.As at an error number, told by its own Go text: the number is found, in the error itself or behind its Unwrap. -/
namespace Go.Proofs.YtbloahcmakjchaaGreatDoor
open Go.RowKit Go.Extern.Stop Go.Stop Go.Extern

theorem valueOf92 (t : Addr) (w : World) : (ReflectliteValue.unpack (.iface 155 (.pointer (some t)))).run Tryz.prog w
    = .ok (.agg #[.pointer (some ⟨9, 155, none⟩), .pointer (some ⟨w.heap.size, 0, none⟩), .int .u64 150]) (w.alloc (.cells #[.pointer (some t)] 155)) := by kernel_rfl
theorem type92 (a : Addr) (w : World) : (ReflectliteValue.methodAny (ReflectliteValue.valueError "reflectlite.Value.Type" 0) (fun t _ _ _ => ReflectliteType.toType t) #[.agg #[.pointer (some ⟨9, 155, none⟩), .pointer (some a), .int .u64 150]]).run Tryz.prog w
    = .ok (.iface 282 (.agg #[.pointer (some ⟨9, 155, none⟩)])) w := by kernel_rfl
theorem kind92 (w : World) : ((ReflectliteType.abiMethod fun t => (fun a : Nat => Value.int IntKind.u8 (a : Int)) <$> Rtype.kind t) #[.pointer (some ⟨9, 155, none⟩)]).run Tryz.prog w = .ok (.int .u8 22) w := by kernel_rfl
theorem kind23 (w : World) : ((ReflectliteType.abiMethod fun t => (fun a : Nat => Value.int IntKind.u8 (a : Int)) <$> Rtype.kind t) #[.pointer (some ⟨9, 23, none⟩)]).run Tryz.prog w = .ok (.int .u8 2) w := by kernel_rfl

theorem parts92 (a : Addr) (w : World) : (ReflectliteValue.parts (.agg #[.pointer (some ⟨9, 155, none⟩), .pointer (some a), .int .u64 150])).run Tryz.prog w = .ok (some (155, a, 150)) w := by kernel_rfl
theorem isNil92 (a p : Addr) (W : World) (ha : W.cell? a = some (.pointer (some p))) :
    (ReflectliteValue.method (ReflectliteValue.valueError "reflectlite.Value.IsNil" 0) ReflectliteValue.isNil #[.agg #[.pointer (some ⟨9, 155, none⟩), .pointer (some a), .int .u64 150]]).run Tryz.prog W = .ok (.bool false) W := by
  rw [Go.Lib.rl_method]
  simp only [Sem.run_bind, parts92, Result.andThen]
  simp [ReflectliteValue.isNil, loadVar, isAgg, underlying, Tryz.underlying155, ha, Result.andThen]

theorem elem92 (w : World) : (ReflectliteType.method ReflectliteType.elem #[.agg #[.pointer (some ⟨9, 155, none⟩)]]).run Tryz.prog w = .ok (.iface 282 (.agg #[.pointer (some ⟨9, 23, none⟩)])) w := by kernel_rfl
theorem implements23 (w : World) : (ReflectliteType.relation "Implements" ReflectliteType.implements_ #[.agg #[.pointer (some ⟨9, 23, none⟩)], .iface 282 (.agg #[.pointer (some ⟨9, 27, none⟩)])]).run Tryz.prog w = .ok (.bool true) w := by kernel_rfl
theorem typeOf23 (v : Value) (w : World) : (ReflectliteType.typeOf #[.iface 23 v]).run Tryz.prog w = .ok (.iface 282 (.agg #[.pointer (some ⟨9, 23, none⟩)])) w := by kernel_rfl
theorem typeOf51 (v : Value) (w : World) : (ReflectliteType.typeOf #[.iface 200 v]).run Tryz.prog w = .ok (.iface 282 (.agg #[.pointer (some ⟨9, 200, none⟩)])) w := by kernel_rfl
theorem assignable23 (w : World) : (ReflectliteType.relation "AssignableTo" ReflectliteType.assignableTo #[.agg #[.pointer (some ⟨9, 23, none⟩)], .iface 282 (.agg #[.pointer (some ⟨9, 23, none⟩)])]).run Tryz.prog w = .ok (.bool true) w := by kernel_rfl
theorem assignable51 (w : World) : (ReflectliteType.relation "AssignableTo" ReflectliteType.assignableTo #[.agg #[.pointer (some ⟨9, 200, none⟩)], .iface 282 (.agg #[.pointer (some ⟨9, 23, none⟩)])]).run Tryz.prog w = .ok (.bool false) w := by kernel_rfl
theorem valueOf23 (n : Int) (w : World) : (ReflectliteValue.unpack (.iface 23 (.int .i64 n))).run Tryz.prog w
    = .ok (.agg #[.pointer (some ⟨9, 23, none⟩), .pointer (some ⟨w.heap.size, 0, none⟩), .int .u64 130]) (w.alloc (.cells #[.int .i64 n] 23)) := by kernel_rfl
theorem elemOf92 (w : World) : (Rtype.elem? 155).run Tryz.prog w = .ok (some 23) w := by kernel_rfl
theorem mk23 (p : Addr) (w : World) : (ReflectliteValue.mk 23 p ReflectliteValue.flagAddr).run Tryz.prog w = .ok (.agg #[.pointer (some ⟨9, 23, none⟩), .pointer (some p), .int .u64 386]) w := by kernel_rfl
theorem elemV92 (a p : Addr) (W : World) (ha : W.cell? a = some (.pointer (some p))) :
    (ReflectliteValue.method (ReflectliteValue.valueError "reflectlite.Value.Elem" 0) ReflectliteValue.elem #[.agg #[.pointer (some ⟨9, 155, none⟩), .pointer (some a), .int .u64 150]]).run Tryz.prog W
      = .ok (.agg #[.pointer (some ⟨9, 23, none⟩), .pointer (some p), .int .u64 386]) W := by
  rw [Go.Lib.rl_method]
  simp only [Sem.run_bind, parts92, Result.andThen]
  simp [ReflectliteValue.elem, loadVar, isAgg, underlying, Tryz.underlying155, ha, Result.andThen, elemOf92, mk23]
theorem parts23a (a : Addr) (w : World) : (ReflectliteValue.parts (.agg #[.pointer (some ⟨9, 23, none⟩), .pointer (some a), .int .u64 386])).run Tryz.prog w = .ok (some (23, a, 386)) w := by kernel_rfl
theorem parts23 (a : Addr) (w : World) : (ReflectliteValue.parts (.agg #[.pointer (some ⟨9, 23, none⟩), .pointer (some a), .int .u64 130])).run Tryz.prog w = .ok (some (23, a, 130)) w := by kernel_rfl
theorem direct23 (w : World) : (Rtype.directlyAssignable 23 23).run Tryz.prog w = .ok true w := by kernel_rfl

theorem setm {m : Array Value → Type} (v x : Value) (h1 : (v x : Value) → m #[v, x]) (h2 : (y : Array Value) → m y) : ReflectliteValue.set.match_3 m #[v, x] h1 h2 = h1 v x := rfl
theorem set23 (ta b : Addr) (n : Int) (old : Value) (W : World) (hb : W.cell? b = some (.int .i64 n)) (ht : W.cell? ta = some old) (hf : W.frozen? ta = false) :
    (ReflectliteValue.set #[.agg #[.pointer (some ⟨9, 23, none⟩), .pointer (some ta), .int .u64 386], .agg #[.pointer (some ⟨9, 23, none⟩), .pointer (some b), .int .u64 130]]).run Tryz.prog W
      = .ok (.tuple #[]) (W.setCell ta (.int .i64 n)) := by
  delta ReflectliteValue.set
  rw [setm]
  simp only [Sem.run_bind, parts23a, parts23, Result.andThen]
  simp [ReflectliteValue.flagAddr, loadVar, isAgg, underlying, Tryz.underlying23, hb, Result.andThen, direct23, storeVar, Value.cells, storeCells, Addr.add]
  rw [run_store Tryz.prog W ta _ _ (by rfl)]
  simp [ht, hf]

end Go.Proofs.YtbloahcmakjchaaGreatDoor

/- What errors.as does at an error number, and at an error with a place. -/
namespace Go.Proofs.YtbloahcmakjchaaGreatDoor
open Go.RowKit Go.Extern.Stop Go.Stop Go.Extern

theorem methodKind (h : Value) (w : World) : (Go.method 511 282 (.agg #[h]) "Kind").run Tryz.prog w = .ok (314, h) w := by kernel_rfl
theorem methodElem (h : Value) (w : World) : (Go.method 511 282 (.agg #[h]) "Elem").run Tryz.prog w = .ok (327, .agg #[h]) w := by kernel_rfl
theorem methodImplements (h : Value) (w : World) : (Go.method 511 282 (.agg #[h]) "Implements").run Tryz.prog w = .ok (328, .agg #[h]) w := by kernel_rfl
theorem methodAssignableTo (h : Value) (w : World) : (Go.method 511 282 (.agg #[h]) "AssignableTo").run Tryz.prog w = .ok (325, .agg #[h]) w := by kernel_rfl


set_option maxRecDepth 100000 in
set_option maxHeartbeats 4000000 in
theorem as_errno (n : Int) (t vb : Addr) (old : Value) (w : World) (hv : w.cell? vb = some (.pointer (some t))) (ht0 : w.cell? t = some old) (hf0 : w.frozen? t = false) :
    Calls Tryz.prog 138 #[.iface 23 (.int .i64 n), .iface 155 (.pointer (some t)), .agg #[.pointer (some ⟨9, 155, none⟩), .pointer (some vb), .int .u64 150], .iface 282 (.agg #[.pointer (some ⟨9, 23, none⟩)])] w fun e w' => e = .returned (.bool true) ∧ w' = ((w.alloc (.cells #[.pointer (some ⟨9, 155, none⟩), .pointer (some vb), .int .u64 150] 232)).alloc (.cells #[.int .i64 n] 23)).setCell t (.int .i64 n) := by
  have h70 := @run_callFunc_extern Tryz.prog 135 _ (fun args => ReflectliteValue.unpack (args.getD 0 (.tuple #[]))) Tryz.func135 (by kernel_rfl) (by kernel_rfl) (by kernel_rfl) (by kernel_rfl)
  have h78 := @run_callFunc_extern Tryz.prog 190 _ ReflectliteType.typeOf Tryz.func190 (by kernel_rfl) (by kernel_rfl) (by kernel_rfl) (by kernel_rfl)
  have h106 := @run_callFunc_extern Tryz.prog 325 _ (ReflectliteType.relation "AssignableTo" ReflectliteType.assignableTo) Tryz.func325 (by kernel_rfl) (by kernel_rfl) (by kernel_rfl) (by kernel_rfl)
  have h79 := @run_callFunc_extern Tryz.prog 191 _ (ReflectliteValue.method (ReflectliteValue.valueError "reflectlite.Value.Elem" 0) ReflectliteValue.elem) Tryz.func191 (by kernel_rfl) (by kernel_rfl) (by kernel_rfl) (by kernel_rfl)
  have h80 := @run_callFunc_extern Tryz.prog 192 _ ReflectliteValue.set Tryz.func192 (by kernel_rfl) (by kernel_rfl) (by kernel_rfl) (by kernel_rfl)
  have tO := typeOf23
  have a23 := assignable23
  have v23 := valueOf23
  have mA := methodAssignableTo
  have hvl := lt_of_cell hv
  have htl := lt_of_cell ht0
  have el := elemV92 vb t (w.alloc (.cells #[.pointer (some ⟨9, 155, none⟩), .pointer (some vb), .int .u64 150] 232)) (by rw [World.cell?_alloc_lt _ _ vb hvl]; exact hv)
  have st := set23 t ⟨w.heap.size + 1, 0, none⟩ n old ((w.alloc (.cells #[.pointer (some ⟨9, 155, none⟩), .pointer (some vb), .int .u64 150] 232)).alloc (.cells #[.int .i64 n] 23))
    (by simp) (by rw [World.cell?_alloc_lt _ _ t (by simp; omega), World.cell?_alloc_lt _ _ t htl]; exact ht0)
    (by rw [World.frozen?_alloc_old _ _ t (by simp; omega), World.frozen?_alloc_old _ _ t (Nat.ne_of_lt htl)]; exact hf0)
  go_enter Tryz.func138, Tryz.ntmps138
  go_wp2
  refine wp_loop_rounds 1 ?_
  rw [rounds_succ]
  go_wp2
  go_ret
  exact ⟨rfl, rfl⟩

set_option maxRecDepth 100000 in
set_option maxHeartbeats 400000 in
theorem at_unwrap (n : Int) (b : Nat) (w : World) (hc : w.cell? ⟨b, 0, none⟩ = some (.int .i64 n)) :
    Calls Tryz.prog 319 #[.pointer (some ⟨b, 0, none⟩)] w fun e w' => e = .returned (.iface 23 (.int .i64 n)) ∧ w' = w := by
  go_enter Tryz.func319, Tryz.ntmps319
  go_wp2
  go_ret
  exact ⟨rfl, rfl⟩

theorem at_noAs (a : Addr) (w : World) : (Instr.typeAssert (.iface 200 (.pointer (some a))) 27 287 true).run Tryz.prog w = .ok (.tuple #[.nilIface, .bool false]) w :=
  run_typeAssert_lacksB Tryz.underlying287 (by kernel_rfl) (by kernel_rfl) _ 27 w
theorem at_wraps (a : Addr) (w : World) : (Instr.typeAssert (.iface 200 (.pointer (some a))) 27 205 true).run Tryz.prog w = .ok (.tuple #[.iface 200 (.pointer (some a)), .bool true]) w := by kernel_rfl
theorem at_isAt (a : Addr) (w : World) : (Instr.typeAssert (.iface 200 (.pointer (some a))) 27 200 true).run Tryz.prog w = .ok (.tuple #[.pointer (some a), .bool true]) w := by kernel_rfl
theorem errno_noAt (n : Int) (w : World) : (Instr.typeAssert (.iface 23 (.int .i64 n)) 27 200 true).run Tryz.prog w = .ok (.tuple #[.pointer none, .bool false]) w := by kernel_rfl
theorem errno_wrapsNot (n : Int) (w : World) : (Instr.typeAssert (.iface 23 (.int .i64 n)) 27 205 true).run Tryz.prog w = .ok (.tuple #[.nilIface, .bool false]) w :=
  run_typeAssert_lacksB Tryz.underlying205 (by kernel_rfl) (by kernel_rfl) _ 27 w
theorem methodUnwrap (a : Addr) (w : World) : (Go.method 511 200 (.pointer (some a)) "Unwrap").run Tryz.prog w = .ok (319, .pointer (some a)) w := by kernel_rfl

set_option maxRecDepth 100000 in
set_option maxHeartbeats 4000000 in
theorem as_at (n : Int) (b : Nat) (t vb : Addr) (old : Value) (w : World) (hbc : w.cell? ⟨b, 0, none⟩ = some (.int .i64 n)) (hv : w.cell? vb = some (.pointer (some t))) (ht0 : w.cell? t = some old) (hf0 : w.frozen? t = false) :
    Calls Tryz.prog 138 #[.iface 200 (.pointer (some ⟨b, 0, none⟩)), .iface 155 (.pointer (some t)), .agg #[.pointer (some ⟨9, 155, none⟩), .pointer (some vb), .int .u64 150], .iface 282 (.agg #[.pointer (some ⟨9, 23, none⟩)])] w fun e w' => e = .returned (.bool true) ∧ w' = ((w.alloc (.cells #[.pointer (some ⟨9, 155, none⟩), .pointer (some vb), .int .u64 150] 232)).alloc (.cells #[.int .i64 n] 23)).setCell t (.int .i64 n) := by
  have h70 := @run_callFunc_extern Tryz.prog 135 _ (fun args => ReflectliteValue.unpack (args.getD 0 (.tuple #[]))) Tryz.func135 (by kernel_rfl) (by kernel_rfl) (by kernel_rfl) (by kernel_rfl)
  have h78 := @run_callFunc_extern Tryz.prog 190 _ ReflectliteType.typeOf Tryz.func190 (by kernel_rfl) (by kernel_rfl) (by kernel_rfl) (by kernel_rfl)
  have h106 := @run_callFunc_extern Tryz.prog 325 _ (ReflectliteType.relation "AssignableTo" ReflectliteType.assignableTo) Tryz.func325 (by kernel_rfl) (by kernel_rfl) (by kernel_rfl) (by kernel_rfl)
  have h79 := @run_callFunc_extern Tryz.prog 191 _ (ReflectliteValue.method (ReflectliteValue.valueError "reflectlite.Value.Elem" 0) ReflectliteValue.elem) Tryz.func191 (by kernel_rfl) (by kernel_rfl) (by kernel_rfl) (by kernel_rfl)
  have h80 := @run_callFunc_extern Tryz.prog 192 _ ReflectliteValue.set Tryz.func192 (by kernel_rfl) (by kernel_rfl) (by kernel_rfl) (by kernel_rfl)
  have tO := typeOf23
  have tO51 := typeOf51
  have a23 := assignable23
  have a51 := assignable51
  have v23 := valueOf23
  have mA := methodAssignableTo
  have mU := methodUnwrap
  have t129 := at_noAs
  have t74 := at_wraps
  have hvl := lt_of_cell hv
  have htl := lt_of_cell ht0
  have hbl := lt_of_cell hbc
  have el := elemV92 vb t (w.alloc (.cells #[.pointer (some ⟨9, 155, none⟩), .pointer (some vb), .int .u64 150] 232)) (by rw [World.cell?_alloc_lt _ _ vb hvl]; exact hv)
  have st := set23 t ⟨w.heap.size + 1, 0, none⟩ n old ((w.alloc (.cells #[.pointer (some ⟨9, 155, none⟩), .pointer (some vb), .int .u64 150] 232)).alloc (.cells #[.int .i64 n] 23))
    (by simp) (by rw [World.cell?_alloc_lt _ _ t (by simp; omega), World.cell?_alloc_lt _ _ t htl]; exact ht0)
    (by rw [World.frozen?_alloc_old _ _ t (by simp; omega), World.frozen?_alloc_old _ _ t (Nat.ne_of_lt htl)]; exact hf0)
  have hU := hide (at_unwrap n b (w.alloc (.cells #[.pointer (some ⟨9, 155, none⟩), .pointer (some vb), .int .u64 150] 232)) (by rw [World.cell?_alloc_lt _ _ ⟨b, 0, none⟩ hbl]; exact hbc))
  go_enter Tryz.func138, Tryz.ntmps138
  go_wp2
  refine wp_loop_rounds 2 ?_
  rw [rounds_succ]
  go_wp2_with fail
  refine (unhide hU).mono ?_
  rintro e w1 ⟨rfl, hw1⟩
  subst hw1
  go_wp2
  rw [rounds_succ]
  go_wp2
  go_ret
  exact ⟨rfl, rfl⟩

end Go.Proofs.YtbloahcmakjchaaGreatDoor

/- errors.As, Tell and Place at the errors that a set's functions hand back. -/
namespace Go.Proofs.YtbloahcmakjchaaGreatDoor
open Go.RowKit Go.Extern.Stop Go.Stop Go.Extern

/-- The library's own variable as its text lays it. -/
def ErrorType (w : World) : Prop := w.cell? ⟨0, 0, none⟩ = some (.iface 282 (.agg #[.pointer (some ⟨9, 27, none⟩)]))

theorem ErrorType.carry {w w' : World} (h : ErrorType w) (hb : Below w.heap.size w w') : ErrorType w' := (hb.cell (p := ⟨0, 0, none⟩) (lt_of_cell h)).trans h

set_option maxRecDepth 100000 in
set_option maxHeartbeats 4000000 in
theorem As_errno (n : Int) (t : Addr) (old : Value) (w : World) (hg : ErrorType w) (ht0 : w.cell? t = some old) (hf0 : w.frozen? t = false) :
    Calls Tryz.prog 78 #[.iface 23 (.int .i64 n), .iface 155 (.pointer (some t))] w fun e w' => e = .returned (.bool true) ∧ w' = ((((w.alloc (.cells #[.pointer (some t)] 155)).alloc (.cells #[.pointer (some ⟨9, 155, none⟩), .pointer (some ⟨w.heap.size, 0, none⟩), .int .u64 150] 232)).alloc (.cells #[.pointer (some ⟨9, 155, none⟩), .pointer (some ⟨w.heap.size, 0, none⟩), .int .u64 150] 232)).alloc (.cells #[.int .i64 n] 23)).setCell t (.int .i64 n) := by
  have h70 := @run_callFunc_extern Tryz.prog 135 _ (fun args => ReflectliteValue.unpack (args.getD 0 (.tuple #[]))) Tryz.func135 (by kernel_rfl) (by kernel_rfl) (by kernel_rfl) (by kernel_rfl)
  have h71 := @run_callFunc_extern Tryz.prog 136 _ (ReflectliteValue.methodAny (ReflectliteValue.valueError "reflectlite.Value.Type" 0) (fun t _ _ _ => ReflectliteType.toType t)) Tryz.func136 (by kernel_rfl) (by kernel_rfl) (by kernel_rfl) (by kernel_rfl)
  have h72 := @run_callFunc_extern Tryz.prog 137 _ (ReflectliteValue.method (ReflectliteValue.valueError "reflectlite.Value.IsNil" 0) ReflectliteValue.isNil) Tryz.func137 (by kernel_rfl) (by kernel_rfl) (by kernel_rfl) (by kernel_rfl)
  have h96 := @run_callFunc_extern Tryz.prog 314 _ (ReflectliteType.abiMethod fun t => do pure (.int .u8 (← Rtype.kind t))) Tryz.func314 (by kernel_rfl) (by kernel_rfl) (by kernel_rfl) (by kernel_rfl)
  have h108 := @run_callFunc_extern Tryz.prog 327 _ (ReflectliteType.method ReflectliteType.elem) Tryz.func327 (by kernel_rfl) (by kernel_rfl) (by kernel_rfl) (by kernel_rfl)
  have h109 := @run_callFunc_extern Tryz.prog 328 _ (ReflectliteType.relation "Implements" ReflectliteType.implements_) Tryz.func328 (by kernel_rfl) (by kernel_rfl) (by kernel_rfl) (by kernel_rfl)
  have f70 := valueOf92
  have f71 := type92
  have mK := methodKind
  have mE := methodElem
  have mI := methodImplements
  have k92 := kind92
  have k23 := kind23
  have e92 := elem92
  have i23 := implements23
  have n72 := isNil92 ⟨w.heap.size, 0, none⟩ t ((w.alloc (.cells #[.pointer (some t)] 155)).alloc (.cells #[.pointer (some ⟨9, 155, none⟩), .pointer (some ⟨w.heap.size, 0, none⟩), .int .u64 150] 232)) (by simp)
  have htl := lt_of_cell ht0
  have hlt := lt_of_cell hg
  have hg2 : ((w.alloc (.cells #[.pointer (some t)] 155)).alloc (.cells #[.pointer (some ⟨9, 155, none⟩), .pointer (some ⟨w.heap.size, 0, none⟩), .int .u64 150] 232)).cell? ⟨0, 0, none⟩ = some (.iface 282 (.agg #[.pointer (some ⟨9, 27, none⟩)])) := by
    rw [World.cell?_alloc_lt _ _ ⟨0, 0, none⟩ (Nat.lt_of_lt_of_le hlt (by simp)), World.cell?_alloc_lt _ _ ⟨0, 0, none⟩ hlt]; exact hg
  have ht2 : ((w.alloc (.cells #[.pointer (some t)] 155)).alloc (.cells #[.pointer (some ⟨9, 155, none⟩), .pointer (some ⟨w.heap.size, 0, none⟩), .int .u64 150] 232)).cell? t = some old := by
    rw [World.cell?_alloc_lt _ _ t (by simp; omega), World.cell?_alloc_lt _ _ t htl]; exact ht0
  have hf2 : ((w.alloc (.cells #[.pointer (some t)] 155)).alloc (.cells #[.pointer (some ⟨9, 155, none⟩), .pointer (some ⟨w.heap.size, 0, none⟩), .int .u64 150] 232)).frozen? t = false := by
    rw [World.frozen?_alloc_old _ _ t (by simp; omega), World.frozen?_alloc_old _ _ t (Nat.ne_of_lt htl)]; exact hf0
  have HA := hide (as_errno n t ⟨w.heap.size, 0, none⟩ old ((w.alloc (.cells #[.pointer (some t)] 155)).alloc (.cells #[.pointer (some ⟨9, 155, none⟩), .pointer (some ⟨w.heap.size, 0, none⟩), .int .u64 150] 232)) (by simp) ht2 hf2)
  clear ht2 hf2 ht0 hf0
  go_enter Tryz.func78, Tryz.ntmps78
  go_wp2_with (go_at_call 138; refine (unhide HA).mono ?_; rintro e w' ⟨rfl, rfl⟩)
  go_ret
  exact ⟨rfl, rfl⟩

set_option maxRecDepth 100000 in
set_option maxHeartbeats 4000000 in
theorem As_at (n : Int) (b : Nat) (t : Addr) (old : Value) (w : World) (hbc : w.cell? ⟨b, 0, none⟩ = some (.int .i64 n)) (hg : ErrorType w) (ht0 : w.cell? t = some old) (hf0 : w.frozen? t = false) :
    Calls Tryz.prog 78 #[.iface 200 (.pointer (some ⟨b, 0, none⟩)), .iface 155 (.pointer (some t))] w fun e w' => e = .returned (.bool true) ∧ w' = ((((w.alloc (.cells #[.pointer (some t)] 155)).alloc (.cells #[.pointer (some ⟨9, 155, none⟩), .pointer (some ⟨w.heap.size, 0, none⟩), .int .u64 150] 232)).alloc (.cells #[.pointer (some ⟨9, 155, none⟩), .pointer (some ⟨w.heap.size, 0, none⟩), .int .u64 150] 232)).alloc (.cells #[.int .i64 n] 23)).setCell t (.int .i64 n) := by
  have h70 := @run_callFunc_extern Tryz.prog 135 _ (fun args => ReflectliteValue.unpack (args.getD 0 (.tuple #[]))) Tryz.func135 (by kernel_rfl) (by kernel_rfl) (by kernel_rfl) (by kernel_rfl)
  have h71 := @run_callFunc_extern Tryz.prog 136 _ (ReflectliteValue.methodAny (ReflectliteValue.valueError "reflectlite.Value.Type" 0) (fun t _ _ _ => ReflectliteType.toType t)) Tryz.func136 (by kernel_rfl) (by kernel_rfl) (by kernel_rfl) (by kernel_rfl)
  have h72 := @run_callFunc_extern Tryz.prog 137 _ (ReflectliteValue.method (ReflectliteValue.valueError "reflectlite.Value.IsNil" 0) ReflectliteValue.isNil) Tryz.func137 (by kernel_rfl) (by kernel_rfl) (by kernel_rfl) (by kernel_rfl)
  have h96 := @run_callFunc_extern Tryz.prog 314 _ (ReflectliteType.abiMethod fun t => do pure (.int .u8 (← Rtype.kind t))) Tryz.func314 (by kernel_rfl) (by kernel_rfl) (by kernel_rfl) (by kernel_rfl)
  have h108 := @run_callFunc_extern Tryz.prog 327 _ (ReflectliteType.method ReflectliteType.elem) Tryz.func327 (by kernel_rfl) (by kernel_rfl) (by kernel_rfl) (by kernel_rfl)
  have h109 := @run_callFunc_extern Tryz.prog 328 _ (ReflectliteType.relation "Implements" ReflectliteType.implements_) Tryz.func328 (by kernel_rfl) (by kernel_rfl) (by kernel_rfl) (by kernel_rfl)
  have f70 := valueOf92
  have f71 := type92
  have mK := methodKind
  have mE := methodElem
  have mI := methodImplements
  have k92 := kind92
  have k23 := kind23
  have e92 := elem92
  have i23 := implements23
  have n72 := isNil92 ⟨w.heap.size, 0, none⟩ t ((w.alloc (.cells #[.pointer (some t)] 155)).alloc (.cells #[.pointer (some ⟨9, 155, none⟩), .pointer (some ⟨w.heap.size, 0, none⟩), .int .u64 150] 232)) (by simp)
  have htl := lt_of_cell ht0
  have hlt := lt_of_cell hg
  have hg2 : ((w.alloc (.cells #[.pointer (some t)] 155)).alloc (.cells #[.pointer (some ⟨9, 155, none⟩), .pointer (some ⟨w.heap.size, 0, none⟩), .int .u64 150] 232)).cell? ⟨0, 0, none⟩ = some (.iface 282 (.agg #[.pointer (some ⟨9, 27, none⟩)])) := by
    rw [World.cell?_alloc_lt _ _ ⟨0, 0, none⟩ (Nat.lt_of_lt_of_le hlt (by simp)), World.cell?_alloc_lt _ _ ⟨0, 0, none⟩ hlt]; exact hg
  have ht2 : ((w.alloc (.cells #[.pointer (some t)] 155)).alloc (.cells #[.pointer (some ⟨9, 155, none⟩), .pointer (some ⟨w.heap.size, 0, none⟩), .int .u64 150] 232)).cell? t = some old := by
    rw [World.cell?_alloc_lt _ _ t (by simp; omega), World.cell?_alloc_lt _ _ t htl]; exact ht0
  have hf2 : ((w.alloc (.cells #[.pointer (some t)] 155)).alloc (.cells #[.pointer (some ⟨9, 155, none⟩), .pointer (some ⟨w.heap.size, 0, none⟩), .int .u64 150] 232)).frozen? t = false := by
    rw [World.frozen?_alloc_old _ _ t (by simp; omega), World.frozen?_alloc_old _ _ t (Nat.ne_of_lt htl)]; exact hf0
  have hbl : b < w.heap.size := lt_of_cell hbc
  have HA := hide (as_at n b t ⟨w.heap.size, 0, none⟩ old ((w.alloc (.cells #[.pointer (some t)] 155)).alloc (.cells #[.pointer (some ⟨9, 155, none⟩), .pointer (some ⟨w.heap.size, 0, none⟩), .int .u64 150] 232)) (by rw [World.cell?_alloc_lt _ _ ⟨b, 0, none⟩ (by simp; omega), World.cell?_alloc_lt _ _ ⟨b, 0, none⟩ hbl]; exact hbc) (by simp) ht2 hf2)
  clear ht2 hf2 ht0 hf0
  go_enter Tryz.func78, Tryz.ntmps78
  go_wp2_with (go_at_call 138; refine (unhide HA).mono ?_; rintro e w' ⟨rfl, rfl⟩)
  go_ret
  exact ⟨rfl, rfl⟩

end Go.Proofs.YtbloahcmakjchaaGreatDoor

/- What an error that a set's functions hand back tells: its number, and its place. -/
namespace Go.Proofs.YtbloahcmakjchaaGreatDoor
open Go.RowKit Go.Extern.Stop Go.Stop Go.Extern

theorem below_tell {w : World} {o1 o2 o3 o4 o5 : Obj} (v : Value) : Below w.heap.size w ((((((w.alloc o1).alloc o2).alloc o3).alloc o4).alloc o5).setCell ⟨w.heap.size, 0, none⟩ v) :=
  ((((((Below.refl _ _).alloc (Nat.le_refl _) _).alloc (by simp) _).alloc (by simp; omega) _).alloc (by simp; omega) _).alloc (by simp; omega) _).setCell (Nat.le_refl _) _

theorem cell_tell {w : World} {c : Value} {t : TypeId} {o2 o3 o4 o5 : Obj} (v : Value) : ((((((w.alloc (.cells #[c] t)).alloc o2).alloc o3).alloc o4).alloc o5).setCell ⟨w.heap.size, 0, none⟩ v).cell? ⟨w.heap.size, 0, none⟩ = some v := by
  have hh : (((((w.alloc (.cells #[c] t)).alloc o2).alloc o3).alloc o4).alloc o5).heap[w.heap.size]? = some (.cells #[c] t (0, 0)) := by
    rw [Below.heap_alloc _ _ _ (by simp; omega), Below.heap_alloc _ _ _ (by simp; omega), Below.heap_alloc _ _ _ (by simp; omega), Below.heap_alloc _ _ _ (by simp)]
    exact heap_alloc_new w _
  have h2 := heap_setCell_same _ w.heap.size 0 #[c] t v hh
  simp only [World.cell?, h2]
  simp

set_option maxRecDepth 100000 in
set_option maxHeartbeats 2000000 in
theorem Tell_errno (n : Int) (w : World) (hg : ErrorType w) :
    Calls Tryz.prog 31 #[.iface 23 (.int .i64 n)] w fun e w' => e = .returned (.int .i64 n) ∧ Below w.heap.size w w' := by
  have hlt : 0 < w.heap.size := lt_of_cell hg
  have hg1 : ErrorType (w.alloc (.cells #[.int .i64 0] 23)) := (World.cell?_alloc_lt _ _ ⟨0, 0, none⟩ hlt).trans hg
  have HA := hide (As_errno n ⟨w.heap.size, 0, none⟩ (.int .i64 0) (w.alloc (.cells #[.int .i64 0] 23)) hg1 (by simp) (by simp))
  clear hg1 hg
  go_enter Tryz.func31, Tryz.ntmps31
  go_wp2_with fail
  refine (unhide HA).mono ?_
  rintro e w1 ⟨rfl, hw1⟩
  have hb1 : Below w.heap.size w w1 := by rw [hw1]; exact below_tell _
  have hc1 : w1.cell? ⟨w.heap.size, 0, none⟩ = some (.int .i64 n) := by rw [hw1]; exact cell_tell _
  have HB := hide hb1
  clear hw1 hb1 HA
  go_wp2
  go_ret
  exact ⟨rfl, unhide HB⟩

set_option maxRecDepth 100000 in
set_option maxHeartbeats 2000000 in
theorem Tell_at (n : Int) (b : Nat) (w : World) (hbc : w.cell? ⟨b, 0, none⟩ = some (.int .i64 n)) (hg : ErrorType w) :
    Calls Tryz.prog 31 #[.iface 200 (.pointer (some ⟨b, 0, none⟩))] w fun e w' => e = .returned (.int .i64 n) ∧ Below w.heap.size w w' := by
  have hlt : 0 < w.heap.size := lt_of_cell hg
  have hg1 : ErrorType (w.alloc (.cells #[.int .i64 0] 23)) := (World.cell?_alloc_lt _ _ ⟨0, 0, none⟩ hlt).trans hg
  have hbl : b < w.heap.size := lt_of_cell hbc
  have HA := hide (As_at n b ⟨w.heap.size, 0, none⟩ (.int .i64 0) (w.alloc (.cells #[.int .i64 0] 23)) ((World.cell?_alloc_lt _ _ ⟨b, 0, none⟩ hbl).trans hbc) hg1 (by simp) (by simp))
  clear hg1 hg
  go_enter Tryz.func31, Tryz.ntmps31
  go_wp2_with fail
  refine (unhide HA).mono ?_
  rintro e w1 ⟨rfl, hw1⟩
  have hb1 : Below w.heap.size w w1 := by rw [hw1]; exact below_tell _
  have hc1 : w1.cell? ⟨w.heap.size, 0, none⟩ = some (.int .i64 n) := by rw [hw1]; exact cell_tell _
  have HB := hide hb1
  clear hw1 hb1 HA
  go_wp2
  go_ret
  exact ⟨rfl, unhide HB⟩

set_option maxRecDepth 100000 in
set_option maxHeartbeats 2000000 in
theorem Place_errno (n : Int) (w : World) (hg : ErrorType w) :
    Calls Tryz.prog 56 #[.iface 23 (.int .i64 n)] w fun e w' => e = .returned (.tuple #[.int .i64 n, .int .i64 (-1)]) ∧ Below w.heap.size w w' := by
  have HT := hide (Tell_errno n w hg)
  have t51 := errno_noAt
  have t74 := errno_wrapsNot
  clear hg
  go_enter Tryz.func56, Tryz.ntmps56
  go_wp2_with fail
  refine (unhide HT).mono ?_
  rintro e w1 ⟨rfl, b1⟩
  have HB := hide b1
  clear b1 HT
  go_wp2
  refine wp_loop_rounds 1 ?_
  rw [rounds_succ]
  go_wp2
  go_ret2
  exact ⟨rfl, unhide HB⟩

set_option maxRecDepth 100000 in
set_option maxHeartbeats 2000000 in
theorem Place_at (n i : Int) (b : Nat) (w : World) (hbc : w.cell? ⟨b, 0, none⟩ = some (.int .i64 n)) (hbi : w.cell? ⟨b, 1, none⟩ = some (.int .i64 i)) (hg : ErrorType w) :
    Calls Tryz.prog 56 #[.iface 200 (.pointer (some ⟨b, 0, none⟩))] w fun e w' => e = .returned (.tuple #[.int .i64 n, .int .i64 i]) ∧ Below w.heap.size w w' := by
  have HT := hide (Tell_at n b w hbc hg)
  have t51 := at_isAt
  have hbl : b < w.heap.size := lt_of_cell hbc
  have HI := hide hbi
  clear hg hbc hbi
  go_enter Tryz.func56, Tryz.ntmps56
  go_wp2_with fail
  refine (unhide HT).mono ?_
  rintro e w1 ⟨rfl, b1⟩
  have hi1 := (b1.cell (p := ⟨b, 1, none⟩) hbl).trans (unhide HI)
  have HB := hide b1
  clear b1 HT HI
  go_wp2
  refine wp_loop_rounds 1 ?_
  rw [rounds_succ]
  go_wp2
  go_quiet (fail)
  go_wp2
  go_ret2
  exact ⟨rfl, (unhide HB).trans ⟨rfl, rfl, rfl, Nat.le_refl _, fun _ _ => rfl⟩⟩

set_option maxHeartbeats 1000000 in
theorem bare_of (n : Int) (w : World) :
    Calls Tryz.prog 55 #[.int .i64 n] w fun e w' => e = .returned (.agg #[.int .i64 n, .int .i64 (-1)]) ∧ Below w.heap.size w w' := by
  go_enter Tryz.func55, Tryz.ntmps55
  go_wp2
  exact bodyPost_ret (v := .agg #[.int .i64 n, .int .i64 (-1)]) (by simp [results, Tryz.results55, go_sem]) rfl ⟨rfl, (Below.refl _ _).alloc (Nat.le_refl _) _⟩

set_option maxHeartbeats 1000000 in
theorem law_is (err : Value) (n i : Int) (w : World) (h : ∀ W, Below w.heap.size w W → Calls Tryz.prog 56 #[err] W fun e w' => e = .returned (.tuple #[.int .i64 n, .int .i64 i]) ∧ Below W.heap.size W w') :
    Calls Tryz.prog 12 #[err, .agg #[.int .i64 n, .int .i64 i]] w fun e w' => e = .returned (.bool true) ∧ Below w.heap.size w w' := by
  have HP := hide (h (w.alloc (.cells #[.int .i64 n, .int .i64 i] 52)) ((Below.refl _ _).alloc (Nat.le_refl _) _))
  clear h
  go_enter Tryz.func12, Tryz.ntmps12
  go_wp2_with fail
  refine (unhide HP).mono ?_
  rintro e w1 ⟨rfl, b1⟩
  have c0 : w1.cell? ⟨w.heap.size, 0, none⟩ = some (.int .i64 n) := (b1.cell (p := ⟨w.heap.size, 0, none⟩) (by simp)).trans (by simp)
  have c1 : w1.cell? ⟨w.heap.size, 1, none⟩ = some (.int .i64 i) := (b1.cell (p := ⟨w.heap.size, 1, none⟩) (by simp)).trans (by simp)
  have HB : Hid (Below w.heap.size w w1) := ((Below.refl _ _).alloc (Nat.le_refl _) _).trans (b1.mono (by simp))
  clear b1 HP
  go_wp2
  go_ret
  exact ⟨rfl, HB.out⟩

set_option maxHeartbeats 1000000 in
theorem law_bare (n : Int) (w : World) (hg : ErrorType w) :
    Calls Tryz.prog 10 #[.iface 23 (.int .i64 n), .int .i64 n] w fun e w' => e = .returned (.bool true) ∧ Below w.heap.size w w' := by
  have HB := hide (bare_of n w)
  have HI := hide (fun W (h : Below w.heap.size w W) => law_is (.iface 23 (.int .i64 n)) n (-1) W (fun W' h' => Place_errno n W' ((hg.carry h).carry h')))
  clear hg
  go_enter Tryz.func10, Tryz.ntmps10
  go_wp2_with fail
  refine (unhide HB).mono ?_
  rintro e w1 ⟨rfl, b1⟩
  have HI1 := hide (unhide HI w1 b1)
  have B1 := hide b1
  clear b1 HI HB
  go_wp2_with fail
  refine (unhide HI1).mono ?_
  rintro e w2 ⟨rfl, b2⟩
  have B2 := hide ((unhide B1).trans (b2.mono (unhide B1).size))
  clear b2 HI1 B1
  go_wp2
  go_ret
  exact ⟨rfl, unhide B2⟩

end Go.Proofs.YtbloahcmakjchaaGreatDoor

/- What no error tells. -/
namespace Go.Proofs.YtbloahcmakjchaaGreatDoor
open Go.RowKit Go.Extern.Stop Go.Stop Go.Extern

set_option maxHeartbeats 1000000 in
theorem Tell_nil (w : World) : Calls Tryz.prog 31 #[.nilIface] w fun e w' => e = .returned (.int .i64 0) ∧ w' = w := by
  go_enter Tryz.func31, Tryz.ntmps31
  go_wp2
  go_ret
  exact ⟨rfl, rfl⟩

set_option maxHeartbeats 1000000 in
theorem Place_nil (w : World) : Calls Tryz.prog 56 #[.nilIface] w fun e w' => e = .returned (.tuple #[.int .i64 0, .int .i64 (-1)]) ∧ Below w.heap.size w w' := by
  have HT := hide (Tell_nil w)
  go_enter Tryz.func56, Tryz.ntmps56
  go_wp2_with fail
  refine (unhide HT).mono ?_
  rintro e w1 ⟨rfl, rfl⟩
  go_wp2
  refine wp_loop_rounds 1 ?_
  rw [rounds_succ]
  go_wp2
  go_ret2
  exact ⟨rfl, Below.refl _ _⟩

end Go.Proofs.YtbloahcmakjchaaGreatDoor
