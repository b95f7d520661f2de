/- Texts of one proof, one behind the other. -/
import Derived.Test.YtbmkmfoaoganeaaGreatDoorNa
import Derived.LaidEql
import Derived.Stop.Asserts
import Derived.RowKitTokens
import Derived.Lib.ReflectliteSlice
set_option maxRecDepth 100000
set_option maxHeartbeats 16000000
namespace Go.Proofs.YtbmkmfoaoganeaaGreatDoor
open Go.RowKit Go.Extern.Stop Go.Stop Go.Extern
theorem valueOf92 (t : Addr) (w : World) : (ReflectliteValue.unpack (.iface 185 (.pointer (some t)))).run Tryz.prog w
  = .ok (.agg #[.pointer (some ⟨9, 185, none⟩), .pointer (some ⟨w.heap.size, 0, none⟩), .int .u64 150]) (w.alloc (.cells #[.pointer (some t)] 185)) := by kernel_rfl
theorem type92 (a : Addr) (w : World) : (ReflectliteValue.methodAny (ReflectliteValue.valueError "reflectlite.Value.Type" 0) (fun t _ _ _ => ReflectliteType.toType t) #[.agg #[.pointer (some ⟨9, 185, none⟩), .pointer (some a), .int .u64 150]]).run Tryz.prog w
  = .ok (.iface 285 (.agg #[.pointer (some ⟨9, 185, none⟩)])) w := by kernel_rfl
theorem kind92 (w : World) : ((ReflectliteType.abiMethod fun t => (fun a : Nat => Value.int IntKind.u8 (a : Int)) <$> Rtype.kind t) #[.pointer (some ⟨9, 185, none⟩)]).run Tryz.prog w = .ok (.int .u8 22) w := by kernel_rfl
theorem kind23 (w : World) : ((ReflectliteType.abiMethod fun t => (fun a : Nat => Value.int IntKind.u8 (a : Int)) <$> Rtype.kind t) #[.pointer (some ⟨9, 25, none⟩)]).run Tryz.prog w = .ok (.int .u8 2) w := by kernel_rfl
theorem parts92 (a : Addr) (w : World) : (ReflectliteValue.parts (.agg #[.pointer (some ⟨9, 185, none⟩), .pointer (some a), .int .u64 150])).run Tryz.prog w = .ok (some (185, a, 150)) w := by kernel_rfl
theorem isNil92 (a p : Addr) (W : World) (ha : W.cell? a = some (.pointer (some p))) :
  (ReflectliteValue.method (ReflectliteValue.valueError "reflectlite.Value.IsNil" 0) ReflectliteValue.isNil #[.agg #[.pointer (some ⟨9, 185, none⟩), .pointer (some a), .int .u64 150]]).run Tryz.prog W = .ok (.bool false) W := by
 rw [Go.Lib.rl_method]
 simp only [Sem.run_bind, parts92, Result.andThen]
 simp [ReflectliteValue.isNil, loadVar, isAgg, underlying, Tryz.underlying185, ha, Result.andThen]
theorem elem92 (w : World) : (ReflectliteType.method ReflectliteType.elem #[.agg #[.pointer (some ⟨9, 185, none⟩)]]).run Tryz.prog w = .ok (.iface 285 (.agg #[.pointer (some ⟨9, 25, none⟩)])) w := by kernel_rfl
theorem implements23 (w : World) : (ReflectliteType.relation "Implements" ReflectliteType.implements_ #[.agg #[.pointer (some ⟨9, 25, none⟩)], .iface 285 (.agg #[.pointer (some ⟨9, 36, none⟩)])]).run Tryz.prog w = .ok (.bool true) w := by kernel_rfl
theorem typeOf23 (v : Value) (w : World) : (ReflectliteType.typeOf #[.iface 25 v]).run Tryz.prog w = .ok (.iface 285 (.agg #[.pointer (some ⟨9, 25, none⟩)])) w := by kernel_rfl
theorem assignable23 (w : World) : (ReflectliteType.relation "AssignableTo" ReflectliteType.assignableTo #[.agg #[.pointer (some ⟨9, 25, none⟩)], .iface 285 (.agg #[.pointer (some ⟨9, 25, none⟩)])]).run Tryz.prog w = .ok (.bool true) w := by kernel_rfl
theorem valueOf23 (n : Int) (w : World) : (ReflectliteValue.unpack (.iface 25 (.int .i64 n))).run Tryz.prog w
  = .ok (.agg #[.pointer (some ⟨9, 25, none⟩), .pointer (some ⟨w.heap.size, 0, none⟩), .int .u64 130]) (w.alloc (.cells #[.int .i64 n] 25)) := by kernel_rfl
theorem elemOf92 (w : World) : (Rtype.elem? 185).run Tryz.prog w = .ok (some 25) w := by kernel_rfl
theorem mk23 (p : Addr) (w : World) : (ReflectliteValue.mk 25 p ReflectliteValue.flagAddr).run Tryz.prog w = .ok (.agg #[.pointer (some ⟨9, 25, none⟩), .pointer (some p), .int .u64 386]) w := by kernel_rfl
theorem elemV92 (a p : Addr) (W : World) (ha : W.cell? a = some (.pointer (some p))) :
  (ReflectliteValue.method (ReflectliteValue.valueError "reflectlite.Value.Elem" 0) ReflectliteValue.elem #[.agg #[.pointer (some ⟨9, 185, none⟩), .pointer (some a), .int .u64 150]]).run Tryz.prog W
   = .ok (.agg #[.pointer (some ⟨9, 25, none⟩), .pointer (some p), .int .u64 386]) W := by
 rw [Go.Lib.rl_method]
 simp only [Sem.run_bind, parts92, Result.andThen]
 simp [ReflectliteValue.elem, loadVar, isAgg, underlying, Tryz.underlying185, ha, Result.andThen, elemOf92, mk23]
theorem parts23a (a : Addr) (w : World) : (ReflectliteValue.parts (.agg #[.pointer (some ⟨9, 25, none⟩), .pointer (some a), .int .u64 386])).run Tryz.prog w = .ok (some (25, a, 386)) w := by kernel_rfl
theorem parts23 (a : Addr) (w : World) : (ReflectliteValue.parts (.agg #[.pointer (some ⟨9, 25, none⟩), .pointer (some a), .int .u64 130])).run Tryz.prog w = .ok (some (25, a, 130)) w := by kernel_rfl
theorem direct23 (w : World) : (Rtype.directlyAssignable 25 25).run Tryz.prog w = .ok true w := by kernel_rfl
theorem setm {m : Array Value -> Type} (v x : Value) (h1 : (v x : Value) -> m #[v, x]) (h2 : (y : Array Value) -> m y) : ReflectliteValue.set.match_3 m #[v, x] h1 h2 = h1 v x := rfl
theorem set23 (ta b : Addr) (n : Int) (old : Value) (W : World) (hb : W.cell? b = some (.int .i64 n)) (ht : W.cell? ta = some old) (hf : W.frozen? ta = false) :
  (ReflectliteValue.set #[.agg #[.pointer (some ⟨9, 25, none⟩), .pointer (some ta), .int .u64 386], .agg #[.pointer (some ⟨9, 25, none⟩), .pointer (some b), .int .u64 130]]).run Tryz.prog W
   = .ok (.tuple #[]) (W.setCell ta (.int .i64 n)) := by
 delta ReflectliteValue.set
 rw [setm]
 simp only [Sem.run_bind, parts23a, parts23, Result.andThen]
 simp [ReflectliteValue.flagAddr, loadVar, isAgg, underlying, Tryz.underlying25, hb, Result.andThen, direct23, storeVar, Value.cells, storeCells, Addr.add]
 rw [run_store Tryz.prog W ta _ _ (by rfl)]
 simp [ht, hf]
theorem methodKind (h : Value) (w : World) : (Go.method 476 285 (.agg #[h]) "Kind").run Tryz.prog w = .ok (302, h) w := by kernel_rfl
theorem methodElem (h : Value) (w : World) : (Go.method 476 285 (.agg #[h]) "Elem").run Tryz.prog w = .ok (318, .agg #[h]) w := by kernel_rfl
theorem methodImplements (h : Value) (w : World) : (Go.method 476 285 (.agg #[h]) "Implements").run Tryz.prog w = .ok (319, .agg #[h]) w := by kernel_rfl
theorem methodAssignableTo (h : Value) (w : World) : (Go.method 476 285 (.agg #[h]) "AssignableTo").run Tryz.prog w = .ok (316, .agg #[h]) w := by kernel_rfl
theorem as_errno (n : Int) (t vb : Addr) (old : Value) (w : World) (hv : w.cell? vb = some (.pointer (some t))) (ht0 : w.cell? t = some old) (hf0 : w.frozen? t = false) :
  Calls Tryz.prog 178 #[.iface 25 (.int .i64 n), .iface 185 (.pointer (some t)), .agg #[.pointer (some ⟨9, 185, none⟩), .pointer (some vb), .int .u64 150], .iface 285 (.agg #[.pointer (some ⟨9, 25, none⟩)])] w fun e w' => e = .returned (.bool true) /\ w' = ((w.alloc (.cells #[.pointer (some ⟨9, 185, none⟩), .pointer (some vb), .int .u64 150] 235)).alloc (.cells #[.int .i64 n] 25)).setCell t (.int .i64 n) := by
 have h70 := @run_callFunc_extern Tryz.prog 175 _ (fun args => ReflectliteValue.unpack (args.getD 0 (.tuple #[]))) Tryz.func175 (by kernel_rfl) (by kernel_rfl) (by kernel_rfl) (by kernel_rfl)
 have h78 := @run_callFunc_extern Tryz.prog 238 _ ReflectliteType.typeOf Tryz.func238 (by kernel_rfl) (by kernel_rfl) (by kernel_rfl) (by kernel_rfl)
 have h106 := @run_callFunc_extern Tryz.prog 316 _ (ReflectliteType.relation "AssignableTo" ReflectliteType.assignableTo) Tryz.func316 (by kernel_rfl) (by kernel_rfl) (by kernel_rfl) (by kernel_rfl)
 have h79 := @run_callFunc_extern Tryz.prog 239 _ (ReflectliteValue.method (ReflectliteValue.valueError "reflectlite.Value.Elem" 0) ReflectliteValue.elem) Tryz.func239 (by kernel_rfl) (by kernel_rfl) (by kernel_rfl) (by kernel_rfl)
 have h80 := @run_callFunc_extern Tryz.prog 240 _ ReflectliteValue.set Tryz.func240 (by kernel_rfl) (by kernel_rfl) (by kernel_rfl) (by kernel_rfl)
 have tO := typeOf23
 have a23 := assignable23
 have v23 := valueOf23
 have mA := methodAssignableTo
 have hvl := lt_of_cell hv
 have htl := lt_of_cell ht0
 have el := elemV92 vb t (w.alloc (.cells #[.pointer (some ⟨9, 185, none⟩), .pointer (some vb), .int .u64 150] 235)) (by rw [World.cell?_alloc_lt _ _ vb hvl]; exact hv)
 have st := set23 t ⟨w.heap.size + 1, 0, none⟩ n old ((w.alloc (.cells #[.pointer (some ⟨9, 185, none⟩), .pointer (some vb), .int .u64 150] 235)).alloc (.cells #[.int .i64 n] 25))
  (by simp) (by rw [World.cell?_alloc_lt _ _ t (by simp; omega), World.cell?_alloc_lt _ _ t htl]; exact ht0)
  (by rw [World.frozen?_alloc_old _ _ t (by simp; omega), World.frozen?_alloc_old _ _ t (Nat.ne_of_lt htl)]; exact hf0)
 go_enter Tryz.func178, Tryz.ntmps178
 go_wp2
 refine wp_loop_rounds 1 ?_
 rw [rounds_succ]
 go_wp2
 go_ret
 exact ⟨rfl, rfl⟩
def ErrorType (w : World) : Prop := w.cell? ⟨2, 0, none⟩ = some (.iface 285 (.agg #[.pointer (some ⟨9, 36, none⟩)]))
theorem ErrorType.carry {w w' : World} (h : ErrorType w) (hb : Below w.heap.size w w') : ErrorType w' := (hb.cell (p := ⟨2, 0, none⟩) (lt_of_cell h)).trans h
theorem As_errno (n : Int) (t : Addr) (old : Value) (w : World) (hg : ErrorType w) (ht0 : w.cell? t = some old) (hf0 : w.frozen? t = false) :
  Calls Tryz.prog 130 #[.iface 25 (.int .i64 n), .iface 185 (.pointer (some t))] w fun e w' => e = .returned (.bool true) /\ w' = ((((w.alloc (.cells #[.pointer (some t)] 185)).alloc (.cells #[.pointer (some ⟨9, 185, none⟩), .pointer (some ⟨w.heap.size, 0, none⟩), .int .u64 150] 235)).alloc (.cells #[.pointer (some ⟨9, 185, none⟩), .pointer (some ⟨w.heap.size, 0, none⟩), .int .u64 150] 235)).alloc (.cells #[.int .i64 n] 25)).setCell t (.int .i64 n) := by
 have h70 := @run_callFunc_extern Tryz.prog 175 _ (fun args => ReflectliteValue.unpack (args.getD 0 (.tuple #[]))) Tryz.func175 (by kernel_rfl) (by kernel_rfl) (by kernel_rfl) (by kernel_rfl)
 have h71 := @run_callFunc_extern Tryz.prog 176 _ (ReflectliteValue.methodAny (ReflectliteValue.valueError "reflectlite.Value.Type" 0) (fun t _ _ _ => ReflectliteType.toType t)) Tryz.func176 (by kernel_rfl) (by kernel_rfl) (by kernel_rfl) (by kernel_rfl)
 have h72 := @run_callFunc_extern Tryz.prog 177 _ (ReflectliteValue.method (ReflectliteValue.valueError "reflectlite.Value.IsNil" 0) ReflectliteValue.isNil) Tryz.func177 (by kernel_rfl) (by kernel_rfl) (by kernel_rfl) (by kernel_rfl)
 have h96 := @run_callFunc_extern Tryz.prog 302 _ (ReflectliteType.abiMethod fun t => do pure (.int .u8 (<- Rtype.kind t))) Tryz.func302 (by kernel_rfl) (by kernel_rfl) (by kernel_rfl) (by kernel_rfl)
 have h108 := @run_callFunc_extern Tryz.prog 318 _ (ReflectliteType.method ReflectliteType.elem) Tryz.func318 (by kernel_rfl) (by kernel_rfl) (by kernel_rfl) (by kernel_rfl)
 have h109 := @run_callFunc_extern Tryz.prog 319 _ (ReflectliteType.relation "Implements" ReflectliteType.implements_) Tryz.func319 (by kernel_rfl) (by kernel_rfl) (by kernel_rfl) (by kernel_rfl)
 have f70 := valueOf92
 have f71 := type92
 have mK := methodKind
 have mE := methodElem
 have mI := methodImplements
 have k92 := kind92
 have k23 := kind23
 have e92 := elem92
 have i23 := implements23
 have n72 := isNil92 ⟨w.heap.size, 0, none⟩ t ((w.alloc (.cells #[.pointer (some t)] 185)).alloc (.cells #[.pointer (some ⟨9, 185, none⟩), .pointer (some ⟨w.heap.size, 0, none⟩), .int .u64 150] 235)) (by simp)
 have htl := lt_of_cell ht0
 have hlt := lt_of_cell hg
 have hg2 : ((w.alloc (.cells #[.pointer (some t)] 185)).alloc (.cells #[.pointer (some ⟨9, 185, none⟩), .pointer (some ⟨w.heap.size, 0, none⟩), .int .u64 150] 235)).cell? ⟨2, 0, none⟩ = some (.iface 285 (.agg #[.pointer (some ⟨9, 36, none⟩)])) := by
  rw [World.cell?_alloc_lt _ _ ⟨2, 0, none⟩ (Nat.lt_of_lt_of_le hlt (by simp)), World.cell?_alloc_lt _ _ ⟨2, 0, none⟩ hlt]; exact hg
 have ht2 : ((w.alloc (.cells #[.pointer (some t)] 185)).alloc (.cells #[.pointer (some ⟨9, 185, none⟩), .pointer (some ⟨w.heap.size, 0, none⟩), .int .u64 150] 235)).cell? t = some old := by
  rw [World.cell?_alloc_lt _ _ t (by simp; omega), World.cell?_alloc_lt _ _ t htl]; exact ht0
 have hf2 : ((w.alloc (.cells #[.pointer (some t)] 185)).alloc (.cells #[.pointer (some ⟨9, 185, none⟩), .pointer (some ⟨w.heap.size, 0, none⟩), .int .u64 150] 235)).frozen? t = false := by
  rw [World.frozen?_alloc_old _ _ t (by simp; omega), World.frozen?_alloc_old _ _ t (Nat.ne_of_lt htl)]; exact hf0
 have HA := zh (as_errno n t ⟨w.heap.size, 0, none⟩ old ((w.alloc (.cells #[.pointer (some t)] 185)).alloc (.cells #[.pointer (some ⟨9, 185, none⟩), .pointer (some ⟨w.heap.size, 0, none⟩), .int .u64 150] 235)) (by simp) ht2 hf2)
 clear ht2 hf2 ht0 hf0
 go_enter Tryz.func130, Tryz.ntmps130
 go_wp2_with (go_at_call 178; refine (uh HA).mono ?_; rintro e w' ⟨rfl, rfl⟩)
 go_ret
 exact ⟨rfl, rfl⟩
theorem below_tell {w : World} {o1 o2 o3 o4 o5 : Obj} (v : Value) : Below w.heap.size w ((((((w.alloc o1).alloc o2).alloc o3).alloc o4).alloc o5).setCell ⟨w.heap.size, 0, none⟩ v) :=
 ((((((Below.refl _ _).alloc zr _).alloc (by simp) _).alloc (by simp; omega) _).alloc (by simp; omega) _).alloc (by simp; omega) _).setCell zr _
theorem cell_tell {w : World} {c : Value} {t : TypeId} {o2 o3 o4 o5 : Obj} (v : Value) : ((((((w.alloc (.cells #[c] t)).alloc o2).alloc o3).alloc o4).alloc o5).setCell ⟨w.heap.size, 0, none⟩ v).cell? ⟨w.heap.size, 0, none⟩ = some v := by
 have hh : (((((w.alloc (.cells #[c] t)).alloc o2).alloc o3).alloc o4).alloc o5).heap[w.heap.size]? = some (.cells #[c] t (0, 0)) := by
  rw [Below.heap_alloc _ _ _ (by simp; omega), Below.heap_alloc _ _ _ (by simp; omega), Below.heap_alloc _ _ _ (by simp; omega), Below.heap_alloc _ _ _ (by simp)]
  exact heap_alloc_new w _
 have h2 := heap_setCell_same _ w.heap.size 0 #[c] t v hh
 simp only [World.cell?, h2]
 simp
theorem Tell_errno (n : Int) (w : World) (hg : ErrorType w) :
  Calls Tryz.prog 89 #[.iface 25 (.int .i64 n)] w fun e w' => e = .returned (.int .i64 n) /\ Below w.heap.size w w' := by
 have hlt : 2 < w.heap.size := lt_of_cell hg
 have hg1 : ErrorType (w.alloc (.cells #[.int .i64 0] 25)) := (World.cell?_alloc_lt _ _ ⟨2, 0, none⟩ hlt).trans hg
 have HA := zh (As_errno n ⟨w.heap.size, 0, none⟩ (.int .i64 0) (w.alloc (.cells #[.int .i64 0] 25)) hg1 (by simp) (by simp))
 clear hg1 hg
 go_enter Tryz.func89, Tryz.ntmps89
 go_wp2_with fail
 refine (uh HA).mono ?_
 rintro e w1 ⟨rfl, hw1⟩
 have hb1 : Below w.heap.size w w1 := by rw [hw1]; exact below_tell _
 have hc1 : w1.cell? ⟨w.heap.size, 0, none⟩ = some (.int .i64 n) := by rw [hw1]; exact cell_tell _
 have HB := zh hb1
 clear hw1 hb1 HA
 go_wp2
 go_ret
 exact ⟨rfl, uh HB⟩
end Go.Proofs.YtbmkmfoaoganeaaGreatDoor
