/- Texts of one proof, one behind the other. -/
import Derived.Test.YtfoojmflbifkpaaGreatDoorEv
set_option maxRecDepth 100000
set_option maxHeartbeats 16000000
namespace Go.Proofs.YtfoojmflbifkpaaGreatDoor
open Go.RowKit Go.Extern.Stop Go.Stop Go.Extern
theorem methodKind (h : Value) (w : World) : (Go.method 518 301 (.agg #[h]) "Kind").run Tryz.prog w = .ok (323, h) w := by kernel_rfl
theorem methodElem (h : Value) (w : World) : (Go.method 518 301 (.agg #[h]) "Elem").run Tryz.prog w = .ok (337, .agg #[h]) w := by kernel_rfl
theorem methodImplements (h : Value) (w : World) : (Go.method 518 301 (.agg #[h]) "Implements").run Tryz.prog w = .ok (338, .agg #[h]) w := by kernel_rfl
theorem methodAssignableTo (h : Value) (w : World) : (Go.method 518 301 (.agg #[h]) "AssignableTo").run Tryz.prog w = .ok (335, .agg #[h]) w := by kernel_rfl
theorem as_errno (n : Int) (t vb : Addr) (old : Value) (w : World) (hv : w.cell? vb = some (.pointer (some t))) (ht0 : w.cell? t = some old) (hf0 : w.frozen? t = false) :
  Calls Tryz.prog 180 #[.iface 43 (.int .i64 n), .iface 217 (.pointer (some t)), .agg #[.pointer (some ⟨9, 217, none⟩), .pointer (some vb), .int .u64 150], .iface 301 (.agg #[.pointer (some ⟨9, 43, none⟩)])] w fun e w' => e = .returned (.bool true) /\ w' = ((w.alloc (.cells #[.pointer (some ⟨9, 217, none⟩), .pointer (some vb), .int .u64 150] 239)).alloc (.cells #[.int .i64 n] 43)).setCell t (.int .i64 n) := by
 have h70 := @run_callFunc_extern Tryz.prog 150 _ (fun args => ReflectliteValue.unpack (args.getD 0 (.tuple #[]))) Tryz.func150 (by kernel_rfl) (by kernel_rfl) (by kernel_rfl) (by kernel_rfl)
 have h78 := @run_callFunc_extern Tryz.prog 254 _ ReflectliteType.typeOf Tryz.func254 (by kernel_rfl) (by kernel_rfl) (by kernel_rfl) (by kernel_rfl)
 have h106 := @run_callFunc_extern Tryz.prog 335 _ (ReflectliteType.relation "AssignableTo" ReflectliteType.assignableTo) Tryz.func335 (by kernel_rfl) (by kernel_rfl) (by kernel_rfl) (by kernel_rfl)
 have h79 := @run_callFunc_extern Tryz.prog 255 _ (ReflectliteValue.method (ReflectliteValue.valueError "reflectlite.Value.Elem" 0) ReflectliteValue.elem) Tryz.func255 (by kernel_rfl) (by kernel_rfl) (by kernel_rfl) (by kernel_rfl)
 have h80 := @run_callFunc_extern Tryz.prog 256 _ ReflectliteValue.set Tryz.func256 (by kernel_rfl) (by kernel_rfl) (by kernel_rfl) (by kernel_rfl)
 have tO := typeOf23
 have a23 := assignable23
 have v23 := valueOf23
 have mA := methodAssignableTo
 have hvl := lt_of_cell hv
 have htl := lt_of_cell ht0
 have el := elemV92 vb t (w.alloc (.cells #[.pointer (some ⟨9, 217, none⟩), .pointer (some vb), .int .u64 150] 239)) (by rw [World.cell?_alloc_lt _ _ vb hvl]; exact hv)
 have st := set23 t ⟨w.heap.size + 1, 0, none⟩ n old ((w.alloc (.cells #[.pointer (some ⟨9, 217, none⟩), .pointer (some vb), .int .u64 150] 239)).alloc (.cells #[.int .i64 n] 43))
  (by simp) (by rw [World.cell?_alloc_lt _ _ t (by simp; omega), World.cell?_alloc_lt _ _ t htl]; exact ht0)
  (by rw [World.frozen?_alloc_old _ _ t (by simp; omega), World.frozen?_alloc_old _ _ t (Nat.ne_of_lt htl)]; exact hf0)
 go_enter Tryz.func180, Tryz.ntmps180
 go_wp2
 refine wp_loop_rounds 1 ?_
 rw [rounds_succ]
 go_wp2
 go_ret
 exact ⟨rfl, rfl⟩
theorem at_unwrap (n : Int) (b : Nat) (w : World) (hc : w.cell? ⟨b, 0, none⟩ = some (.int .i64 n)) :
  Calls Tryz.prog 328 #[.pointer (some ⟨b, 0, none⟩)] w fun e w' => e = .returned (.iface 43 (.int .i64 n)) /\ w' = w := by
 go_enter Tryz.func328, Tryz.ntmps328
 go_wp2
 go_ret
 exact ⟨rfl, rfl⟩
theorem at_noAs (a : Addr) (w : World) : (Instr.typeAssert (.iface 164 (.pointer (some a))) 41 337 true).run Tryz.prog w = .ok (.tuple #[.nilIface, .bool false]) w :=
 run_typeAssert_lacksB Tryz.underlying337 (by kernel_rfl) (by kernel_rfl) _ 41 w
theorem at_wraps (a : Addr) (w : World) : (Instr.typeAssert (.iface 164 (.pointer (some a))) 41 167 true).run Tryz.prog w = .ok (.tuple #[.iface 164 (.pointer (some a)), .bool true]) w := by kernel_rfl
theorem at_isAt (a : Addr) (w : World) : (Instr.typeAssert (.iface 164 (.pointer (some a))) 41 164 true).run Tryz.prog w = .ok (.tuple #[.pointer (some a), .bool true]) w := by kernel_rfl
theorem errno_noAt (n : Int) (w : World) : (Instr.typeAssert (.iface 43 (.int .i64 n)) 41 164 true).run Tryz.prog w = .ok (.tuple #[.pointer none, .bool false]) w := by kernel_rfl
theorem errno_wrapsNot (n : Int) (w : World) : (Instr.typeAssert (.iface 43 (.int .i64 n)) 41 167 true).run Tryz.prog w = .ok (.tuple #[.nilIface, .bool false]) w :=
 run_typeAssert_lacksB Tryz.underlying167 (by kernel_rfl) (by kernel_rfl) _ 41 w
theorem methodUnwrap (a : Addr) (w : World) : (Go.method 518 164 (.pointer (some a)) "Unwrap").run Tryz.prog w = .ok (328, .pointer (some a)) w := by kernel_rfl
theorem as_at (n : Int) (b : Nat) (t vb : Addr) (old : Value) (w : World) (hbc : w.cell? ⟨b, 0, none⟩ = some (.int .i64 n)) (hv : w.cell? vb = some (.pointer (some t))) (ht0 : w.cell? t = some old) (hf0 : w.frozen? t = false) :
  Calls Tryz.prog 180 #[.iface 164 (.pointer (some ⟨b, 0, none⟩)), .iface 217 (.pointer (some t)), .agg #[.pointer (some ⟨9, 217, none⟩), .pointer (some vb), .int .u64 150], .iface 301 (.agg #[.pointer (some ⟨9, 43, none⟩)])] w fun e w' => e = .returned (.bool true) /\ w' = ((w.alloc (.cells #[.pointer (some ⟨9, 217, none⟩), .pointer (some vb), .int .u64 150] 239)).alloc (.cells #[.int .i64 n] 43)).setCell t (.int .i64 n) := by
 have h70 := @run_callFunc_extern Tryz.prog 150 _ (fun args => ReflectliteValue.unpack (args.getD 0 (.tuple #[]))) Tryz.func150 (by kernel_rfl) (by kernel_rfl) (by kernel_rfl) (by kernel_rfl)
 have h78 := @run_callFunc_extern Tryz.prog 254 _ ReflectliteType.typeOf Tryz.func254 (by kernel_rfl) (by kernel_rfl) (by kernel_rfl) (by kernel_rfl)
 have h106 := @run_callFunc_extern Tryz.prog 335 _ (ReflectliteType.relation "AssignableTo" ReflectliteType.assignableTo) Tryz.func335 (by kernel_rfl) (by kernel_rfl) (by kernel_rfl) (by kernel_rfl)
 have h79 := @run_callFunc_extern Tryz.prog 255 _ (ReflectliteValue.method (ReflectliteValue.valueError "reflectlite.Value.Elem" 0) ReflectliteValue.elem) Tryz.func255 (by kernel_rfl) (by kernel_rfl) (by kernel_rfl) (by kernel_rfl)
 have h80 := @run_callFunc_extern Tryz.prog 256 _ ReflectliteValue.set Tryz.func256 (by kernel_rfl) (by kernel_rfl) (by kernel_rfl) (by kernel_rfl)
 have tO := typeOf23
 have tO51 := typeOf51
 have a23 := assignable23
 have a51 := assignable51
 have v23 := valueOf23
 have mA := methodAssignableTo
 have mU := methodUnwrap
 have t129 := at_noAs
 have t74 := at_wraps
 have hvl := lt_of_cell hv
 have htl := lt_of_cell ht0
 have hbl := lt_of_cell hbc
 have el := elemV92 vb t (w.alloc (.cells #[.pointer (some ⟨9, 217, none⟩), .pointer (some vb), .int .u64 150] 239)) (by rw [World.cell?_alloc_lt _ _ vb hvl]; exact hv)
 have st := set23 t ⟨w.heap.size + 1, 0, none⟩ n old ((w.alloc (.cells #[.pointer (some ⟨9, 217, none⟩), .pointer (some vb), .int .u64 150] 239)).alloc (.cells #[.int .i64 n] 43))
  (by simp) (by rw [World.cell?_alloc_lt _ _ t (by simp; omega), World.cell?_alloc_lt _ _ t htl]; exact ht0)
  (by rw [World.frozen?_alloc_old _ _ t (by simp; omega), World.frozen?_alloc_old _ _ t (Nat.ne_of_lt htl)]; exact hf0)
 have hU := zh (at_unwrap n b (w.alloc (.cells #[.pointer (some ⟨9, 217, none⟩), .pointer (some vb), .int .u64 150] 239)) (by rw [World.cell?_alloc_lt _ _ ⟨b, 0, none⟩ hbl]; exact hbc))
 go_enter Tryz.func180, Tryz.ntmps180
 go_wp2
 refine wp_loop_rounds 2 ?_
 rw [rounds_succ]
 go_wp2_with fail
 refine (uh hU).mono ?_
 rintro e w1 ⟨rfl, hw1⟩
 subst hw1
 go_wp2
 rw [rounds_succ]
 go_wp2
 go_ret
 exact ⟨rfl, rfl⟩
def ErrorType (w : World) : Prop := w.cell? ⟨1, 0, none⟩ = some (.iface 301 (.agg #[.pointer (some ⟨9, 41, none⟩)]))
theorem ErrorType.carry {w w' : World} (h : ErrorType w) (hb : Below w.heap.size w w') : ErrorType w' := (hb.cell (p := ⟨1, 0, none⟩) (lt_of_cell h)).trans h
theorem As_errno (n : Int) (t : Addr) (old : Value) (w : World) (hg : ErrorType w) (ht0 : w.cell? t = some old) (hf0 : w.frozen? t = false) :
  Calls Tryz.prog 132 #[.iface 43 (.int .i64 n), .iface 217 (.pointer (some t))] w fun e w' => e = .returned (.bool true) /\ w' = ((((w.alloc (.cells #[.pointer (some t)] 217)).alloc (.cells #[.pointer (some ⟨9, 217, none⟩), .pointer (some ⟨w.heap.size, 0, none⟩), .int .u64 150] 239)).alloc (.cells #[.pointer (some ⟨9, 217, none⟩), .pointer (some ⟨w.heap.size, 0, none⟩), .int .u64 150] 239)).alloc (.cells #[.int .i64 n] 43)).setCell t (.int .i64 n) := by
 have h70 := @run_callFunc_extern Tryz.prog 150 _ (fun args => ReflectliteValue.unpack (args.getD 0 (.tuple #[]))) Tryz.func150 (by kernel_rfl) (by kernel_rfl) (by kernel_rfl) (by kernel_rfl)
 have h71 := @run_callFunc_extern Tryz.prog 178 _ (ReflectliteValue.methodAny (ReflectliteValue.valueError "reflectlite.Value.Type" 0) (fun t _ _ _ => ReflectliteType.toType t)) Tryz.func178 (by kernel_rfl) (by kernel_rfl) (by kernel_rfl) (by kernel_rfl)
 have h72 := @run_callFunc_extern Tryz.prog 179 _ (ReflectliteValue.method (ReflectliteValue.valueError "reflectlite.Value.IsNil" 0) ReflectliteValue.isNil) Tryz.func179 (by kernel_rfl) (by kernel_rfl) (by kernel_rfl) (by kernel_rfl)
 have h96 := @run_callFunc_extern Tryz.prog 323 _ (ReflectliteType.abiMethod fun t => do pure (.int .u8 (<- Rtype.kind t))) Tryz.func323 (by kernel_rfl) (by kernel_rfl) (by kernel_rfl) (by kernel_rfl)
 have h108 := @run_callFunc_extern Tryz.prog 337 _ (ReflectliteType.method ReflectliteType.elem) Tryz.func337 (by kernel_rfl) (by kernel_rfl) (by kernel_rfl) (by kernel_rfl)
 have h109 := @run_callFunc_extern Tryz.prog 338 _ (ReflectliteType.relation "Implements" ReflectliteType.implements_) Tryz.func338 (by kernel_rfl) (by kernel_rfl) (by kernel_rfl) (by kernel_rfl)
 have f70 := valueOf92
 have f71 := type92
 have mK := methodKind
 have mE := methodElem
 have mI := methodImplements
 have k92 := kind92
 have k23 := kind23
 have e92 := elem92
 have i23 := implements23
 have n72 := isNil92 ⟨w.heap.size, 0, none⟩ t ((w.alloc (.cells #[.pointer (some t)] 217)).alloc (.cells #[.pointer (some ⟨9, 217, none⟩), .pointer (some ⟨w.heap.size, 0, none⟩), .int .u64 150] 239)) (by simp)
 have htl := lt_of_cell ht0
 have hlt := lt_of_cell hg
 have hg2 : ((w.alloc (.cells #[.pointer (some t)] 217)).alloc (.cells #[.pointer (some ⟨9, 217, none⟩), .pointer (some ⟨w.heap.size, 0, none⟩), .int .u64 150] 239)).cell? ⟨1, 0, none⟩ = some (.iface 301 (.agg #[.pointer (some ⟨9, 41, none⟩)])) := by
  rw [World.cell?_alloc_lt _ _ ⟨1, 0, none⟩ (Nat.lt_of_lt_of_le hlt (by simp)), World.cell?_alloc_lt _ _ ⟨1, 0, none⟩ hlt]; exact hg
 have ht2 : ((w.alloc (.cells #[.pointer (some t)] 217)).alloc (.cells #[.pointer (some ⟨9, 217, none⟩), .pointer (some ⟨w.heap.size, 0, none⟩), .int .u64 150] 239)).cell? t = some old := by
  rw [World.cell?_alloc_lt _ _ t (by simp; omega), World.cell?_alloc_lt _ _ t htl]; exact ht0
 have hf2 : ((w.alloc (.cells #[.pointer (some t)] 217)).alloc (.cells #[.pointer (some ⟨9, 217, none⟩), .pointer (some ⟨w.heap.size, 0, none⟩), .int .u64 150] 239)).frozen? t = false := by
  rw [World.frozen?_alloc_old _ _ t (by simp; omega), World.frozen?_alloc_old _ _ t (Nat.ne_of_lt htl)]; exact hf0
 have HA := zh (as_errno n t ⟨w.heap.size, 0, none⟩ old ((w.alloc (.cells #[.pointer (some t)] 217)).alloc (.cells #[.pointer (some ⟨9, 217, none⟩), .pointer (some ⟨w.heap.size, 0, none⟩), .int .u64 150] 239)) (by simp) ht2 hf2)
 clear ht2 hf2 ht0 hf0
 go_enter Tryz.func132, Tryz.ntmps132
 go_wp2_with (go_at_call 180; refine (uh HA).mono ?_; rintro e w' ⟨rfl, rfl⟩)
 go_ret
 exact ⟨rfl, rfl⟩
theorem As_at (n : Int) (b : Nat) (t : Addr) (old : Value) (w : World) (hbc : w.cell? ⟨b, 0, none⟩ = some (.int .i64 n)) (hg : ErrorType w) (ht0 : w.cell? t = some old) (hf0 : w.frozen? t = false) :
  Calls Tryz.prog 132 #[.iface 164 (.pointer (some ⟨b, 0, none⟩)), .iface 217 (.pointer (some t))] w fun e w' => e = .returned (.bool true) /\ w' = ((((w.alloc (.cells #[.pointer (some t)] 217)).alloc (.cells #[.pointer (some ⟨9, 217, none⟩), .pointer (some ⟨w.heap.size, 0, none⟩), .int .u64 150] 239)).alloc (.cells #[.pointer (some ⟨9, 217, none⟩), .pointer (some ⟨w.heap.size, 0, none⟩), .int .u64 150] 239)).alloc (.cells #[.int .i64 n] 43)).setCell t (.int .i64 n) := by
 have h70 := @run_callFunc_extern Tryz.prog 150 _ (fun args => ReflectliteValue.unpack (args.getD 0 (.tuple #[]))) Tryz.func150 (by kernel_rfl) (by kernel_rfl) (by kernel_rfl) (by kernel_rfl)
 have h71 := @run_callFunc_extern Tryz.prog 178 _ (ReflectliteValue.methodAny (ReflectliteValue.valueError "reflectlite.Value.Type" 0) (fun t _ _ _ => ReflectliteType.toType t)) Tryz.func178 (by kernel_rfl) (by kernel_rfl) (by kernel_rfl) (by kernel_rfl)
 have h72 := @run_callFunc_extern Tryz.prog 179 _ (ReflectliteValue.method (ReflectliteValue.valueError "reflectlite.Value.IsNil" 0) ReflectliteValue.isNil) Tryz.func179 (by kernel_rfl) (by kernel_rfl) (by kernel_rfl) (by kernel_rfl)
 have h96 := @run_callFunc_extern Tryz.prog 323 _ (ReflectliteType.abiMethod fun t => do pure (.int .u8 (<- Rtype.kind t))) Tryz.func323 (by kernel_rfl) (by kernel_rfl) (by kernel_rfl) (by kernel_rfl)
 have h108 := @run_callFunc_extern Tryz.prog 337 _ (ReflectliteType.method ReflectliteType.elem) Tryz.func337 (by kernel_rfl) (by kernel_rfl) (by kernel_rfl) (by kernel_rfl)
 have h109 := @run_callFunc_extern Tryz.prog 338 _ (ReflectliteType.relation "Implements" ReflectliteType.implements_) Tryz.func338 (by kernel_rfl) (by kernel_rfl) (by kernel_rfl) (by kernel_rfl)
 have f70 := valueOf92
 have f71 := type92
 have mK := methodKind
 have mE := methodElem
 have mI := methodImplements
 have k92 := kind92
 have k23 := kind23
 have e92 := elem92
 have i23 := implements23
 have n72 := isNil92 ⟨w.heap.size, 0, none⟩ t ((w.alloc (.cells #[.pointer (some t)] 217)).alloc (.cells #[.pointer (some ⟨9, 217, none⟩), .pointer (some ⟨w.heap.size, 0, none⟩), .int .u64 150] 239)) (by simp)
 have htl := lt_of_cell ht0
 have hlt := lt_of_cell hg
 have hg2 : ((w.alloc (.cells #[.pointer (some t)] 217)).alloc (.cells #[.pointer (some ⟨9, 217, none⟩), .pointer (some ⟨w.heap.size, 0, none⟩), .int .u64 150] 239)).cell? ⟨1, 0, none⟩ = some (.iface 301 (.agg #[.pointer (some ⟨9, 41, none⟩)])) := by
  rw [World.cell?_alloc_lt _ _ ⟨1, 0, none⟩ (Nat.lt_of_lt_of_le hlt (by simp)), World.cell?_alloc_lt _ _ ⟨1, 0, none⟩ hlt]; exact hg
 have ht2 : ((w.alloc (.cells #[.pointer (some t)] 217)).alloc (.cells #[.pointer (some ⟨9, 217, none⟩), .pointer (some ⟨w.heap.size, 0, none⟩), .int .u64 150] 239)).cell? t = some old := by
  rw [World.cell?_alloc_lt _ _ t (by simp; omega), World.cell?_alloc_lt _ _ t htl]; exact ht0
 have hf2 : ((w.alloc (.cells #[.pointer (some t)] 217)).alloc (.cells #[.pointer (some ⟨9, 217, none⟩), .pointer (some ⟨w.heap.size, 0, none⟩), .int .u64 150] 239)).frozen? t = false := by
  rw [World.frozen?_alloc_old _ _ t (by simp; omega), World.frozen?_alloc_old _ _ t (Nat.ne_of_lt htl)]; exact hf0
 have hbl : b < w.heap.size := lt_of_cell hbc
 have HA := zh (as_at n b t ⟨w.heap.size, 0, none⟩ old ((w.alloc (.cells #[.pointer (some t)] 217)).alloc (.cells #[.pointer (some ⟨9, 217, none⟩), .pointer (some ⟨w.heap.size, 0, none⟩), .int .u64 150] 239)) (by rw [World.cell?_alloc_lt _ _ ⟨b, 0, none⟩ (by simp; omega), World.cell?_alloc_lt _ _ ⟨b, 0, none⟩ hbl]; exact hbc) (by simp) ht2 hf2)
 clear ht2 hf2 ht0 hf0
 go_enter Tryz.func132, Tryz.ntmps132
 go_wp2_with (go_at_call 180; refine (uh HA).mono ?_; rintro e w' ⟨rfl, rfl⟩)
 go_ret
 exact ⟨rfl, rfl⟩
theorem below_tell {w : World} {o1 o2 o3 o4 o5 : Obj} (v : Value) : Below w.heap.size w ((((((w.alloc o1).alloc o2).alloc o3).alloc o4).alloc o5).setCell ⟨w.heap.size, 0, none⟩ v) :=
 ((((((Below.refl _ _).alloc zr _).alloc (by simp) _).alloc (by simp; omega) _).alloc (by simp; omega) _).alloc (by simp; omega) _).setCell zr _
theorem cell_tell {w : World} {c : Value} {t : TypeId} {o2 o3 o4 o5 : Obj} (v : Value) : ((((((w.alloc (.cells #[c] t)).alloc o2).alloc o3).alloc o4).alloc o5).setCell ⟨w.heap.size, 0, none⟩ v).cell? ⟨w.heap.size, 0, none⟩ = some v := by
 have hh : (((((w.alloc (.cells #[c] t)).alloc o2).alloc o3).alloc o4).alloc o5).heap[w.heap.size]? = some (.cells #[c] t (0, 0)) := by
  rw [Below.heap_alloc _ _ _ (by simp; omega), Below.heap_alloc _ _ _ (by simp; omega), Below.heap_alloc _ _ _ (by simp; omega), Below.heap_alloc _ _ _ (by simp)]
  exact heap_alloc_new w _
 have h2 := heap_setCell_same _ w.heap.size 0 #[c] t v hh
 simp only [World.cell?, h2]
 simp
theorem Tell_errno (n : Int) (w : World) (hg : ErrorType w) :
  Calls Tryz.prog 82 #[.iface 43 (.int .i64 n)] w fun e w' => e = .returned (.int .i64 n) /\ Below w.heap.size w w' := by
 have hlt : 1 < w.heap.size := lt_of_cell hg
 have hg1 : ErrorType (w.alloc (.cells #[.int .i64 0] 43)) := (World.cell?_alloc_lt _ _ ⟨1, 0, none⟩ hlt).trans hg
 have HA := zh (As_errno n ⟨w.heap.size, 0, none⟩ (.int .i64 0) (w.alloc (.cells #[.int .i64 0] 43)) hg1 (by simp) (by simp))
 clear hg1 hg
 go_enter Tryz.func82, Tryz.ntmps82
 go_wp2_with fail
 refine (uh HA).mono ?_
 rintro e w1 ⟨rfl, hw1⟩
 have hb1 : Below w.heap.size w w1 := by rw [hw1]; exact below_tell _
 have hc1 : w1.cell? ⟨w.heap.size, 0, none⟩ = some (.int .i64 n) := by rw [hw1]; exact cell_tell _
 have HB := zh hb1
 clear hw1 hb1 HA
 go_wp2
 go_ret
 exact ⟨rfl, uh HB⟩
theorem Tell_at (n : Int) (b : Nat) (w : World) (hbc : w.cell? ⟨b, 0, none⟩ = some (.int .i64 n)) (hg : ErrorType w) :
  Calls Tryz.prog 82 #[.iface 164 (.pointer (some ⟨b, 0, none⟩))] w fun e w' => e = .returned (.int .i64 n) /\ Below w.heap.size w w' := by
 have hlt : 1 < w.heap.size := lt_of_cell hg
 have hg1 : ErrorType (w.alloc (.cells #[.int .i64 0] 43)) := (World.cell?_alloc_lt _ _ ⟨1, 0, none⟩ hlt).trans hg
 have hbl : b < w.heap.size := lt_of_cell hbc
 have HA := zh (As_at n b ⟨w.heap.size, 0, none⟩ (.int .i64 0) (w.alloc (.cells #[.int .i64 0] 43)) ((World.cell?_alloc_lt _ _ ⟨b, 0, none⟩ hbl).trans hbc) hg1 (by simp) (by simp))
 clear hg1 hg
 go_enter Tryz.func82, Tryz.ntmps82
 go_wp2_with fail
 refine (uh HA).mono ?_
 rintro e w1 ⟨rfl, hw1⟩
 have hb1 : Below w.heap.size w w1 := by rw [hw1]; exact below_tell _
 have hc1 : w1.cell? ⟨w.heap.size, 0, none⟩ = some (.int .i64 n) := by rw [hw1]; exact cell_tell _
 have HB := zh hb1
 clear hw1 hb1 HA
 go_wp2
 go_ret
 exact ⟨rfl, uh HB⟩
theorem Place_errno (n : Int) (w : World) (hg : ErrorType w) :
  Calls Tryz.prog 39 #[.iface 43 (.int .i64 n)] w fun e w' => e = .returned (.tuple #[.int .i64 n, .int .i64 (-1)]) /\ Below w.heap.size w w' := by
 have HT := zh (Tell_errno n w hg)
 have t51 := errno_noAt
 have t74 := errno_wrapsNot
 clear hg
 go_enter Tryz.func39, Tryz.ntmps39
 go_wp2_with fail
 refine (uh HT).mono ?_
 rintro e w1 ⟨rfl, b1⟩
 have HB := zh b1
 clear b1 HT
 go_wp2
 refine wp_loop_rounds 1 ?_
 rw [rounds_succ]
 go_wp2
 go_ret2
 exact ⟨rfl, uh HB⟩
theorem Place_at (n i : Int) (b : Nat) (w : World) (hbc : w.cell? ⟨b, 0, none⟩ = some (.int .i64 n)) (hbi : w.cell? ⟨b, 1, none⟩ = some (.int .i64 i)) (hg : ErrorType w) :
  Calls Tryz.prog 39 #[.iface 164 (.pointer (some ⟨b, 0, none⟩))] w fun e w' => e = .returned (.tuple #[.int .i64 n, .int .i64 i]) /\ Below w.heap.size w w' := by
 have HT := zh (Tell_at n b w hbc hg)
 have t51 := at_isAt
 have hbl : b < w.heap.size := lt_of_cell hbc
 have HI := zh hbi
 clear hg hbc hbi
 go_enter Tryz.func39, Tryz.ntmps39
 go_wp2_with fail
 refine (uh HT).mono ?_
 rintro e w1 ⟨rfl, b1⟩
 have hi1 := (b1.cell (p := ⟨b, 1, none⟩) hbl).trans (uh HI)
 have HB := zh b1
 clear b1 HT HI
 go_wp2
 refine wp_loop_rounds 1 ?_
 rw [rounds_succ]
 go_wp2
 go_quiet (fail)
 go_wp2
 go_ret2
 exact ⟨rfl, (uh HB).trans ⟨rfl, rfl, rfl, Nat.le_refl _, fun _ _ => rfl⟩⟩
theorem bare_of (n : Int) (w : World) :
  Calls Tryz.prog 44 #[.int .i64 n] w fun e w' => e = .returned (.agg #[.int .i64 n, .int .i64 (-1)]) /\ Below w.heap.size w w' := by
 go_enter Tryz.func44, Tryz.ntmps44
 go_wp2
 exact bodyPost_ret (v := .agg #[.int .i64 n, .int .i64 (-1)]) (by simp [results, Tryz.results44, go_sem]) rfl ⟨rfl, (Below.refl _ _).alloc zr _⟩
theorem law_is (err : Value) (n i : Int) (w : World) (h : ∀ W, Below w.heap.size w W -> Calls Tryz.prog 39 #[err] W fun e w' => e = .returned (.tuple #[.int .i64 n, .int .i64 i]) /\ Below W.heap.size W w') :
  Calls Tryz.prog 6 #[err, .agg #[.int .i64 n, .int .i64 i]] w fun e w' => e = .returned (.bool true) /\ Below w.heap.size w w' := by
 have HP := zh (h (w.alloc (.cells #[.int .i64 n, .int .i64 i] 45)) ((Below.refl _ _).alloc zr _))
 clear h
 go_enter Tryz.func6, Tryz.ntmps6
 go_wp2_with fail
 refine (uh HP).mono ?_
 rintro e w1 ⟨rfl, b1⟩
 have c0 : w1.cell? ⟨w.heap.size, 0, none⟩ = some (.int .i64 n) := (b1.cell (p := ⟨w.heap.size, 0, none⟩) (by simp)).trans (by simp)
 have c1 : w1.cell? ⟨w.heap.size, 1, none⟩ = some (.int .i64 i) := (b1.cell (p := ⟨w.heap.size, 1, none⟩) (by simp)).trans (by simp)
 have HB : Hid (Below w.heap.size w w1) := ((Below.refl _ _).alloc zr _).trans (b1.mono (by simp))
 clear b1 HP
 go_wp2
 go_ret
 exact ⟨rfl, HB.out⟩
theorem law_bare (n : Int) (w : World) (hg : ErrorType w) :
  Calls Tryz.prog 10 #[.iface 43 (.int .i64 n), .int .i64 n] w fun e w' => e = .returned (.bool true) /\ Below w.heap.size w w' := by
 have HB := zh (bare_of n w)
 have HI := zh (fun W (h : Below w.heap.size w W) => law_is (.iface 43 (.int .i64 n)) n (-1) W (fun W' h' => Place_errno n W' ((hg.carry h).carry h')))
 clear hg
 go_enter Tryz.func10, Tryz.ntmps10
 go_wp2_with fail
 refine (uh HB).mono ?_
 rintro e w1 ⟨rfl, b1⟩
 have HI1 := zh (uh HI w1 b1)
 have B1 := zh b1
 clear b1 HI HB
 go_wp2_with fail
 refine (uh HI1).mono ?_
 rintro e w2 ⟨rfl, b2⟩
 have B2 := zh ((uh B1).trans (b2.mono (uh B1).size))
 clear b2 HI1 B1
 go_wp2
 go_ret
 exact ⟨rfl, uh B2⟩
theorem Tell_nil (w : World) : Calls Tryz.prog 82 #[.nilIface] w fun e w' => e = .returned (.int .i64 0) /\ w' = w := by
 go_enter Tryz.func82, Tryz.ntmps82
 go_wp2
 go_ret
 exact ⟨rfl, rfl⟩
theorem Place_nil (w : World) : Calls Tryz.prog 39 #[.nilIface] w fun e w' => e = .returned (.tuple #[.int .i64 0, .int .i64 (-1)]) /\ Below w.heap.size w w' := by
 have HT := zh (Tell_nil w)
 go_enter Tryz.func39, Tryz.ntmps39
 go_wp2_with fail
 refine (uh HT).mono ?_
 rintro e w1 ⟨rfl, rfl⟩
 go_wp2
 refine wp_loop_rounds 1 ?_
 rw [rounds_succ]
 go_wp2
 go_ret2
 exact ⟨rfl, Below.refl _ _⟩
end Go.Proofs.YtfoojmflbifkpaaGreatDoor
