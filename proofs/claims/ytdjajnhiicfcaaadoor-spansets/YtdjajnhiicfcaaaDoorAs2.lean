/- What errors.as does at an error number, and at an error with a place. -/
import Derived.Test.YtdjajnhiicfcaaaDoorAs
namespace Go.Proofs.YtdjajnhiicfcaaaDoor
open Go.RowKit Go.Extern.Stop Go.Stop Go.Extern

theorem methodKind (h : Value) (w : World) : (Go.method 265 124 (.agg #[h]) "Kind").run Tryd.prog w = .ok (96, h) w := by kernel_rfl
theorem methodElem (h : Value) (w : World) : (Go.method 265 124 (.agg #[h]) "Elem").run Tryd.prog w = .ok (108, .agg #[h]) w := by kernel_rfl
theorem methodImplements (h : Value) (w : World) : (Go.method 265 124 (.agg #[h]) "Implements").run Tryd.prog w = .ok (109, .agg #[h]) w := by kernel_rfl
theorem methodAssignableTo (h : Value) (w : World) : (Go.method 265 124 (.agg #[h]) "AssignableTo").run Tryd.prog w = .ok (106, .agg #[h]) w := by kernel_rfl

theorem lt_of_cell {w : World} {a : Addr} {v : Value} (h : w.cell? a = some v) : a.block < w.heap.size := World.block_lt_of_cell? w a h

set_option maxRecDepth 100000 in
set_option maxHeartbeats 4000000 in
theorem as_errno (n : Int) (t vb : Addr) (old : Value) (w : World) (hv : w.cell? vb = some (.pointer (some t))) (ht0 : w.cell? t = some old) (hf0 : w.frozen? t = false) :
    Calls Tryd.prog 73 #[.iface 23 (.int .i64 n), .iface 92 (.pointer (some t)), .agg #[.pointer (some ⟨1, 92, none⟩), .pointer (some vb), .int .u64 150], .iface 124 (.agg #[.pointer (some ⟨1, 23, none⟩)])] w fun e w' => e = .returned (.bool true) ∧ w' = ((w.alloc (.cells #[.pointer (some ⟨1, 92, none⟩), .pointer (some vb), .int .u64 150] 108)).alloc (.cells #[.int .i64 n] 23)).setCell t (.int .i64 n) := by
  have h70 := @run_callFunc_extern Tryd.prog 70 _ (fun args => ReflectliteValue.unpack (args.getD 0 (.tuple #[]))) Tryd.func70 (by kernel_rfl) (by kernel_rfl) (by kernel_rfl) (by kernel_rfl)
  have h78 := @run_callFunc_extern Tryd.prog 78 _ ReflectliteType.typeOf Tryd.func78 (by kernel_rfl) (by kernel_rfl) (by kernel_rfl) (by kernel_rfl)
  have h106 := @run_callFunc_extern Tryd.prog 106 _ (ReflectliteType.relation "AssignableTo" ReflectliteType.assignableTo) Tryd.func106 (by kernel_rfl) (by kernel_rfl) (by kernel_rfl) (by kernel_rfl)
  have h79 := @run_callFunc_extern Tryd.prog 79 _ (ReflectliteValue.method (ReflectliteValue.valueError "reflectlite.Value.Elem" 0) ReflectliteValue.elem) Tryd.func79 (by kernel_rfl) (by kernel_rfl) (by kernel_rfl) (by kernel_rfl)
  have h80 := @run_callFunc_extern Tryd.prog 80 _ ReflectliteValue.set Tryd.func80 (by kernel_rfl) (by kernel_rfl) (by kernel_rfl) (by kernel_rfl)
  have tO := typeOf23
  have a23 := assignable23
  have v23 := valueOf23
  have mA := methodAssignableTo
  have hvl := lt_of_cell hv
  have htl := lt_of_cell ht0
  have el := elemV92 vb t (w.alloc (.cells #[.pointer (some ⟨1, 92, none⟩), .pointer (some vb), .int .u64 150] 108)) (by rw [World.cell?_alloc_lt _ _ vb hvl]; exact hv)
  have st := set23 t ⟨w.heap.size + 1, 0, none⟩ n old ((w.alloc (.cells #[.pointer (some ⟨1, 92, none⟩), .pointer (some vb), .int .u64 150] 108)).alloc (.cells #[.int .i64 n] 23))
    (by simp) (by rw [World.cell?_alloc_lt _ _ t (by simp; omega), World.cell?_alloc_lt _ _ t htl]; exact ht0)
    (by rw [World.frozen?_alloc_old _ _ t (by simp; omega), World.frozen?_alloc_old _ _ t (Nat.ne_of_lt htl)]; exact hf0)
  go_enter Tryd.func73, Tryd.ntmps73
  go_wp2
  refine wp_loop_rounds 1 ?_
  rw [rounds_succ]
  go_wp2
  go_ret
  exact ⟨rfl, rfl⟩

set_option maxRecDepth 100000 in
set_option maxHeartbeats 400000 in
theorem at_unwrap (n : Int) (b : Nat) (w : World) (hc : w.cell? ⟨b, 0, none⟩ = some (.int .i64 n)) :
    Calls Tryd.prog 101 #[.pointer (some ⟨b, 0, none⟩)] w fun e w' => e = .returned (.iface 23 (.int .i64 n)) ∧ w' = w := by
  go_enter Tryd.func101, Tryd.ntmps101
  go_wp2
  go_ret
  exact ⟨rfl, rfl⟩

theorem at_noAs (a : Addr) (w : World) : (Instr.typeAssert (.iface 51 (.pointer (some a))) 33 129 true).run Tryd.prog w = .ok (.tuple #[.nilIface, .bool false]) w :=
  run_typeAssert_lacksB Tryd.underlying129 (by kernel_rfl) (by kernel_rfl) _ 33 w
theorem at_wraps (a : Addr) (w : World) : (Instr.typeAssert (.iface 51 (.pointer (some a))) 33 74 true).run Tryd.prog w = .ok (.tuple #[.iface 51 (.pointer (some a)), .bool true]) w := by kernel_rfl
theorem at_isAt (a : Addr) (w : World) : (Instr.typeAssert (.iface 51 (.pointer (some a))) 33 51 true).run Tryd.prog w = .ok (.tuple #[.pointer (some a), .bool true]) w := by kernel_rfl
theorem errno_noAt (n : Int) (w : World) : (Instr.typeAssert (.iface 23 (.int .i64 n)) 33 51 true).run Tryd.prog w = .ok (.tuple #[.pointer none, .bool false]) w := by kernel_rfl
theorem errno_wrapsNot (n : Int) (w : World) : (Instr.typeAssert (.iface 23 (.int .i64 n)) 33 74 true).run Tryd.prog w = .ok (.tuple #[.nilIface, .bool false]) w :=
  run_typeAssert_lacksB Tryd.underlying74 (by kernel_rfl) (by kernel_rfl) _ 33 w
theorem methodUnwrap (a : Addr) (w : World) : (Go.method 265 51 (.pointer (some a)) "Unwrap").run Tryd.prog w = .ok (101, .pointer (some a)) w := by kernel_rfl

set_option maxRecDepth 100000 in
set_option maxHeartbeats 4000000 in
theorem as_at (n : Int) (b : Nat) (t vb : Addr) (old : Value) (w : World) (hbc : w.cell? ⟨b, 0, none⟩ = some (.int .i64 n)) (hv : w.cell? vb = some (.pointer (some t))) (ht0 : w.cell? t = some old) (hf0 : w.frozen? t = false) :
    Calls Tryd.prog 73 #[.iface 51 (.pointer (some ⟨b, 0, none⟩)), .iface 92 (.pointer (some t)), .agg #[.pointer (some ⟨1, 92, none⟩), .pointer (some vb), .int .u64 150], .iface 124 (.agg #[.pointer (some ⟨1, 23, none⟩)])] w fun e w' => e = .returned (.bool true) ∧ w' = ((w.alloc (.cells #[.pointer (some ⟨1, 92, none⟩), .pointer (some vb), .int .u64 150] 108)).alloc (.cells #[.int .i64 n] 23)).setCell t (.int .i64 n) := by
  have h70 := @run_callFunc_extern Tryd.prog 70 _ (fun args => ReflectliteValue.unpack (args.getD 0 (.tuple #[]))) Tryd.func70 (by kernel_rfl) (by kernel_rfl) (by kernel_rfl) (by kernel_rfl)
  have h78 := @run_callFunc_extern Tryd.prog 78 _ ReflectliteType.typeOf Tryd.func78 (by kernel_rfl) (by kernel_rfl) (by kernel_rfl) (by kernel_rfl)
  have h106 := @run_callFunc_extern Tryd.prog 106 _ (ReflectliteType.relation "AssignableTo" ReflectliteType.assignableTo) Tryd.func106 (by kernel_rfl) (by kernel_rfl) (by kernel_rfl) (by kernel_rfl)
  have h79 := @run_callFunc_extern Tryd.prog 79 _ (ReflectliteValue.method (ReflectliteValue.valueError "reflectlite.Value.Elem" 0) ReflectliteValue.elem) Tryd.func79 (by kernel_rfl) (by kernel_rfl) (by kernel_rfl) (by kernel_rfl)
  have h80 := @run_callFunc_extern Tryd.prog 80 _ ReflectliteValue.set Tryd.func80 (by kernel_rfl) (by kernel_rfl) (by kernel_rfl) (by kernel_rfl)
  have tO := typeOf23
  have tO51 := typeOf51
  have a23 := assignable23
  have a51 := assignable51
  have v23 := valueOf23
  have mA := methodAssignableTo
  have mU := methodUnwrap
  have t129 := at_noAs
  have t74 := at_wraps
  have hvl := lt_of_cell hv
  have htl := lt_of_cell ht0
  have hbl := lt_of_cell hbc
  have el := elemV92 vb t (w.alloc (.cells #[.pointer (some ⟨1, 92, none⟩), .pointer (some vb), .int .u64 150] 108)) (by rw [World.cell?_alloc_lt _ _ vb hvl]; exact hv)
  have st := set23 t ⟨w.heap.size + 1, 0, none⟩ n old ((w.alloc (.cells #[.pointer (some ⟨1, 92, none⟩), .pointer (some vb), .int .u64 150] 108)).alloc (.cells #[.int .i64 n] 23))
    (by simp) (by rw [World.cell?_alloc_lt _ _ t (by simp; omega), World.cell?_alloc_lt _ _ t htl]; exact ht0)
    (by rw [World.frozen?_alloc_old _ _ t (by simp; omega), World.frozen?_alloc_old _ _ t (Nat.ne_of_lt htl)]; exact hf0)
  have hU := hide (at_unwrap n b (w.alloc (.cells #[.pointer (some ⟨1, 92, none⟩), .pointer (some vb), .int .u64 150] 108)) (by rw [World.cell?_alloc_lt _ _ ⟨b, 0, none⟩ hbl]; exact hbc))
  go_enter Tryd.func73, Tryd.ntmps73
  go_wp2
  refine wp_loop_rounds 2 ?_
  rw [rounds_succ]
  go_wp2_with fail
  refine (unhide hU).mono ?_
  rintro e w1 ⟨rfl, hw1⟩
  subst hw1
  go_wp2
  rw [rounds_succ]
  go_wp2
  go_ret
  exact ⟨rfl, rfl⟩

end Go.Proofs.YtdjajnhiicfcaaaDoor
