/- What errors.as does at an error number, and at an error with a place. -/
import Derived.Test.YtfcmkaiocnelgaaDoorAs
namespace Go.Proofs.YtfcmkaiocnelgaaDoor
open Go.RowKit Go.Extern.Stop Go.Stop Go.Extern

theorem methodKind (h : Value) (w : World) : (Go.method 396 229 (.agg #[h]) "Kind").run Tryd.prog w = .ok (211, h) w := by kernel_rfl
theorem methodElem (h : Value) (w : World) : (Go.method 396 229 (.agg #[h]) "Elem").run Tryd.prog w = .ok (227, .agg #[h]) w := by kernel_rfl
theorem methodImplements (h : Value) (w : World) : (Go.method 396 229 (.agg #[h]) "Implements").run Tryd.prog w = .ok (228, .agg #[h]) w := by kernel_rfl
theorem methodAssignableTo (h : Value) (w : World) : (Go.method 396 229 (.agg #[h]) "AssignableTo").run Tryd.prog w = .ok (225, .agg #[h]) w := by kernel_rfl


set_option maxRecDepth 100000 in
set_option maxHeartbeats 4000000 in
theorem as_errno (n : Int) (t vb : Addr) (old : Value) (w : World) (hv : w.cell? vb = some (.pointer (some t))) (ht0 : w.cell? t = some old) (hf0 : w.frozen? t = false) :
    Calls Tryd.prog 150 #[.iface 23 (.int .i64 n), .iface 184 (.pointer (some t)), .agg #[.pointer (some ⟨9, 184, none⟩), .pointer (some vb), .int .u64 150], .iface 229 (.agg #[.pointer (some ⟨9, 23, none⟩)])] w fun e w' => e = .returned (.bool true) ∧ w' = ((w.alloc (.cells #[.pointer (some ⟨9, 184, none⟩), .pointer (some vb), .int .u64 150] 203)).alloc (.cells #[.int .i64 n] 23)).setCell t (.int .i64 n) := by
  have h70 := @run_callFunc_extern Tryd.prog 147 _ (fun args => ReflectliteValue.unpack (args.getD 0 (.tuple #[]))) Tryd.func147 (by kernel_rfl) (by kernel_rfl) (by kernel_rfl) (by kernel_rfl)
  have h78 := @run_callFunc_extern Tryd.prog 168 _ ReflectliteType.typeOf Tryd.func168 (by kernel_rfl) (by kernel_rfl) (by kernel_rfl) (by kernel_rfl)
  have h106 := @run_callFunc_extern Tryd.prog 225 _ (ReflectliteType.relation "AssignableTo" ReflectliteType.assignableTo) Tryd.func225 (by kernel_rfl) (by kernel_rfl) (by kernel_rfl) (by kernel_rfl)
  have h79 := @run_callFunc_extern Tryd.prog 169 _ (ReflectliteValue.method (ReflectliteValue.valueError "reflectlite.Value.Elem" 0) ReflectliteValue.elem) Tryd.func169 (by kernel_rfl) (by kernel_rfl) (by kernel_rfl) (by kernel_rfl)
  have h80 := @run_callFunc_extern Tryd.prog 170 _ ReflectliteValue.set Tryd.func170 (by kernel_rfl) (by kernel_rfl) (by kernel_rfl) (by kernel_rfl)
  have tO := typeOf23
  have a23 := assignable23
  have v23 := valueOf23
  have mA := methodAssignableTo
  have hvl := lt_of_cell hv
  have htl := lt_of_cell ht0
  have el := elemV92 vb t (w.alloc (.cells #[.pointer (some ⟨9, 184, none⟩), .pointer (some vb), .int .u64 150] 203)) (by rw [World.cell?_alloc_lt _ _ vb hvl]; exact hv)
  have st := set23 t ⟨w.heap.size + 1, 0, none⟩ n old ((w.alloc (.cells #[.pointer (some ⟨9, 184, none⟩), .pointer (some vb), .int .u64 150] 203)).alloc (.cells #[.int .i64 n] 23))
    (by simp) (by rw [World.cell?_alloc_lt _ _ t (by simp; omega), World.cell?_alloc_lt _ _ t htl]; exact ht0)
    (by rw [World.frozen?_alloc_old _ _ t (by simp; omega), World.frozen?_alloc_old _ _ t (Nat.ne_of_lt htl)]; exact hf0)
  go_enter Tryd.func150, Tryd.ntmps150
  go_wp2
  refine wp_loop_rounds 1 ?_
  rw [rounds_succ]
  go_wp2
  go_ret
  exact ⟨rfl, rfl⟩

set_option maxRecDepth 100000 in
set_option maxHeartbeats 400000 in
theorem at_unwrap (n : Int) (b : Nat) (w : World) (hc : w.cell? ⟨b, 0, none⟩ = some (.int .i64 n)) :
    Calls Tryd.prog 216 #[.pointer (some ⟨b, 0, none⟩)] w fun e w' => e = .returned (.iface 23 (.int .i64 n)) ∧ w' = w := by
  go_enter Tryd.func216, Tryd.ntmps216
  go_wp2
  go_ret
  exact ⟨rfl, rfl⟩

theorem at_noAs (a : Addr) (w : World) : (Instr.typeAssert (.iface 96 (.pointer (some a))) 33 234 true).run Tryd.prog w = .ok (.tuple #[.nilIface, .bool false]) w :=
  run_typeAssert_lacksB Tryd.underlying234 (by kernel_rfl) (by kernel_rfl) _ 33 w
theorem at_wraps (a : Addr) (w : World) : (Instr.typeAssert (.iface 96 (.pointer (some a))) 33 148 true).run Tryd.prog w = .ok (.tuple #[.iface 96 (.pointer (some a)), .bool true]) w := by kernel_rfl
theorem at_isAt (a : Addr) (w : World) : (Instr.typeAssert (.iface 96 (.pointer (some a))) 33 96 true).run Tryd.prog w = .ok (.tuple #[.pointer (some a), .bool true]) w := by kernel_rfl
theorem errno_noAt (n : Int) (w : World) : (Instr.typeAssert (.iface 23 (.int .i64 n)) 33 96 true).run Tryd.prog w = .ok (.tuple #[.pointer none, .bool false]) w := by kernel_rfl
theorem errno_wrapsNot (n : Int) (w : World) : (Instr.typeAssert (.iface 23 (.int .i64 n)) 33 148 true).run Tryd.prog w = .ok (.tuple #[.nilIface, .bool false]) w :=
  run_typeAssert_lacksB Tryd.underlying148 (by kernel_rfl) (by kernel_rfl) _ 33 w
theorem methodUnwrap (a : Addr) (w : World) : (Go.method 396 96 (.pointer (some a)) "Unwrap").run Tryd.prog w = .ok (216, .pointer (some a)) w := by kernel_rfl

set_option maxRecDepth 100000 in
set_option maxHeartbeats 4000000 in
theorem as_at (n : Int) (b : Nat) (t vb : Addr) (old : Value) (w : World) (hbc : w.cell? ⟨b, 0, none⟩ = some (.int .i64 n)) (hv : w.cell? vb = some (.pointer (some t))) (ht0 : w.cell? t = some old) (hf0 : w.frozen? t = false) :
    Calls Tryd.prog 150 #[.iface 96 (.pointer (some ⟨b, 0, none⟩)), .iface 184 (.pointer (some t)), .agg #[.pointer (some ⟨9, 184, none⟩), .pointer (some vb), .int .u64 150], .iface 229 (.agg #[.pointer (some ⟨9, 23, none⟩)])] w fun e w' => e = .returned (.bool true) ∧ w' = ((w.alloc (.cells #[.pointer (some ⟨9, 184, none⟩), .pointer (some vb), .int .u64 150] 203)).alloc (.cells #[.int .i64 n] 23)).setCell t (.int .i64 n) := by
  have h70 := @run_callFunc_extern Tryd.prog 147 _ (fun args => ReflectliteValue.unpack (args.getD 0 (.tuple #[]))) Tryd.func147 (by kernel_rfl) (by kernel_rfl) (by kernel_rfl) (by kernel_rfl)
  have h78 := @run_callFunc_extern Tryd.prog 168 _ ReflectliteType.typeOf Tryd.func168 (by kernel_rfl) (by kernel_rfl) (by kernel_rfl) (by kernel_rfl)
  have h106 := @run_callFunc_extern Tryd.prog 225 _ (ReflectliteType.relation "AssignableTo" ReflectliteType.assignableTo) Tryd.func225 (by kernel_rfl) (by kernel_rfl) (by kernel_rfl) (by kernel_rfl)
  have h79 := @run_callFunc_extern Tryd.prog 169 _ (ReflectliteValue.method (ReflectliteValue.valueError "reflectlite.Value.Elem" 0) ReflectliteValue.elem) Tryd.func169 (by kernel_rfl) (by kernel_rfl) (by kernel_rfl) (by kernel_rfl)
  have h80 := @run_callFunc_extern Tryd.prog 170 _ ReflectliteValue.set Tryd.func170 (by kernel_rfl) (by kernel_rfl) (by kernel_rfl) (by kernel_rfl)
  have tO := typeOf23
  have tO51 := typeOf51
  have a23 := assignable23
  have a51 := assignable51
  have v23 := valueOf23
  have mA := methodAssignableTo
  have mU := methodUnwrap
  have t129 := at_noAs
  have t74 := at_wraps
  have hvl := lt_of_cell hv
  have htl := lt_of_cell ht0
  have hbl := lt_of_cell hbc
  have el := elemV92 vb t (w.alloc (.cells #[.pointer (some ⟨9, 184, none⟩), .pointer (some vb), .int .u64 150] 203)) (by rw [World.cell?_alloc_lt _ _ vb hvl]; exact hv)
  have st := set23 t ⟨w.heap.size + 1, 0, none⟩ n old ((w.alloc (.cells #[.pointer (some ⟨9, 184, none⟩), .pointer (some vb), .int .u64 150] 203)).alloc (.cells #[.int .i64 n] 23))
    (by simp) (by rw [World.cell?_alloc_lt _ _ t (by simp; omega), World.cell?_alloc_lt _ _ t htl]; exact ht0)
    (by rw [World.frozen?_alloc_old _ _ t (by simp; omega), World.frozen?_alloc_old _ _ t (Nat.ne_of_lt htl)]; exact hf0)
  have hU := hide (at_unwrap n b (w.alloc (.cells #[.pointer (some ⟨9, 184, none⟩), .pointer (some vb), .int .u64 150] 203)) (by rw [World.cell?_alloc_lt _ _ ⟨b, 0, none⟩ hbl]; exact hbc))
  go_enter Tryd.func150, Tryd.ntmps150
  go_wp2
  refine wp_loop_rounds 2 ?_
  rw [rounds_succ]
  go_wp2_with fail
  refine (unhide hU).mono ?_
  rintro e w1 ⟨rfl, hw1⟩
  subst hw1
  go_wp2
  rw [rounds_succ]
  go_wp2
  go_ret
  exact ⟨rfl, rfl⟩

end Go.Proofs.YtfcmkaiocnelgaaDoor
