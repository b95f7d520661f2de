/- What an error that a set's functions hand back tells: its number, and its place. -/
import Derived.Test.YtfcmkaiocnelgaaDoorAs3
namespace Go.Proofs.YtfcmkaiocnelgaaDoor
open Go.RowKit Go.Extern.Stop Go.Stop Go.Extern

theorem below_tell {w : World} {o1 o2 o3 o4 o5 : Obj} (v : Value) : Below w.heap.size w ((((((w.alloc o1).alloc o2).alloc o3).alloc o4).alloc o5).setCell ⟨w.heap.size, 0, none⟩ v) :=
  ((((((Below.refl _ _).alloc (Nat.le_refl _) _).alloc (by simp) _).alloc (by simp; omega) _).alloc (by simp; omega) _).alloc (by simp; omega) _).setCell (Nat.le_refl _) _

theorem cell_tell {w : World} {c : Value} {t : TypeId} {o2 o3 o4 o5 : Obj} (v : Value) : ((((((w.alloc (.cells #[c] t)).alloc o2).alloc o3).alloc o4).alloc o5).setCell ⟨w.heap.size, 0, none⟩ v).cell? ⟨w.heap.size, 0, none⟩ = some v := by
  have hh : (((((w.alloc (.cells #[c] t)).alloc o2).alloc o3).alloc o4).alloc o5).heap[w.heap.size]? = some (.cells #[c] t (0, 0)) := by
    rw [Below.heap_alloc _ _ _ (by simp; omega), Below.heap_alloc _ _ _ (by simp; omega), Below.heap_alloc _ _ _ (by simp; omega), Below.heap_alloc _ _ _ (by simp)]
    exact heap_alloc_new w _
  have h2 := heap_setCell_same _ w.heap.size 0 #[c] t v hh
  simp only [World.cell?, h2]
  simp

set_option maxRecDepth 100000 in
set_option maxHeartbeats 2000000 in
theorem Tell_errno (n : Int) (w : World) (hg : ErrorType w) :
    Calls Tryd.prog 95 #[.iface 23 (.int .i64 n)] w fun e w' => e = .returned (.int .i64 n) ∧ Below w.heap.size w w' := by
  have hlt : 0 < w.heap.size := lt_of_cell hg
  have hg1 : ErrorType (w.alloc (.cells #[.int .i64 0] 23)) := (World.cell?_alloc_lt _ _ ⟨0, 0, none⟩ hlt).trans hg
  have HA := hide (As_errno n ⟨w.heap.size, 0, none⟩ (.int .i64 0) (w.alloc (.cells #[.int .i64 0] 23)) hg1 (by simp) (by simp))
  clear hg1 hg
  go_enter Tryd.func95, Tryd.ntmps95
  go_wp2_with fail
  refine (unhide HA).mono ?_
  rintro e w1 ⟨rfl, hw1⟩
  have hb1 : Below w.heap.size w w1 := by rw [hw1]; exact below_tell _
  have hc1 : w1.cell? ⟨w.heap.size, 0, none⟩ = some (.int .i64 n) := by rw [hw1]; exact cell_tell _
  have HB := hide hb1
  clear hw1 hb1 HA
  go_wp2
  go_ret
  exact ⟨rfl, unhide HB⟩

set_option maxRecDepth 100000 in
set_option maxHeartbeats 2000000 in
theorem Tell_at (n : Int) (b : Nat) (w : World) (hbc : w.cell? ⟨b, 0, none⟩ = some (.int .i64 n)) (hg : ErrorType w) :
    Calls Tryd.prog 95 #[.iface 96 (.pointer (some ⟨b, 0, none⟩))] w fun e w' => e = .returned (.int .i64 n) ∧ Below w.heap.size w w' := by
  have hlt : 0 < w.heap.size := lt_of_cell hg
  have hg1 : ErrorType (w.alloc (.cells #[.int .i64 0] 23)) := (World.cell?_alloc_lt _ _ ⟨0, 0, none⟩ hlt).trans hg
  have hbl : b < w.heap.size := lt_of_cell hbc
  have HA := hide (As_at n b ⟨w.heap.size, 0, none⟩ (.int .i64 0) (w.alloc (.cells #[.int .i64 0] 23)) ((World.cell?_alloc_lt _ _ ⟨b, 0, none⟩ hbl).trans hbc) hg1 (by simp) (by simp))
  clear hg1 hg
  go_enter Tryd.func95, Tryd.ntmps95
  go_wp2_with fail
  refine (unhide HA).mono ?_
  rintro e w1 ⟨rfl, hw1⟩
  have hb1 : Below w.heap.size w w1 := by rw [hw1]; exact below_tell _
  have hc1 : w1.cell? ⟨w.heap.size, 0, none⟩ = some (.int .i64 n) := by rw [hw1]; exact cell_tell _
  have HB := hide hb1
  clear hw1 hb1 HA
  go_wp2
  go_ret
  exact ⟨rfl, unhide HB⟩

set_option maxRecDepth 100000 in
set_option maxHeartbeats 2000000 in
theorem Place_errno (n : Int) (w : World) (hg : ErrorType w) :
    Calls Tryd.prog 61 #[.iface 23 (.int .i64 n)] w fun e w' => e = .returned (.tuple #[.int .i64 n, .int .i64 (-1)]) ∧ Below w.heap.size w w' := by
  have HT := hide (Tell_errno n w hg)
  have t51 := errno_noAt
  have t74 := errno_wrapsNot
  clear hg
  go_enter Tryd.func61, Tryd.ntmps61
  go_wp2_with fail
  refine (unhide HT).mono ?_
  rintro e w1 ⟨rfl, b1⟩
  have HB := hide b1
  clear b1 HT
  go_wp2
  refine wp_loop_rounds 1 ?_
  rw [rounds_succ]
  go_wp2
  go_ret2
  exact ⟨rfl, unhide HB⟩

set_option maxRecDepth 100000 in
set_option maxHeartbeats 2000000 in
theorem Place_at (n i : Int) (b : Nat) (w : World) (hbc : w.cell? ⟨b, 0, none⟩ = some (.int .i64 n)) (hbi : w.cell? ⟨b, 1, none⟩ = some (.int .i64 i)) (hg : ErrorType w) :
    Calls Tryd.prog 61 #[.iface 96 (.pointer (some ⟨b, 0, none⟩))] w fun e w' => e = .returned (.tuple #[.int .i64 n, .int .i64 i]) ∧ Below w.heap.size w w' := by
  have HT := hide (Tell_at n b w hbc hg)
  have t51 := at_isAt
  have hbl : b < w.heap.size := lt_of_cell hbc
  have HI := hide hbi
  clear hg hbc hbi
  go_enter Tryd.func61, Tryd.ntmps61
  go_wp2_with fail
  refine (unhide HT).mono ?_
  rintro e w1 ⟨rfl, b1⟩
  have hi1 := (b1.cell (p := ⟨b, 1, none⟩) hbl).trans (unhide HI)
  have HB := hide b1
  clear b1 HT HI
  go_wp2
  refine wp_loop_rounds 1 ?_
  rw [rounds_succ]
  go_wp2
  go_quiet (fail)
  go_wp2
  go_ret2
  exact ⟨rfl, (unhide HB).trans ⟨rfl, rfl, rfl, Nat.le_refl _, fun _ _ => rfl⟩⟩

set_option maxHeartbeats 1000000 in
theorem bare_of (n : Int) (w : World) :
    Calls Tryd.prog 7 #[.int .i64 n] w fun e w' => e = .returned (.agg #[.int .i64 n, .int .i64 (-1)]) ∧ Below w.heap.size w w' := by
  go_enter Tryd.func7, Tryd.ntmps7
  go_wp2
  exact bodyPost_ret (v := .agg #[.int .i64 n, .int .i64 (-1)]) (by simp [results, Tryd.results7, go_sem]) rfl ⟨rfl, (Below.refl _ _).alloc (Nat.le_refl _) _⟩

set_option maxHeartbeats 1000000 in
theorem law_is (err : Value) (n i : Int) (w : World) (h : ∀ W, Below w.heap.size w W → Calls Tryd.prog 61 #[err] W fun e w' => e = .returned (.tuple #[.int .i64 n, .int .i64 i]) ∧ Below W.heap.size W w') :
    Calls Tryd.prog 11 #[err, .agg #[.int .i64 n, .int .i64 i]] w fun e w' => e = .returned (.bool true) ∧ Below w.heap.size w w' := by
  have HP := hide (h (w.alloc (.cells #[.int .i64 n, .int .i64 i] 25)) ((Below.refl _ _).alloc (Nat.le_refl _) _))
  clear h
  go_enter Tryd.func11, Tryd.ntmps11
  go_wp2_with fail
  refine (unhide HP).mono ?_
  rintro e w1 ⟨rfl, b1⟩
  have c0 : w1.cell? ⟨w.heap.size, 0, none⟩ = some (.int .i64 n) := (b1.cell (p := ⟨w.heap.size, 0, none⟩) (by simp)).trans (by simp)
  have c1 : w1.cell? ⟨w.heap.size, 1, none⟩ = some (.int .i64 i) := (b1.cell (p := ⟨w.heap.size, 1, none⟩) (by simp)).trans (by simp)
  have HB : Hid (Below w.heap.size w w1) := ((Below.refl _ _).alloc (Nat.le_refl _) _).trans (b1.mono (by simp))
  clear b1 HP
  go_wp2
  go_ret
  exact ⟨rfl, HB.out⟩

set_option maxHeartbeats 1000000 in
theorem law_bare (n : Int) (w : World) (hg : ErrorType w) :
    Calls Tryd.prog 22 #[.iface 23 (.int .i64 n), .int .i64 n] w fun e w' => e = .returned (.bool true) ∧ Below w.heap.size w w' := by
  have HB := hide (bare_of n w)
  have HI := hide (fun W (h : Below w.heap.size w W) => law_is (.iface 23 (.int .i64 n)) n (-1) W (fun W' h' => Place_errno n W' ((hg.carry h).carry h')))
  clear hg
  go_enter Tryd.func22, Tryd.ntmps22
  go_wp2_with fail
  refine (unhide HB).mono ?_
  rintro e w1 ⟨rfl, b1⟩
  have HI1 := hide (unhide HI w1 b1)
  have B1 := hide b1
  clear b1 HI HB
  go_wp2_with fail
  refine (unhide HI1).mono ?_
  rintro e w2 ⟨rfl, b2⟩
  have B2 := hide ((unhide B1).trans (b2.mono (unhide B1).size))
  clear b2 HI1 B1
  go_wp2
  go_ret
  exact ⟨rfl, unhide B2⟩

end Go.Proofs.YtfcmkaiocnelgaaDoor
