/- The span of a number, and how many there are, in the program's tree: walked. -/
import Derived.Test.YtfcmkaiocnelgaaDoorPtF
namespace Go.Proofs.YtfcmkaiocnelgaaDoor
open Go.RowKit Go.Maps

set_option maxHeartbeats 1000000 in
theorem tree_Many (L : List Ent) (B : Nat) (F : Nat → Prop) (w : World) (h : PT w B L F) :
    Calls Tryd.prog 49 #[.pointer (some ⟨B, 0, none⟩)] w fun e w' => e = .returned (.int .i64 (L.length : Nat)) ∧ w' = w := by
  obtain ⟨mv, X, hP⟩ := h
  have c0 := hP.c0
  have hl := len_map hP.map
  rw [hP.length] at hl
  clear hP
  go_enter Tryd.func49, Tryd.ntmps49
  go_wp2_with (at_len; refine wpList_len_run _ rfl _ rfl _ _ rfl (hl _) ?_)
  go_ret
  exact ⟨rfl, rfl⟩

/-- The span of a number, as the program's tree tells it. -/
def SpanTells (L : List Ent) (id : Int) (w : World) (e : Ending) (w' : World) : Prop :=
  e = .returned (.tuple #[.agg #[.int .i64 (spanT L id).1, .int .i64 (spanT L id).2.1], errV (spanT L id).2.2]) ∧ Below w.heap.size w w'

set_option maxRecDepth 100000 in
set_option maxHeartbeats 2000000 in
theorem tree_Span (L : List Ent) (B : Nat) (F : Nat → Prop) (id : Int) (w : World) (h : PT w B L F) (hw : (Lit.int .i64 id).wf = true) :
    Calls Tryd.prog 41 #[.pointer (some ⟨B, 0, none⟩), .int .i64 id] w (SpanTells L id w) := by
  obtain ⟨mv, X, hP⟩ := h
  have hB0 := below_box w (.cells #[.int .i64 0, .int .i64 0] 29)
  have hB := hP.lt B hP.fB
  have c0 := (hB0.cell (p := ⟨B, 0, none⟩) hB).trans hP.c0
  have hM := hP.map.keeps (Keeps.of_below (fun _ => False) hB0 (Nat.le_refl _)) (fun _ _ f => f)
  by_cases h3 : foundT L id = true
  · obtain ⟨x, hx, hxid, hsp⟩ := hP.there h3
    have hlk := look_at hM x hx (by rw [hxid]; exact hw)
    rw [hxid] at hlk
    have hlk' : (Instr.lookup 69 (.map mv) (.int .i64 id) false).run Tryd.prog (w.alloc (.cells #[.int .i64 0, .int .i64 0] 29)) = .ok (.pointer (some ⟨x.1, 0, none⟩)) (w.alloc (.cells #[.int .i64 0, .int .i64 0] 29)) := hlk
    obtain ⟨_, _, _, hN⟩ := (hP.nodeAt x hx)
    have n1 := (hB0.cell (p := ⟨x.1, 1, none⟩) hN.lt).trans hN.c1
    have n2 := (hB0.cell (p := ⟨x.1, 2, none⟩) hN.lt).trans hN.c2
    have HE := hide hsp
    clear hP hM h3 hx hxid hlk hsp hN
    generalize x.1 = b at *
    generalize x.2.lo = lo at *
    generalize x.2.hi = hi at *
    go_enter Tryd.func41, Tryd.ntmps41
    go_wp2_with (at_lookup; refine wpList_look_run _ rfl _ _ rfl _ _ _ rfl rfl hlk' ?_)
    exact bodyPost_ret (v := .tuple #[.agg #[.int .i64 lo, .int .i64 hi], .nilIface]) (by simp [results, Tryd.results41, go_sem]) rfl ⟨by rw [unhide HE]; rfl, below_box _ _⟩
  · have h3' : foundT L id = false := by simpa using h3
    have hlk := look_none hM id hw (hP.missing h3')
    have HE : Hid (spanT L id = (0, 0, 7)) := by unfold Hid spanT; rw [dif_neg h3]
    clear hP hM h3 h3'
    go_enter Tryd.func41, Tryd.ntmps41
    go_wp2_with (at_lookup; refine wpList_look_run _ rfl _ _ rfl _ _ _ rfl rfl hlk ?_)
    exact bodyPost_ret (v := .tuple #[.agg #[.int .i64 0, .int .i64 0], .iface 23 (.int .i64 7)]) (by simp [results, Tryd.results41, go_sem]) rfl ⟨by rw [unhide HE]; rfl, below_box _ _⟩

end Go.Proofs.YtfcmkaiocnelgaaDoor
