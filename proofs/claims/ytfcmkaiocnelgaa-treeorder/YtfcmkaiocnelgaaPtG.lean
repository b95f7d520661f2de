/- The span of a number, and how many there are, in the program's tree: walked. -/
import Derived.Test.YtfcmkaiocnelgaaPtF
namespace Go.Proofs.Ytfcmkaiocnelgaa
open Go.RowKit Go.Maps

set_option maxHeartbeats 1000000 in
theorem tree_Many (L : List Ent) (B : Nat) (F : Nat → Prop) (w : World) (h : PT w B L F) :
    Calls Try.prog 30 #[.pointer (some ⟨B, 0, none⟩)] w fun e w' => e = .returned (.int .i64 (L.length : Nat)) ∧ w' = w := by
  obtain ⟨mv, X, hP⟩ := h
  have c0 := hP.c0
  have hl := len_map hP.map
  rw [hP.length] at hl
  clear hP
  go_enter Try.func30, Try.ntmps30
  go_wp2_with (at_len; refine wpList_len_run _ rfl _ rfl _ _ rfl (hl _) ?_)
  go_ret
  exact ⟨rfl, rfl⟩

end Go.Proofs.Ytfcmkaiocnelgaa
