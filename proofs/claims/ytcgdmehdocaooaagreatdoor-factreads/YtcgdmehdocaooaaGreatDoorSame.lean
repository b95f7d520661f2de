/- plain.Same of two equal lists of changes. -/
import Derived.Test.YtcgdmehdocaooaaGreatDoorReadW
namespace Go.Proofs.YtcgdmehdocaooaaGreatDoor
open Go.RowKit

set_option maxRecDepth 100000 in
set_option maxHeartbeats 4000000 in
theorem same_at (l : List Fop) (b off cap b' off' cap' : Nat) (w : World) (hl : l.length ≤ 1000) (h : OpsAt w b off l) (h' : OpsAt w b' off' l) :
    Calls Tryz.prog 7 #[.slice (some ⟨b, off, none⟩) l.length cap, .slice (some ⟨b', off', none⟩) l.length cap'] w fun e w' => e = .returned (.bool true) ∧ ∃ n, w' = w.drewN n := by
  have H := hide h
  have H' := hide h'
  clear h h'
  go_enter Tryz.func7, Tryz.ntmps7
  go_wp2
  go_loopw [13] (fun i wr => ∃ k : Nat, k ≤ l.length ∧ i = .int .i64 k ∧ ∃ q, wr = w.drewN q) (fun i _ => l.length - (intOf i).toNat)
  case atStart => exact ⟨0, Nat.zero_le _, rfl, 0, rfl⟩
  case round =>
    obtain ⟨k, hk, rfl, q, rfl⟩ := hrel
    by_cases hlt : k < l.length
    · have hlt' : (k : Int) < (l.length : Int) := by omega
      obtain ⟨c0, c1, c2, c3, c4, c5, c6⟩ := (unhide H).2 k hlt
      obtain ⟨e0, e1, e2, e3, e4, e5, e6⟩ := (unhide H').2 k hlt
      generalize l[k] = o at *
      go_wp2
      go_quiet (fail)
      go_wp2
      go_roundw
      case rel => exact ⟨k + 1, by omega, by go_num, _, rfl⟩
      case measure => simp [intOf]; omega
    · have hlt' : ¬ (k : Int) < (l.length : Int) := by omega
      go_wp2
      go_ret
      exact ⟨rfl, q, rfl⟩

theorem same_none (ad ad2 : Option Addr) (cap cap2 : Nat) (w : World) :
    Calls Tryz.prog 7 #[.slice ad 0 cap, .slice ad2 0 cap2] w fun e w' => e = .returned (.bool true) ∧ ∃ n, w' = w.drewN n := by
  go_enter Tryz.func7, Tryz.ntmps7
  go_wp2
  refine wp_loop_rounds 1 ?_
  rw [rounds_succ]
  go_wp2
  go_ret
  exact ⟨rfl, 0, rfl⟩

/-- Two lists of the same changes are the same. -/
theorem same_ops (l : List Fop) (v v' : Value) (w : World) (hl : l.length ≤ 1000) (h : ReadsOps w v l) (h' : ReadsOps w v' l) :
    Calls Tryz.prog 7 #[v, v'] w fun e w' => e = .returned (.bool true) ∧ Below w.heap.size w w' := by
  have bel : ∀ n, Below w.heap.size w (w.drewN n) := fun n => ⟨rfl, rfl, rfl, Nat.le_refl _, fun _ _ => rfl⟩
  obtain ⟨ad, cap, rfl, h⟩ := h
  obtain ⟨ad', cap', rfl, h'⟩ := h'
  rcases h with rfl | ⟨b, off, rfl, h⟩
  · exact (same_none ad ad' cap cap' w).mono fun e w' ⟨h1, n, h2⟩ => ⟨h1, h2 ▸ bel n⟩
  · rcases h' with rfl | ⟨b', off', rfl, h'⟩
    · exact (same_none _ ad' cap cap' w).mono fun e w' ⟨h1, n, h2⟩ => ⟨h1, h2 ▸ bel n⟩
    · exact (same_at l b off cap b' off' cap' w hl h h').mono fun e w' ⟨h1, n, h2⟩ => ⟨h1, h2 ▸ bel n⟩

end Go.Proofs.YtcgdmehdocaooaaGreatDoor
