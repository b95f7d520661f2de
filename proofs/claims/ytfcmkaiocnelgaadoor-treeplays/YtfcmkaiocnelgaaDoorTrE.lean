/- Two lists of numbers that are the same: the law's same, walked. -/
import Derived.Test.YtfcmkaiocnelgaaDoorTrQ
namespace Go.Proofs.YtfcmkaiocnelgaaDoor
open Go.RowKit

set_option maxRecDepth 100000 in
set_option maxHeartbeats 2000000 in
theorem same_ints (l : List Int) (v v' : Value) (b b' : Nat) (w : World) (h : RowI w v b l) (h' : RowI w v' b' l) (hl : l.length ≤ 1000000) :
    Calls Tryd.prog 44 #[v, v'] w fun e w' => e = .returned (.bool true) ∧ Below w.heap.size w w' := by
  obtain ⟨ai, ci, rfl, hI⟩ := h.form
  obtain ⟨az, cz, rfl, hJ⟩ := h'.form
  have HI := hide hI
  have HJ := hide hJ
  clear hI hJ h h'
  go_enter Tryd.func44, Tryd.ntmps44
  go_wp2
  go_loopw [5] (fun i x => ∃ k : Nat, k ≤ l.length ∧ i = .int .i64 k ∧ Below w.heap.size w x) (fun i _ => l.length - (intOf i).toNat)
  case atStart => exact ⟨0, Nat.zero_le _, rfl, Below.refl _ _⟩
  case round =>
    obtain ⟨k, hk, rfl, hb⟩ := hrel
    by_cases hlt : k < l.length
    · have hlt' : (k : Int) < (l.length : Int) := by omega
      have hk0 : (0 : Int) ≤ (k : Int) := by omega
      obtain ⟨rfl, s0⟩ := unhide HI k hlt
      obtain ⟨rfl, s1⟩ := unhide HJ k hlt
      have t0 := (hb.cell (p := ⟨b, k, none⟩) (lt_of_cell s0)).trans s0
      have t1 := (hb.cell (p := ⟨b', k, none⟩) (lt_of_cell s1)).trans s1
      have HB := hide hb
      clear hb s0 s1
      generalize l[k] = y at *
      go_wp2
      go_quiet (fail)
      go_wp2
      go_roundw
      case rel => exact ⟨k + 1, by omega, by go_num, (unhide HB).trans ⟨rfl, rfl, rfl, Nat.le_refl _, fun _ _ => rfl⟩⟩
      case measure => simp [intOf]; omega
    · have hlt' : ¬ (k : Int) < (l.length : Int) := by omega
      have HB := hide hb
      clear hb
      go_wp2
      go_ret
      exact ⟨rfl, unhide HB⟩

end Go.Proofs.YtfcmkaiocnelgaaDoor
