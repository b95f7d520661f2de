/- The order of keys: the program's Compare, walked. -/
import Derived.Test.YtcgdmehdocaooaaDoorCmp
namespace Go.Proofs.YtcgdmehdocaooaaDoor
open Go.RowKit

/-- Two keys in two blocks. -/
def TwoKeys (B C : Nat) (k a : Int) (s : ByteArray) (b k' a' : Int) (s' : ByteArray) (b' : Int) (w0 w : World) : Prop :=
  (w.cell? ⟨B, 0, none⟩ = some (.int .i64 k) ∧ w.cell? ⟨B, 1, none⟩ = some (.int .i64 a) ∧ w.cell? ⟨B, 2, none⟩ = some (.string s) ∧ w.cell? ⟨B, 3, none⟩ = some (.int .i64 b)) ∧
  w.cell? ⟨C, 0, none⟩ = some (.int .i64 k') ∧ w.cell? ⟨C, 1, none⟩ = some (.int .i64 a') ∧ w.cell? ⟨C, 2, none⟩ = some (.string s') ∧ w.cell? ⟨C, 3, none⟩ = some (.int .i64 b') ∧ Below w0.heap.size w0 w

theorem TwoKeys.carry {B C : Nat} {k a : Int} {s : ByteArray} {b k' a' : Int} {s' : ByteArray} {b' : Int} {w0 w w' : World} (h : TwoKeys B C k a s b k' a' s' b' w0 w) (hb : Below w.heap.size w w') : TwoKeys B C k a s b k' a' s' b' w0 w' := by
  obtain ⟨⟨h1, h2, h3, h4⟩, h5, h6, h7, h8, h9⟩ := h
  have t : ∀ {x : Addr} {v : Value}, w.cell? x = some v → w'.cell? x = some v := fun {x v} e => (hb.cell (p := x) (lt_of_cell e)).trans e
  exact ⟨⟨t h1, t h2, t h3, t h4⟩, t h5, t h6, t h7, t h8, h9.trans (hb.mono h9.size)⟩

theorem below_drew (w : World) : Below w.heap.size w w.drew := ⟨rfl, rfl, rfl, Nat.le_refl _, fun _ _ => rfl⟩

theorem four_cells (W : World) (x y z u : Int) : ∀ k, (hk : k < [x, y, z, u].length) → (W.alloc (.cells #[.int .i64 x, .int .i64 y, .int .i64 z, .int .i64 u] 3)).cell? ⟨W.heap.size, 0 + k, none⟩ = some (.int .i64 [x, y, z, u][k]) := by
  intro k hk
  have hk' : k < 4 := hk
  rcases k with _ | _ | _ | _ | k
  · simp
  · simp
  · simp
  · simp
  · omega

set_option maxHeartbeats 4000000 in
theorem fact_Compare (k a : Int) (s : ByteArray) (b k' a' : Int) (s' : ByteArray) (b' : Int) (w : World) :
    Calls Tryd.prog 30 #[.agg #[.int .i64 k, .int .i64 a, .string s, .int .i64 b], .agg #[.int .i64 k', .int .i64 a', .string s', .int .i64 b']] w fun e w' =>
      e = .returned (.int .i64 (keyCmp k a s b k' a' s' b')) ∧ Below w.heap.size w w' := by
  have HT : Hid (TwoKeys w.heap.size (w.heap.size + 1) k a s b k' a' s' b' w ((w.alloc (.cells #[.int .i64 k, .int .i64 a, .string s, .int .i64 b] 49)).alloc (.cells #[.int .i64 k', .int .i64 a', .string s', .int .i64 b'] 49))) := by
    unfold Hid TwoKeys
    refine ⟨⟨?_, ?_, ?_, ?_⟩, ?_, ?_, ?_, ?_, ((Below.refl _ _).alloc (Nat.le_refl _) _).alloc (by simp) _⟩
    all_goals simp
  unfold keyCmp
  go_enter Tryd.func30, Tryd.ntmps30
  go_wp2
  generalize ((w.alloc (.cells #[.int .i64 k, .int .i64 a, .string s, .int .i64 b] 49)).alloc (.cells #[.int .i64 k', .int .i64 a', .string s', .int .i64 b'] 49)) = W at HT ⊢
  go_region_held3 (fun x => (x.cell? ⟨w.heap.size, 0, none⟩ = some (.int .i64 k) ∧ x.cell? ⟨w.heap.size, 1, none⟩ = some (.int .i64 a) ∧ x.cell? ⟨w.heap.size, 2, none⟩ = some (.string s) ∧ x.cell? ⟨w.heap.size, 3, none⟩ = some (.int .i64 b)) ∧
      x.cell? ⟨w.heap.size + 1, 0, none⟩ = some (.int .i64 k') ∧ x.cell? ⟨w.heap.size + 1, 1, none⟩ = some (.int .i64 a') ∧ x.cell? ⟨w.heap.size + 1, 2, none⟩ = some (.string s') ∧ x.cell? ⟨w.heap.size + 1, 3, none⟩ = some (.int .i64 b') ∧ Below w.heap.size w x)
    (first | exact TwoKeys.carry (unhide HT) (below_drew _) | (refine TwoKeys.carry (by assumption) ?_; exact below_box _ _) | assumption)
    (first
      | (go_at_call 44; refine (compare_int _ _ _).mono ?_; rintro e w1 ⟨rfl, rfl⟩)
      | (go_at_call 65; refine (compare_string _ _ _).mono ?_; rintro e w1 ⟨rfl, rfl⟩)
      | (go_at_call 64; refine (or_int [Lib.compareInt k k', Lib.compareInt a a', compareS s s', Lib.compareInt b b'] _ 0 _ _ (by simp) ?_).mono ?_; (exact four_cells _ _ _ _ _); rintro e w1 ⟨rfl, rfl⟩))
  rename_i hh
  have HB := hide hh.2.2.2.2.2
  clear hh
  go_wp2
  go_ret
  exact ⟨rfl, unhide HB⟩

end Go.Proofs.YtcgdmehdocaooaaDoor
