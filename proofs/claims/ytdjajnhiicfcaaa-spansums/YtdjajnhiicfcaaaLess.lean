/- What Less of two spans returns: a slice of its own that holds the parts. -/
import Derived.Test.YtdjajnhiicfcaaaApp
namespace Go.Proofs.Ytdjajnhiicfcaaa
open Go.RowKit

def lessL (a1 a2 b1 b2 : Int) : List (Int × Int) :=
  if a2 ≤ a1 then [] else if mlo a1 b1 < mhi a2 b2 then (if a1 < mlo a1 b1 then [(a1, mlo a1 b1)] else []) ++ (if mhi a2 b2 < a2 then [(mhi a2 b2, a2)] else []) else [(a1, a2)]

set_option maxHeartbeats 1000000 in
theorem span_Less_empty (a1 a2 b1 b2 : Int) (w : World) (h : a2 ≤ a1) :
    Calls Try.prog 15 #[.agg #[.int .i64 a1, .int .i64 a2], .agg #[.int .i64 b1, .int .i64 b2]] w (Gives w []) := by
  go_enter Try.func15, Try.ntmps15
  go_wp2
  go_ret
  exact ⟨_, rfl, World.ownsRow_nil _ _ _ _, ((Below.refl _ _).alloc (Nat.le_refl _) _).alloc (by simp) _⟩

set_option maxHeartbeats 1000000 in
theorem span_Less_whole (a1 a2 b1 b2 : Int) (w : World) (h : a1 < a2) (hm : ¬ mlo a1 b1 < mhi a2 b2) :
    Calls Try.prog 15 #[.agg #[.int .i64 a1, .int .i64 a2], .agg #[.int .i64 b1, .int .i64 b2]] w (Gives w [(a1, a2)]) := by
  have hM := fun w => span_Meet_no a1 a2 b1 b2 w hm
  go_enter Try.func15, Try.ntmps15
  go_wp2_with fail
  refine (hM _).mono ?_
  rintro e w1 ⟨rfl, hb⟩
  clear hM
  have c0 : w1.cell? ⟨w.heap.size, 0, none⟩ = some (.int .i64 a1) := (hb.cell (p := ⟨w.heap.size, 0, none⟩) (by simp; omega)).trans (by simp)
  have c1 : w1.cell? ⟨w.heap.size, 1, none⟩ = some (.int .i64 a2) := (hb.cell (p := ⟨w.heap.size, 1, none⟩) (by simp; omega)).trans (by simp)
  have hz : w.heap.size < w1.heap.size := by have := hb.size; simp at this; omega
  have hb2 : Below w.heap.size w w1 := (((Below.refl _ _).alloc (Nat.le_refl _) _).alloc (by simp) _).trans (hb.mono (by simp; omega))
  have HB : Hid (Below w.heap.size w w1) := hb2
  clear hb hb2
  go_wp2
  go_ret
  refine ⟨_, rfl, ownsRow_one (w1.alloc (.cells #[.int .i64 0, .int .i64 0] 23)) _ _ a1 a2 (by simp; omega) (by simp), ?_⟩
  exact (HB.out.alloc (by omega) _).alloc (by simp; omega) _

/-- What is behind Meet: the box of what is common. -/
theorem span_Less_step (a1 a2 b1 b2 : Int) (w w1 : World)
    (hb : Below ((w.alloc (.cells #[.int .i64 a1, .int .i64 a2] 23)).alloc (.cells #[.int .i64 b1, .int .i64 b2] 23)).heap.size ((w.alloc (.cells #[.int .i64 a1, .int .i64 a2] 23)).alloc (.cells #[.int .i64 b1, .int .i64 b2] 23)) w1) :
    w1.cell? ⟨w.heap.size, 0, none⟩ = some (.int .i64 a1) ∧ w1.cell? ⟨w.heap.size, 1, none⟩ = some (.int .i64 a2) ∧ w.heap.size < w1.heap.size ∧ Below w.heap.size w w1 := by
  refine ⟨(hb.cell (p := ⟨w.heap.size, 0, none⟩) (by simp; omega)).trans (by simp), (hb.cell (p := ⟨w.heap.size, 1, none⟩) (by simp; omega)).trans (by simp), ?_, ?_⟩
  · have := hb.size; simp at this; omega
  · exact (((Below.refl _ _).alloc (Nat.le_refl _) _).alloc (by simp) _).trans (hb.mono (by simp; omega))

set_option maxHeartbeats 1000000 in
theorem span_Less_none (a1 a2 b1 b2 lo hi : Int) (w : World) (h : a1 < a2) (h1 : ¬ a1 < lo) (h2 : ¬ hi < a2)
    (hM : ∀ w, Calls Try.prog 12 #[.agg #[.int .i64 a1, .int .i64 a2], .agg #[.int .i64 b1, .int .i64 b2]] w fun e w' => e = .returned (.tuple #[.agg #[.int .i64 lo, .int .i64 hi], .bool true]) ∧ Below w.heap.size w w') :
    Calls Try.prog 15 #[.agg #[.int .i64 a1, .int .i64 a2], .agg #[.int .i64 b1, .int .i64 b2]] w (Gives w []) := by
  go_enter Try.func15, Try.ntmps15
  go_wp2_with fail
  refine (hM _).mono ?_
  rintro e w1 ⟨rfl, hb⟩
  clear hM
  obtain ⟨c0, c1, hz, hb2⟩ := span_Less_step a1 a2 b1 b2 w w1 hb
  have HB : Hid (Below w.heap.size w w1) := hb2
  clear hb hb2
  go_wp2
  go_ret
  exact ⟨_, rfl, World.ownsRow_nil _ _ _ _, HB.out.alloc (by omega) _⟩

/-- Behind the first append. -/
theorem span_Less_grown (w w1 w2 : World) (a1 a2 lo hi x1 x2 : Int) (c0 : w1.cell? ⟨w.heap.size, 0, none⟩ = some (.int .i64 a1)) (c1 : w1.cell? ⟨w.heap.size, 1, none⟩ = some (.int .i64 a2)) (hz : w.heap.size < w1.heap.size) (HB : Below w.heap.size w w1)
    (k2 : ((w1.alloc (.cells #[.int .i64 lo, .int .i64 hi] 23)).alloc (.cells #[.int .i64 x1, .int .i64 x2] 23)).grownBy w2 none) :
    w2.cell? ⟨w.heap.size, 0, none⟩ = some (.int .i64 a1) ∧ w2.cell? ⟨w.heap.size, 1, none⟩ = some (.int .i64 a2) ∧ w2.cell? ⟨w1.heap.size, 0, none⟩ = some (.int .i64 lo) ∧ w2.cell? ⟨w1.heap.size, 1, none⟩ = some (.int .i64 hi) ∧ w1.heap.size < w2.heap.size ∧ Below w.heap.size w w2 := by
  have hb := below_grown_none k2
  refine ⟨(hb.cell (p := ⟨w.heap.size, 0, none⟩) (by simp; omega)).trans ?_, (hb.cell (p := ⟨w.heap.size, 1, none⟩) (by simp; omega)).trans ?_, (hb.cell (p := ⟨w1.heap.size, 0, none⟩) (by simp; omega)).trans ?_, (hb.cell (p := ⟨w1.heap.size, 1, none⟩) (by simp; omega)).trans ?_, ?_, ?_⟩
  · rw [World.cell?_alloc_lt _ _ _ (by simp; omega), World.cell?_alloc_lt _ _ _ hz]; exact c0
  · rw [World.cell?_alloc_lt _ _ _ (by simp; omega), World.cell?_alloc_lt _ _ _ hz]; exact c1
  · simp
  · simp
  · have := hb.size; simp at this; omega
  · exact ((HB.alloc (by omega) _).alloc (by simp; omega) _).trans (hb.mono (by simp; omega))

set_option maxHeartbeats 1000000 in
theorem span_Less_first (a1 a2 b1 b2 lo hi : Int) (w : World) (h : a1 < a2) (h1 : a1 < lo) (h2 : ¬ hi < a2)
    (hM : ∀ w, Calls Try.prog 12 #[.agg #[.int .i64 a1, .int .i64 a2], .agg #[.int .i64 b1, .int .i64 b2]] w fun e w' => e = .returned (.tuple #[.agg #[.int .i64 lo, .int .i64 hi], .bool true]) ∧ Below w.heap.size w w') :
    Calls Try.prog 15 #[.agg #[.int .i64 a1, .int .i64 a2], .agg #[.int .i64 b1, .int .i64 b2]] w (Gives w [(a1, lo)]) := by
  go_enter Try.func15, Try.ntmps15
  go_wp2_with fail
  refine (hM _).mono ?_
  rintro e w1 ⟨rfl, hb⟩
  clear hM
  obtain ⟨c0, c1, hz, hb2⟩ := span_Less_step a1 a2 b1 b2 w w1 hb
  have HB : Hid (Below w.heap.size w w1) := hb2
  clear hb hb2
  go_wp2_with (at_builtin; refine wpList_app23 _ rfl (.tmp 28) (.tmp 34) rfl w.heap.size _ [] rfl (World.ownsRow_nil _ _ _ _) (w1.heap.size + 1) a1 lo rfl ?d0 ?d1 ?d2 ?d3 ?_)
  case d0 => simp
  case d1 => simp
  case d2 => simp
  case d3 => simp; omega
  intro v2 w2 k1 k2
  obtain ⟨d0, d1, d2, d3, hz2, hb2⟩ := span_Less_grown w w1 w2 a1 a2 lo hi a1 lo c0 c1 hz HB.out k2
  have HB2 : Hid (Below w.heap.size w w2) := hb2
  have K1 : Hid (w2.ownsRow w.heap.size 23 2 v2 1 (encs [(a1, lo)])) := k1
  clear k1 k2 hb2
  go_wp2
  go_ret
  exact ⟨_, rfl, K1.out, HB2.out⟩

set_option maxHeartbeats 1000000 in
theorem span_Less_second (a1 a2 b1 b2 lo hi : Int) (w : World) (h : a1 < a2) (h1 : ¬ a1 < lo) (h2 : hi < a2)
    (hM : ∀ w, Calls Try.prog 12 #[.agg #[.int .i64 a1, .int .i64 a2], .agg #[.int .i64 b1, .int .i64 b2]] w fun e w' => e = .returned (.tuple #[.agg #[.int .i64 lo, .int .i64 hi], .bool true]) ∧ Below w.heap.size w w') :
    Calls Try.prog 15 #[.agg #[.int .i64 a1, .int .i64 a2], .agg #[.int .i64 b1, .int .i64 b2]] w (Gives w [(hi, a2)]) := by
  go_enter Try.func15, Try.ntmps15
  go_wp2_with fail
  refine (hM _).mono ?_
  rintro e w1 ⟨rfl, hb⟩
  clear hM
  obtain ⟨c0, c1, hz, hb2⟩ := span_Less_step a1 a2 b1 b2 w w1 hb
  have HB : Hid (Below w.heap.size w w1) := hb2
  clear hb hb2
  go_wp2_with (at_builtin; refine wpList_app23 _ rfl (.tmp 41) (.tmp 47) rfl w.heap.size _ [] rfl (World.ownsRow_nil _ _ _ _) (w1.heap.size + 1) hi a2 rfl ?d0 ?d1 ?d2 ?d3 ?_)
  case d0 => simp
  case d1 => simp
  case d2 => simp
  case d3 => simp; omega
  intro v2 w2 k1 k2
  obtain ⟨d0, d1, d2, d3, hz2, hb2⟩ := span_Less_grown w w1 w2 a1 a2 lo hi hi a2 c0 c1 hz HB.out k2
  have HB2 : Hid (Below w.heap.size w w2) := hb2
  have K1 : Hid (w2.ownsRow w.heap.size 23 2 v2 1 (encs [(hi, a2)])) := k1
  clear k1 k2 hb2
  go_wp2
  go_ret
  exact ⟨_, rfl, K1.out, HB2.out⟩

set_option maxHeartbeats 1000000 in
theorem span_Less_both (a1 a2 b1 b2 lo hi : Int) (w : World) (h : a1 < a2) (h1 : a1 < lo) (h2 : hi < a2)
    (hM : ∀ w, Calls Try.prog 12 #[.agg #[.int .i64 a1, .int .i64 a2], .agg #[.int .i64 b1, .int .i64 b2]] w fun e w' => e = .returned (.tuple #[.agg #[.int .i64 lo, .int .i64 hi], .bool true]) ∧ Below w.heap.size w w') :
    Calls Try.prog 15 #[.agg #[.int .i64 a1, .int .i64 a2], .agg #[.int .i64 b1, .int .i64 b2]] w (Gives w [(a1, lo), (hi, a2)]) := by
  go_enter Try.func15, Try.ntmps15
  go_wp2_with fail
  refine (hM _).mono ?_
  rintro e w1 ⟨rfl, hb⟩
  clear hM
  obtain ⟨c0, c1, hz, hb2⟩ := span_Less_step a1 a2 b1 b2 w w1 hb
  have HB : Hid (Below w.heap.size w w1) := hb2
  clear hb hb2
  go_wp2_with (at_builtin; refine wpList_app23 _ rfl (.tmp 28) (.tmp 34) rfl w.heap.size _ [] rfl (World.ownsRow_nil _ _ _ _) (w1.heap.size + 1) a1 lo rfl ?d0 ?d1 ?d2 ?d3 ?_)
  case d0 => simp
  case d1 => simp
  case d2 => simp
  case d3 => simp; omega
  intro v2 w2 k1 k2
  obtain ⟨d0, d1, d2, d3, hz2, hb2⟩ := span_Less_grown w w1 w2 a1 a2 lo hi a1 lo c0 c1 hz HB.out k2
  have HB2 : Hid (Below w.heap.size w w2) := hb2
  have K1 : Hid (w2.ownsRow w.heap.size 23 2 v2 1 (encs [(a1, lo)])) := k1
  clear k1 k2 hb2
  go_wp2_with (at_builtin; refine wpList_app23 _ rfl (.tmp 41) (.tmp 47) rfl w.heap.size _ [(a1, lo)] rfl (K1.out.alloc _) w2.heap.size hi a2 rfl ?e0 ?e1 ?e2 ?e3 ?_)
  case e0 => simp
  case e1 => simp
  case e2 => simp
  case e3 => simp; omega
  intro v3 w3 k3 k4
  have HB3 : Hid (Below w.heap.size w w3) := (HB2.out.alloc (by omega) _).grown k4 (by simp; omega) (fun k hk => (K1.out.lt k hk).1)
  have K3 : Hid (w3.ownsRow w.heap.size 23 2 v3 2 (encs [(a1, lo), (hi, a2)])) := k3
  clear k3 k4
  go_wp2
  go_ret
  exact ⟨_, rfl, K3.out, HB3.out⟩

/-- Less, whatever the two spans are. -/
theorem span_Less (a1 a2 b1 b2 : Int) (w : World) :
    Calls Try.prog 15 #[.agg #[.int .i64 a1, .int .i64 a2], .agg #[.int .i64 b1, .int .i64 b2]] w (Gives w (lessL a1 a2 b1 b2)) := by
  unfold lessL
  by_cases h : a2 ≤ a1
  · rw [if_pos h]; exact span_Less_empty a1 a2 b1 b2 w h
  · rw [if_neg h]
    by_cases hm : mlo a1 b1 < mhi a2 b2
    · rw [if_pos hm]
      have hM := fun w => span_Meet_yes a1 a2 b1 b2 w hm
      by_cases h1 : a1 < mlo a1 b1
      · rw [if_pos h1]
        by_cases h2 : mhi a2 b2 < a2
        · rw [if_pos h2]; exact span_Less_both a1 a2 b1 b2 _ _ w (by omega) h1 h2 hM
        · rw [if_neg h2]; exact span_Less_first a1 a2 b1 b2 _ _ w (by omega) h1 h2 hM
      · rw [if_neg h1]
        by_cases h2 : mhi a2 b2 < a2
        · rw [if_pos h2]; exact span_Less_second a1 a2 b1 b2 _ _ w (by omega) h1 h2 hM
        · rw [if_neg h2]; exact span_Less_none a1 a2 b1 b2 _ _ w (by omega) h1 h2 hM
    · rw [if_neg hm]; exact span_Less_whole a1 a2 b1 b2 w (by omega) hm

end Go.Proofs.Ytdjajnhiicfcaaa
