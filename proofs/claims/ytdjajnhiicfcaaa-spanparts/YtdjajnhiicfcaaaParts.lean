/- The law on the parts of two spans, walked. -/
import Derived.Test.YtdjajnhiicfcaaaWhere
import Derived.Test.YtdjajnhiicfcaaaLess
import Derived.Shelf.SlSortCmp.QuietGrown
namespace Go.Proofs.Ytdjajnhiicfcaaa
open Go.RowKit Palim Go.Sort

theorem grow_one (w w' : World) (o : Obj) (h : w' = w.alloc o) : ∃ q os', w' = grow (w.drewN q) os' :=
  ⟨0, #[o], by rw [h, alloc_eq_grow]; rfl⟩

/-- Two spans in their boxes. -/
def Boxes (A B : Nat) (a1 a2 b1 b2 : Int) (W : World) : Prop :=
  W.cell? ⟨A, 0, none⟩ = some (.int .i64 a1) ∧ W.cell? ⟨A, 1, none⟩ = some (.int .i64 a2) ∧ W.cell? ⟨B, 0, none⟩ = some (.int .i64 b1) ∧ W.cell? ⟨B, 1, none⟩ = some (.int .i64 b2) ∧ A < W.heap.size ∧ B < W.heap.size

theorem Boxes.carry {A B : Nat} {a1 a2 b1 b2 : Int} {W W' : World} (h : Boxes A B a1 a2 b1 b2 W) (hb : Below W.heap.size W W') : Boxes A B a1 a2 b1 b2 W' := by
  obtain ⟨h1, h2, h3, h4, h5, h6⟩ := h
  exact ⟨(hb.cell (p := ⟨A, 0, none⟩) h5).trans h1, (hb.cell (p := ⟨A, 1, none⟩) h5).trans h2, (hb.cell (p := ⟨B, 0, none⟩) h6).trans h3, (hb.cell (p := ⟨B, 1, none⟩) h6).trans h4, Nat.lt_of_lt_of_le h5 hb.size, Nat.lt_of_lt_of_le h6 hb.size⟩

theorem boxes_two (a1 a2 b1 b2 : Int) (w : World) : Boxes w.heap.size (w.heap.size + 1) a1 a2 b1 b2 ((w.alloc (.cells #[.int .i64 a1, .int .i64 a2] 23)).alloc (.cells #[.int .i64 b1, .int .i64 b2] 23)) := by
  refine ⟨by simp, by simp, by simp, by simp, by simp; omega, by simp⟩

set_option maxHeartbeats 1000000 in
theorem both_says (A B : Nat) (a1 a2 b1 b2 t : Int) (W : World) (hb : Boxes A B a1 a2 b1 b2 W) :
    Calls Try.prog 11 #[.int .i64 t, .pointer (some ⟨A, 0, none⟩), .pointer (some ⟨B, 0, none⟩)] W fun e w' => e = .returned (.bool (hasB a1 a2 t && hasB b1 b2 t)) ∧ Below W.heap.size W w' := by
  obtain ⟨h1, h2, h3, h4, h5, h6⟩ := hb
  have k1 := fun W => ref_Has a1 a2 t W
  have k2 := fun W => ref_Has b1 b2 t W
  generalize hasB a1 a2 t = x at k1 ⊢
  generalize hasB b1 b2 t = y at k2 ⊢
  cases x
  · go_enter Try.func11, Try.ntmps11
    go_wp2_with fail
    refine (k1 _).mono ?_
    rintro e w' ⟨rfl, rfl⟩
    go_wp2
    go_ret
    exact ⟨rfl, (Below.refl _ _).alloc (Nat.le_refl _) _⟩
  · go_enter Try.func11, Try.ntmps11
    go_wp2_with fail
    refine (k1 _).mono ?_
    rintro e w' ⟨rfl, rfl⟩
    go_wp2_with fail
    refine (k2 _).mono ?_
    rintro e w' ⟨rfl, rfl⟩
    go_wp2
    go_ret
    exact ⟨by simp, ((Below.refl _ _).alloc (Nat.le_refl _) _).alloc (by simp) _⟩

set_option maxHeartbeats 1000000 in
theorem less_says (A B : Nat) (a1 a2 b1 b2 t : Int) (W : World) (hb : Boxes A B a1 a2 b1 b2 W) :
    Calls Try.prog 13 #[.int .i64 t, .pointer (some ⟨A, 0, none⟩), .pointer (some ⟨B, 0, none⟩)] W fun e w' => e = .returned (.bool (hasB a1 a2 t && !hasB b1 b2 t)) ∧ Below W.heap.size W w' := by
  obtain ⟨h1, h2, h3, h4, h5, h6⟩ := hb
  have k1 := fun W => ref_Has a1 a2 t W
  have k2 := fun W => ref_Has b1 b2 t W
  generalize hasB a1 a2 t = x at k1 ⊢
  generalize hasB b1 b2 t = y at k2 ⊢
  cases x
  · go_enter Try.func13, Try.ntmps13
    go_wp2_with fail
    refine (k1 _).mono ?_
    rintro e w' ⟨rfl, rfl⟩
    go_wp2
    go_ret
    exact ⟨rfl, (Below.refl _ _).alloc (Nat.le_refl _) _⟩
  · go_enter Try.func13, Try.ntmps13
    go_wp2_with fail
    refine (k1 _).mono ?_
    rintro e w' ⟨rfl, rfl⟩
    go_wp2_with fail
    refine (k2 _).mono ?_
    rintro e w' ⟨rfl, rfl⟩
    go_wp2
    go_ret
    exact ⟨by simp, ((Below.refl _ _).alloc (Nat.le_refl _) _).alloc (by simp) _⟩

theorem below_grow (w : World) (n : Nat) (os : Array Obj) : Below w.heap.size w (grow (w.drewN n) os) :=
  ⟨rfl, rfl, rfl, by simp [grow, World.drewN], fun k hk => heap_grow_old _ _ (by exact hk)⟩

/-- Ends of a list of two spans. -/
theorem ends_two (a1 a2 b1 b2 : Int) (w : World) :
    Calls Try.prog 10 #[.slice (some ⟨w.heap.size + 1, 0, none⟩) 1 1] ((w.alloc (.cells #[.int .i64 a1, .int .i64 a2, .int .i64 b1, .int .i64 b2] 23)).alloc (.cells #[.slice (some ⟨w.heap.size, 0, none⟩) 2 2] 26)) fun e w' =>
      ∃ v, e = .returned v ∧ w'.ownsRow 0 3 1 v (sorted [a1, a2, b1, b2]).length ((sorted [a1, a2, b1, b2]).map (Value.int .i64)) ∧ Below w.heap.size w w' := by
  have h := ref_Ends [[(a1, a2), (b1, b2)]] (fun _ => .slice (some ⟨w.heap.size, 0, none⟩) 2 2) (w.heap.size + 1) 1 0 ((w.alloc (.cells #[.int .i64 a1, .int .i64 a2, .int .i64 b1, .int .i64 b2] 23)).alloc (.cells #[.slice (some ⟨w.heap.size, 0, none⟩) 2 2] 26)) (by simp) (by simp) (by simp [allSides, sides]) ?_ ?_
  · refine h.mono ?_
    rintro e w' ⟨v, rfl, h1, h2⟩
    refine ⟨v, rfl, ?_, ?_⟩
    · have := ownsRow_rebase (base' := 0) h1 (Nat.zero_le _)
      simpa [allSides, sides] using this
    · exact (((Below.refl _ _).alloc (Nat.le_refl _) _).alloc (by simp) _).trans (h2.mono (by simp; omega))
  · intro i hi
    have : i = 0 := by simp at hi; exact hi
    subst this
    simp
  · intro i hi
    have : i = 0 := by simp at hi; exact hi
    subst this
    exact (World.ownsRow_lit (base := 0) (e := 23) (size := 2) w #[.int .i64 a1, .int .i64 a2, .int .i64 b1, .int .i64 b2] 2 (Nat.zero_le _) (by decide) rfl).alloc _

theorem Boxes.both {A B : Nat} {a1 a2 b1 b2 : Int} {W : World} (h : Boxes A B a1 a2 b1 b2 W) : Says W 11 #[.pointer (some ⟨A, 0, none⟩), .pointer (some ⟨B, 0, none⟩)] (fun t => hasB a1 a2 t && hasB b1 b2 t) :=
  fun W' t hb => both_says A B a1 a2 b1 b2 t W' (h.carry hb)
theorem Boxes.less {A B : Nat} {a1 a2 b1 b2 : Int} {W : World} (h : Boxes A B a1 a2 b1 b2 W) : Says W 13 #[.pointer (some ⟨A, 0, none⟩), .pointer (some ⟨B, 0, none⟩)] (fun t => hasB a1 a2 t && !hasB b1 b2 t) :=
  fun W' t hb => less_says A B a1 a2 b1 b2 t W' (h.carry hb)

theorem sorted_small (a b c d : Int) : (sorted [a, b, c, d]).length < 1099511627776 := by rw [sorted_length]; simp

/-- The two lists that the document tells. -/
def bothL (a1 a2 b1 b2 : Int) : List (Int × Int) := if mlo a1 b1 < mhi a2 b2 then [(mlo a1 b1, mhi a2 b2)] else []

theorem below_alloc_drewN (w : World) (o : Obj) (n : Nat) : Below w.heap.size w ((w.alloc o).drewN n) :=
  ((Below.refl _ _).alloc (Nat.le_refl _) _).trans ⟨rfl, rfl, rfl, Nat.le_refl _, fun _ _ => rfl⟩
theorem below_drewN' {B : Nat} (w : World) (n : Nat) : Below B w (w.drewN n) := ⟨rfl, rfl, rfl, Nat.le_refl _, fun _ _ => rfl⟩

theorem lessL_small (a1 a2 b1 b2 : Int) : (lessL a1 a2 b1 b2).length < 1099511627776 := by
  unfold lessL
  repeat' split
  all_goals simp

set_option maxHeartbeats 2000000 in
theorem SpanParts_yes (a1 a2 b1 b2 t : Int) (w : World) (hm : mlo a1 b1 < mhi a2 b2)
    (e1 : go (fun t => hasB a1 a2 t && hasB b1 b2 t) (sorted [a1, a2, b1, b2]) none = [(mlo a1 b1, mhi a2 b2)])
    (e2 : go (fun t => hasB a1 a2 t && !hasB b1 b2 t) (sorted [a1, a2, b1, b2]) none = lessL a1 a2 b1 b2) :
    Calls Try.prog 3 #[.agg #[.int .i64 a1, .int .i64 a2], .agg #[.int .i64 b1, .int .i64 b2], .int .i64 t] w fun e w' => e = .returned (.bool true) ∧ Below w.heap.size w w' := by
  have mixed : Try.prog.follows .mixedOrders = true := by kernel_rfl
  have r5 : ∀ W, Calls Try.prog 5 #[.agg #[.int .i64 a1, .int .i64 a2]] W fun e w' => e = .returned (.bool (rightB a1 a2)) ∧ ∃ q os', w' = grow (W.drewN q) os' := fun W => (span_Right a1 a2 W).mono fun _ _ h => ⟨h.1, grow_one _ _ _ h.2⟩
  have r6 : ∀ W, Calls Try.prog 6 #[.agg #[.int .i64 a1, .int .i64 a2]] W fun e w' => e = .returned (.bool (rightB a1 a2)) ∧ ∃ q os', w' = grow (W.drewN q) os' := fun W => (ref_Right a1 a2 W).mono fun _ _ h => ⟨h.1, grow_one _ _ _ h.2⟩
  have r7 : ∀ W, Calls Try.prog 7 #[.agg #[.int .i64 a1, .int .i64 a2], .int .i64 t] W fun e w' => e = .returned (.bool (hasB a1 a2 t)) ∧ ∃ q os', w' = grow (W.drewN q) os' := fun W => (span_Has a1 a2 t W).mono fun _ _ h => ⟨h.1, grow_one _ _ _ h.2⟩
  have r8 : ∀ W, Calls Try.prog 8 #[.agg #[.int .i64 a1, .int .i64 a2], .int .i64 t] W fun e w' => e = .returned (.bool (hasB a1 a2 t)) ∧ ∃ q os', w' = grow (W.drewN q) os' := fun W => (ref_Has a1 a2 t W).mono fun _ _ h => ⟨h.1, grow_one _ _ _ h.2⟩
  have eg11 : ∀ args w, (callFunc 11 args).run Try.prog w = .ok (.enter 11 args) w := enters_of Try.func11 (by kernel_rfl) rfl
  have eg13 : ∀ args w, (callFunc 13 args).run Try.prog w = .ok (.enter 13 args) w := enters_of Try.func13 (by kernel_rfl) rfl
  generalize rightB a1 a2 = r at r5 r6
  generalize hasB a1 a2 t = hh at r7 r8
  have E1 := hide e1
  have E2 := hide e2
  clear e1 e2
  go_enter Try.func3, Try.ntmps3
  go_wp2
  have hbx := boxes_two a1 a2 b1 b2 w
  have hbw : Below w.heap.size w ((w.alloc (.cells #[.int .i64 a1, .int .i64 a2] 23)).alloc (.cells #[.int .i64 b1, .int .i64 b2] 23)) := ((Below.refl _ _).alloc (Nat.le_refl _) _).alloc (by simp) _
  generalize ((w.alloc (.cells #[.int .i64 a1, .int .i64 a2] 23)).alloc (.cells #[.int .i64 b1, .int .i64 b2] 23)) = wq at hbx hbw ⊢
  have l0 : ∀ n os, (grow (wq.drewN n) os).cell? ⟨w.heap.size, 0, none⟩ = some (.int .i64 a1) := cell_grown hbx.2.2.2.2.1 hbx.1
  have l1 : ∀ n os, (grow (wq.drewN n) os).cell? ⟨w.heap.size, 1, none⟩ = some (.int .i64 a2) := cell_grown hbx.2.2.2.2.1 hbx.2.1
  have HBX := hide hbx
  have HBW := hide hbw
  clear hbx hbw
  go_quiet_grown (first | (go_at_call 5; refine Calls.grown_of (r5 _)) | (go_at_call 6; refine Calls.grown_of (r6 _)) | (go_at_call 7; refine Calls.grown_of (r7 _)) | (go_at_call 8; refine Calls.grown_of (r8 _)))
  have hb2 := below_grow wq nq osq
  have hbx2 := (unhide HBX).carry hb2
  have hbw2 := (unhide HBW).trans (hb2.mono (unhide HBW).size)
  change Exit.then _ _ _ _ (grow (wq.drewN nq) osq)
  generalize grow (wq.drewN nq) osq = w2 at hbx2 hbw2 ⊢
  clear HBX HBW l0 l1 r5 r6 r7 r8 hb2
  obtain ⟨c0, c1, c2, c3, c4, c5⟩ := id hbx2
  have HBX := hide hbx2
  have HBW := hide hbw2
  clear hbx2 hbw2
  go_wp2_with fail
  refine (ends_two a1 a2 b1 b2 w2).mono ?_
  rintro e w3 ⟨v3, rfl, ho3, hb3⟩
  have hbx3 := (unhide HBX).carry hb3
  have HBW3 := hide ((unhide HBW).trans (hb3.mono (unhide HBW).size))
  have HW3 := hide (ref_Where _ _ 11 _ 0 v3 w3 (sorted_small a1 a2 b1 b2) eg11 ho3 hbx3.both)
  rw [unhide E1] at HW3
  have HBX3 := hide hbx3
  clear ho3 hb3 hbx3 HBX HBW c0 c1 c2 c3 c4 c5
  go_wp2_with fail
  refine (unhide HW3).mono ?_
  rintro e w4 ⟨v4, rfl, ho4, hb4⟩
  have hbx4 := (unhide HBX3).carry hb4
  have HBW4 := hide ((unhide HBW3).trans (hb4.mono (unhide HBW3).size))
  obtain ⟨c0, c1, c2, c3, c4, c5⟩ := id hbx4
  have HBX4 := hide hbx4
  have hvw := ownsRow_view ho4
  rcases hvw with ⟨_, h0⟩ | ⟨g4, cap4, hv4, hg4, _, _, hc4⟩
  · simp at h0
  have d0 := (hc4 0 (by simp)).1
  have d1 := (hc4 0 (by simp)).2
  simp at d0 d1 hv4
  subst hv4
  clear hb4 hbx4 ho4 HW3 HBX3 HBW3 hc4
  have hM := hide (fun W => span_Meet_yes a1 a2 b1 b2 W hm)
  have E3 := hide (show ∃ lo hi, lo = mlo a1 b1 ∧ hi = mhi a2 b2 from ⟨_, _, rfl, rfl⟩)
  clear hm
  generalize mlo a1 b1 = lo at d0 hM E1
  generalize mhi a2 b2 = hi at d1 hM E1
  clear E3
  go_wp2_with fail
  refine ((unhide hM) _).mono ?_
  rintro e w5 ⟨rfl, hb5⟩
  have hbx5 := (unhide HBX4).carry hb5
  have HBW5 := hide ((unhide HBW4).trans (hb5.mono (unhide HBW4).size))
  have d2 := (hb5.cell (p := ⟨g4, 0, none⟩) hg4).trans d0
  have d3 := (hb5.cell (p := ⟨g4, 1, none⟩) hg4).trans d1
  have hg5 := Nat.lt_of_lt_of_le hg4 hb5.size
  obtain ⟨k0, k1, k2, k3, k4, k5⟩ := id hbx5
  have HBX5 := hide hbx5
  clear hb5 hbx5 HBX4 HBW4 d0 d1 c0 c1 c2 c3 c4 c5 hM
  go_wp2
  go_quiet (fail)
  have hb6 := below_alloc_drewN w5 (.cells #[.int .i64 lo, .int .i64 hi] 23) nq
  have hbx6 := (unhide HBX5).carry hb6
  have HBW6 := hide ((unhide HBW5).trans (hb6.mono (unhide HBW5).size))
  generalize (w5.alloc (.cells #[.int .i64 lo, .int .i64 hi] 23)).drewN nq = w6 at hbx6 HBW6 ⊢
  clear HBX5 HBW5 hb6
  obtain ⟨c0, c1, c2, c3, c4, c5⟩ := id hbx6
  have HBX6 := hide hbx6
  clear hbx6 k0 k1 k2 k3 k4 k5
  go_wp2_with fail
  refine (ends_two a1 a2 b1 b2 w6).mono ?_
  rintro e w7 ⟨v7, rfl, ho7, hb7⟩
  have hbx7 := (unhide HBX6).carry hb7
  have HBW7 := hide ((unhide HBW6).trans (hb7.mono (unhide HBW6).size))
  have HW7 := hide (ref_Where _ _ 13 _ 0 v7 w7 (sorted_small a1 a2 b1 b2) eg13 ho7 hbx7.less)
  rw [unhide E2] at HW7
  have HBX7 := hide hbx7
  clear ho7 hb7 hbx7 HBX6 HBW6 c0 c1 c2 c3 c4 c5
  go_wp2_with fail
  refine (unhide HW7).mono ?_
  rintro e w8 ⟨v8, rfl, ho8, hb8⟩
  have hbx8 := (unhide HBX7).carry hb8
  have HBW8 := hide ((unhide HBW7).trans (hb8.mono (unhide HBW7).size))
  obtain ⟨c0, c1, c2, c3, c4, c5⟩ := id hbx8
  have HO8 := hide ho8
  clear hb8 hbx8 ho8 HW7 HBX7 HBW7
  go_wp2_with fail
  refine (span_Less a1 a2 b1 b2 w8).mono ?_
  rintro e w9 ⟨v9, rfl, ho9, hb9⟩
  have HO9 := hide ho9
  have HO10 := hide (ownsRow_carry (unhide HO8) hb9)
  have HBW9 := hide ((unhide HBW8).trans (hb9.mono (unhide HBW8).size))
  clear hb9 ho9 HO8 HBW8
  go_wp2_with fail
  refine (sameSpans_yes (lessL_small a1 a2 b1 b2) (unhide HO9) (unhide HO10)).mono ?_
  rintro e w10 ⟨rfl, n10, rfl⟩
  go_wp2
  go_ret
  exact ⟨rfl, (unhide HBW9).trans (below_drewN' w9 n10)⟩

set_option maxHeartbeats 2000000 in
theorem SpanParts_no (a1 a2 b1 b2 t : Int) (w : World) (hm : ¬ mlo a1 b1 < mhi a2 b2)
    (e1 : go (fun t => hasB a1 a2 t && hasB b1 b2 t) (sorted [a1, a2, b1, b2]) none = [])
    (e2 : go (fun t => hasB a1 a2 t && !hasB b1 b2 t) (sorted [a1, a2, b1, b2]) none = lessL a1 a2 b1 b2) :
    Calls Try.prog 3 #[.agg #[.int .i64 a1, .int .i64 a2], .agg #[.int .i64 b1, .int .i64 b2], .int .i64 t] w fun e w' => e = .returned (.bool true) ∧ Below w.heap.size w w' := by
  have mixed : Try.prog.follows .mixedOrders = true := by kernel_rfl
  have r5 : ∀ W, Calls Try.prog 5 #[.agg #[.int .i64 a1, .int .i64 a2]] W fun e w' => e = .returned (.bool (rightB a1 a2)) ∧ ∃ q os', w' = grow (W.drewN q) os' := fun W => (span_Right a1 a2 W).mono fun _ _ h => ⟨h.1, grow_one _ _ _ h.2⟩
  have r6 : ∀ W, Calls Try.prog 6 #[.agg #[.int .i64 a1, .int .i64 a2]] W fun e w' => e = .returned (.bool (rightB a1 a2)) ∧ ∃ q os', w' = grow (W.drewN q) os' := fun W => (ref_Right a1 a2 W).mono fun _ _ h => ⟨h.1, grow_one _ _ _ h.2⟩
  have r7 : ∀ W, Calls Try.prog 7 #[.agg #[.int .i64 a1, .int .i64 a2], .int .i64 t] W fun e w' => e = .returned (.bool (hasB a1 a2 t)) ∧ ∃ q os', w' = grow (W.drewN q) os' := fun W => (span_Has a1 a2 t W).mono fun _ _ h => ⟨h.1, grow_one _ _ _ h.2⟩
  have r8 : ∀ W, Calls Try.prog 8 #[.agg #[.int .i64 a1, .int .i64 a2], .int .i64 t] W fun e w' => e = .returned (.bool (hasB a1 a2 t)) ∧ ∃ q os', w' = grow (W.drewN q) os' := fun W => (ref_Has a1 a2 t W).mono fun _ _ h => ⟨h.1, grow_one _ _ _ h.2⟩
  have eg11 : ∀ args w, (callFunc 11 args).run Try.prog w = .ok (.enter 11 args) w := enters_of Try.func11 (by kernel_rfl) rfl
  have eg13 : ∀ args w, (callFunc 13 args).run Try.prog w = .ok (.enter 13 args) w := enters_of Try.func13 (by kernel_rfl) rfl
  generalize rightB a1 a2 = r at r5 r6
  generalize hasB a1 a2 t = hh at r7 r8
  have E1 := hide e1
  have E2 := hide e2
  clear e1 e2
  go_enter Try.func3, Try.ntmps3
  go_wp2
  have hbx := boxes_two a1 a2 b1 b2 w
  have hbw : Below w.heap.size w ((w.alloc (.cells #[.int .i64 a1, .int .i64 a2] 23)).alloc (.cells #[.int .i64 b1, .int .i64 b2] 23)) := ((Below.refl _ _).alloc (Nat.le_refl _) _).alloc (by simp) _
  generalize ((w.alloc (.cells #[.int .i64 a1, .int .i64 a2] 23)).alloc (.cells #[.int .i64 b1, .int .i64 b2] 23)) = wq at hbx hbw ⊢
  have l0 : ∀ n os, (grow (wq.drewN n) os).cell? ⟨w.heap.size, 0, none⟩ = some (.int .i64 a1) := cell_grown hbx.2.2.2.2.1 hbx.1
  have l1 : ∀ n os, (grow (wq.drewN n) os).cell? ⟨w.heap.size, 1, none⟩ = some (.int .i64 a2) := cell_grown hbx.2.2.2.2.1 hbx.2.1
  have HBX := hide hbx
  have HBW := hide hbw
  clear hbx hbw
  go_quiet_grown (first | (go_at_call 5; refine Calls.grown_of (r5 _)) | (go_at_call 6; refine Calls.grown_of (r6 _)) | (go_at_call 7; refine Calls.grown_of (r7 _)) | (go_at_call 8; refine Calls.grown_of (r8 _)))
  have hb2 := below_grow wq nq osq
  have hbx2 := (unhide HBX).carry hb2
  have hbw2 := (unhide HBW).trans (hb2.mono (unhide HBW).size)
  change Exit.then _ _ _ _ (grow (wq.drewN nq) osq)
  generalize grow (wq.drewN nq) osq = w2 at hbx2 hbw2 ⊢
  clear HBX HBW l0 l1 r5 r6 r7 r8 hb2
  obtain ⟨c0, c1, c2, c3, c4, c5⟩ := id hbx2
  have HBX := hide hbx2
  have HBW := hide hbw2
  clear hbx2 hbw2
  go_wp2_with fail
  refine (ends_two a1 a2 b1 b2 w2).mono ?_
  rintro e w3 ⟨v3, rfl, ho3, hb3⟩
  have hbx3 := (unhide HBX).carry hb3
  have HBW3 := hide ((unhide HBW).trans (hb3.mono (unhide HBW).size))
  have HW3 := hide (ref_Where _ _ 11 _ 0 v3 w3 (sorted_small a1 a2 b1 b2) eg11 ho3 hbx3.both)
  rw [unhide E1] at HW3
  have HBX3 := hide hbx3
  clear ho3 hb3 hbx3 HBX HBW c0 c1 c2 c3 c4 c5
  go_wp2_with fail
  refine (unhide HW3).mono ?_
  rintro e w4 ⟨v4, rfl, ho4, hb4⟩
  have hbx4 := (unhide HBX3).carry hb4
  have HBW4 := hide ((unhide HBW3).trans (hb4.mono (unhide HBW3).size))
  obtain ⟨c0, c1, c2, c3, c4, c5⟩ := id hbx4
  have HBX4 := hide hbx4
  have hv4 : ∃ ad cap, v4 = .slice ad 0 cap := by
    rcases ho4.2 with ⟨h0, _⟩ | ⟨g, cap, _, h0, _⟩
    · exact ⟨none, 0, h0⟩
    · exact ⟨_, cap, h0⟩
  obtain ⟨ad4, cap4, hv4⟩ := hv4
  subst hv4
  clear hb4 hbx4 ho4 HW3 HBX3 HBW3
  have hM := hide (fun W => span_Meet_no a1 a2 b1 b2 W (by omega))
  clear hm
  go_wp2_with fail
  refine ((unhide hM) _).mono ?_
  rintro e w5 ⟨rfl, hb5⟩
  have hbx5 := (unhide HBX4).carry hb5
  have HBW5 := hide ((unhide HBW4).trans (hb5.mono (unhide HBW4).size))
  obtain ⟨k0, k1, k2, k3, k4, k5⟩ := id hbx5
  have HBX5 := hide hbx5
  clear hb5 hbx5 HBX4 HBW4 c0 c1 c2 c3 c4 c5 hM
  go_wp2
  go_quiet (fail)
  have hb6 := below_alloc_drewN w5 (.cells #[.int .i64 0, .int .i64 0] 23) nq
  have hbx6 := (unhide HBX5).carry hb6
  have HBW6 := hide ((unhide HBW5).trans (hb6.mono (unhide HBW5).size))
  generalize (w5.alloc (.cells #[.int .i64 0, .int .i64 0] 23)).drewN nq = w6 at hbx6 HBW6 ⊢
  clear HBX5 HBW5 hb6
  obtain ⟨c0, c1, c2, c3, c4, c5⟩ := id hbx6
  have HBX6 := hide hbx6
  clear hbx6 k0 k1 k2 k3 k4 k5
  go_wp2_with fail
  refine (ends_two a1 a2 b1 b2 w6).mono ?_
  rintro e w7 ⟨v7, rfl, ho7, hb7⟩
  have hbx7 := (unhide HBX6).carry hb7
  have HBW7 := hide ((unhide HBW6).trans (hb7.mono (unhide HBW6).size))
  have HW7 := hide (ref_Where _ _ 13 _ 0 v7 w7 (sorted_small a1 a2 b1 b2) eg13 ho7 hbx7.less)
  rw [unhide E2] at HW7
  have HBX7 := hide hbx7
  clear ho7 hb7 hbx7 HBX6 HBW6 c0 c1 c2 c3 c4 c5
  go_wp2_with fail
  refine (unhide HW7).mono ?_
  rintro e w8 ⟨v8, rfl, ho8, hb8⟩
  have hbx8 := (unhide HBX7).carry hb8
  have HBW8 := hide ((unhide HBW7).trans (hb8.mono (unhide HBW7).size))
  obtain ⟨c0, c1, c2, c3, c4, c5⟩ := id hbx8
  have HO8 := hide ho8
  clear hb8 hbx8 ho8 HW7 HBX7 HBW7
  go_wp2_with fail
  refine (span_Less a1 a2 b1 b2 w8).mono ?_
  rintro e w9 ⟨v9, rfl, ho9, hb9⟩
  have HO9 := hide ho9
  have HO10 := hide (ownsRow_carry (unhide HO8) hb9)
  have HBW9 := hide ((unhide HBW8).trans (hb9.mono (unhide HBW8).size))
  clear hb9 ho9 HO8 HBW8
  go_wp2_with fail
  refine (sameSpans_yes (lessL_small a1 a2 b1 b2) (unhide HO9) (unhide HO10)).mono ?_
  rintro e w10 ⟨rfl, n10, rfl⟩
  go_wp2
  go_ret
  exact ⟨rfl, (unhide HBW9).trans (below_drewN' w9 n10)⟩

end Go.Proofs.Ytdjajnhiicfcaaa
