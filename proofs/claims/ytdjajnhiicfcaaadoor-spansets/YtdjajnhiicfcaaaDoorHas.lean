/- Whether a set has a time. -/
import Derived.Test.YtdjajnhiicfcaaaDoorOps
import Derived.Test.YtdjajnhiicfcaaaDoorShelf2
import Derived.Shelf.SlSortCmp.QuietGrown
namespace Go.Proofs.YtdjajnhiicfcaaaDoor
open Go.RowKit Palim Go.Sort

def cnt (l : List (Int × Int)) (t : Int) : Nat := l.countP fun x => !decide (t < x.2)

theorem cnt_le (l : List (Int × Int)) (t : Int) : cnt l t ≤ l.length := List.countP_le_length

theorem cnt_later {l : List (Int × Int)} {t b : Int} (h : ∀ y, y ∈ l → b < y.1) (hc : Canon l) (ht : t < b) : cnt l t = 0 := by
  unfold cnt
  rw [List.countP_eq_zero]
  intro x hx
  have h1 := h x hx
  have h2 := canon_lt hc x hx
  simp; omega

/-- Of rising spans only the first one that ends behind a time can have it. -/
theorem in_cnt : ∀ (l : List (Int × Int)) (t : Int), Canon l → (In l t ↔ ∃ h : cnt l t < l.length, (l[cnt l t]).1 ≤ t)
  | [], t, _ => by simp [in_nil]
  | y :: l, t, hc => by
      rw [in_cons]
      have later : ∀ e, In l e → y.2 < e := by
        rintro e ⟨z, hz, a, _⟩; have := hc.2.1 z hz; omega
      by_cases h : t < y.2
      · have c0 : cnt (y :: l) t = 0 := by
          have := cnt_later hc.2.1 hc.2.2 h
          unfold cnt at this ⊢
          rw [List.countP_cons, this]; simp [h]
        constructor
        · rintro (⟨a, _⟩ | a)
          · refine ⟨by rw [c0]; simp, ?_⟩
            simpa [c0] using a
          · have := later t a; omega
        · rintro ⟨h1, h2⟩
          left
          refine ⟨?_, h⟩
          simpa [c0] using h2
      · have c1 : cnt (y :: l) t = cnt l t + 1 := by
          unfold cnt
          rw [List.countP_cons]; simp [h]
        have ih := in_cnt l t hc.2.2
        constructor
        · rintro (⟨_, a⟩ | a)
          · omega
          · obtain ⟨h1, h2⟩ := ih.1 a
            refine ⟨by rw [c1]; simp; exact h1, ?_⟩
            simpa [c1] using h2
        · rintro ⟨h1, h2⟩
          right
          refine ih.2 ⟨by rw [c1] at h1; simpa using h1, ?_⟩
          simpa [c1] using h2

theorem has_count (l : List (Int × Int)) (t : Int) : (List.range l.length).countP (fun i => !decide (t < (l.toArray[i]!).2)) = cnt l t := by
  have := Go.Lib.countP_range l.toArray (fun x => !decide (t < x.2))
  simpa [cnt] using this

theorem canon_ends : ∀ (l : List (Int × Int)) (a b : Nat), Canon l → a ≤ b → (hb : b < l.length) → (ha : a < l.length) → l[a].2 ≤ l[b].2
  | [], _, _, _, _, hb, _ => by simp at hb
  | y :: l, a, b, hc, hab, hb, ha => by
      match a, b with
      | 0, 0 => exact Int.le_refl _
      | 0, b + 1 =>
        have hm := List.getElem_mem (l := l) (n := b) (by simpa using hb)
        have h1 := hc.2.1 _ hm
        have h2 := canon_lt hc.2.2 _ hm
        simp; omega
      | a + 1, b + 1 => simpa using canon_ends l a b hc.2.2 (by omega) (by simpa using hb) (by simpa using ha)
      | a + 1, 0 => omega

theorem has_mono {l : List (Int × Int)} {t : Int} (hc : Canon l) : ∀ a b, a ≤ b → b < l.length → decide (t < (l.toArray[a]!).2) = true → decide (t < (l.toArray[b]!).2) = true := by
  intro a b hab hb h
  have := canon_ends l a b hc hab hb (by omega)
  simp [show a < l.length by omega, hb] at h ⊢
  omega

set_option maxHeartbeats 1000000 in
theorem has_closure (A B g n cap i : Nat) (t y : Int) (W : World) (hi : i < n) (hA : W.cell? ⟨A, 0, none⟩ = some (.int .i64 t)) (hB : W.cell? ⟨B, 0, none⟩ = some (.slice (some ⟨g, 0, none⟩) n cap))
    (hc : W.cell? ⟨g, i * 2 + 1, none⟩ = some (.int .i64 y)) :
    Calls Tryd.prog 33 (#[.int .i64 i] ++ #[.pointer (some ⟨A, 0, none⟩), .pointer (some ⟨B, 0, none⟩)]) W fun e w' => e = .returned (.bool (decide (t < y))) ∧ ∃ q, w' = W.drewN q := by
  have hiz : (i : Int) < (n : Int) := by omega
  go_enter Tryd.func33, Tryd.ntmps33
  go_wp2
  go_quiet (fail)
  go_wp2
  go_ret
  exact ⟨rfl, _, rfl⟩

set_option maxHeartbeats 2000000 in
theorem has_cells (l : List (Int × Int)) (s g cap : Nat) (t : Int) (w : World) (hl : l.length < 1099511627776) (hg : g < w.heap.size) (hs : s < w.heap.size) (hsc : w.cell? ⟨s, 0, none⟩ = some (.slice (some ⟨g, 0, none⟩) l.length cap)) (hcan : Canon l)
    (hc : ∀ k, (hk : k < l.length) → w.cell? ⟨g, k * 2, none⟩ = some (.int .i64 l[k].1) ∧ w.cell? ⟨g, k * 2 + 1, none⟩ = some (.int .i64 l[k].2)) :
    Calls Tryd.prog 11 #[.pointer (some ⟨s, 0, none⟩), .int .i64 t] w fun e w' => e = .returned (.bool (inL l t)) ∧ Below w.heap.size w w' := by
  obtain ⟨W0, hW0⟩ : ∃ W0, W0 = (w.alloc (.cells #[.int .i64 t] 3)).alloc (.cells #[.slice (some ⟨g, 0, none⟩) l.length cap] 50) := ⟨_, rfl⟩
  have hsize : W0.heap.size = w.heap.size + 1 + 1 := by rw [hW0]; simp
  have hP := hide (set_parts_at s _ (w.alloc (.cells #[.int .i64 t] 3)) ((World.cell?_alloc_lt _ _ ⟨s, 0, none⟩ hs).trans hsc))
  have hB0 : Below w.heap.size w W0 := by rw [hW0]; exact ((Below.refl _ w).alloc (Nat.le_refl _) _).alloc (by simp) _
  have ca : W0.cell? ⟨w.heap.size, 0, none⟩ = some (.int .i64 t) := by rw [hW0]; simp
  have cb : W0.cell? ⟨w.heap.size + 1, 0, none⟩ = some (.slice (some ⟨g, 0, none⟩) l.length cap) := by rw [hW0]; simp
  have cc : ∀ i, (hi : i < l.length) → W0.cell? ⟨g, i * 2 + 1, none⟩ = some (.int .i64 (l.toArray[i]!).2) := fun i hi => by
    have := (hB0.cell (p := ⟨g, i * 2 + 1, none⟩) hg).trans (hc i hi).2
    simpa [hi] using this
  have eg : ∀ args w, (callFunc 33 args).run Tryd.prog w = .ok (.enter 33 args) w := enters_of Tryd.func33 (by kernel_rfl) rfl
  have hS := Any.sort_Search Tryd.search 33 #[.pointer (some ⟨w.heap.size, 0, none⟩), .pointer (some ⟨w.heap.size + 1, 0, none⟩)] l.length (fun i => decide (t < (l.toArray[i]!).2)) W0 eg (by omega)
    (fun m os i hi => (has_closure w.heap.size (w.heap.size + 1) g l.length cap i t _ _ hi (cell_grown (by simp [hsize]; omega) ca m os) (cell_grown (by simp [hsize]) cb m os) (cell_grown (by simp [hsize]; omega) (cc i hi) m os)).mono
      fun _ _ ⟨he, q, hq⟩ => ⟨he, q, #[], by rw [hq, grow_empty]⟩) (has_mono hcan)
  rw [has_count] at hS
  change Calls Tryd.prog 32 _ _ _ at hS
  have HS := hide hS
  have HB0 := hide hB0
  have HW0 := hide hW0
  have hic := in_cnt l t hcan
  have hcle := cnt_le l t
  by_cases hlt : cnt l t < l.length
  · have d0 := (hB0.cell (p := ⟨g, cnt l t * 2, none⟩) hg).trans (hc (cnt l t) hlt).1
    have hin : inL l t = decide (l[cnt l t].1 ≤ t) := by
      rw [Bool.eq_iff_iff, inL_iff, hic]
      simp [hlt]
    rw [hin]
    clear hS hW0 hc hcan hsc eg cc hic hin hB0
    generalize l[cnt l t].1 = y at d0
    generalize cnt l t = c at HS hlt d0 hcle
    have hltz : (c : Int) < (l.length : Int) := by omega
    go_enter Tryd.func11, Tryd.ntmps11
    go_wp2_with fail
    refine (unhide hP).mono ?_
    rintro e w1 ⟨rfl, rfl⟩
    go_wp2_with fail
    rw [← unhide HW0]
    refine (unhide HS).mono ?_
    rintro e w2 ⟨rfl, q, os, hw2⟩
    have hb2 := below_grown_sl W0.heap.size W0 q os (Nat.le_refl _)
    rw [← hw2] at hb2
    have f0 := (hb2.cell (p := ⟨g, c * 2, none⟩) (by simp [hsize]; omega)).trans d0
    have f1 := (hb2.cell (p := ⟨w.heap.size, 0, none⟩) (by simp [hsize]; omega)).trans ca
    have f2 := (hb2.cell (p := ⟨w.heap.size + 1, 0, none⟩) (by simp [hsize])).trans cb
    have HB2 := hide ((unhide HB0).trans (hb2.mono (by omega)))
    clear hw2 hb2 d0 ca cb HS HW0 HB0 hP
    go_wp2
    go_quiet (fail)
    go_wp2
    go_ret
    exact ⟨rfl, (unhide HB2).trans ⟨rfl, rfl, rfl, Nat.le_refl _, fun _ _ => rfl⟩⟩
  · have hin : inL l t = false := by
      rw [Bool.eq_false_iff]
      intro h
      obtain ⟨h1, _⟩ := hic.1 ((inL_iff l t).1 h)
      exact hlt h1
    rw [hin]
    clear hS hW0 hc hcan hsc eg cc hic hin hB0
    generalize cnt l t = c at HS hlt hcle
    have hltz : decide ((c : Int) < (l.length : Int)) = false := by simp; omega
    go_enter Tryd.func11, Tryd.ntmps11
    go_wp2_with fail
    refine (unhide hP).mono ?_
    rintro e w1 ⟨rfl, rfl⟩
    go_wp2_with fail
    rw [← unhide HW0]
    refine (unhide HS).mono ?_
    rintro e w2 ⟨rfl, q, os, hw2⟩
    have hb2 := below_grown_sl W0.heap.size W0 q os (Nat.le_refl _)
    rw [← hw2] at hb2
    have f1 := (hb2.cell (p := ⟨w.heap.size, 0, none⟩) (by simp [hsize]; omega)).trans ca
    have f2 := (hb2.cell (p := ⟨w.heap.size + 1, 0, none⟩) (by simp [hsize])).trans cb
    have HB2 := hide ((unhide HB0).trans (hb2.mono (by omega)))
    clear hw2 hb2 ca cb HS HW0 HB0 hP
    go_wp2
    go_quiet (fail)
    go_wp2
    go_ret
    exact ⟨rfl, (unhide HB2).trans ⟨rfl, rfl, rfl, Nat.le_refl _, fun _ _ => rfl⟩⟩

set_option maxHeartbeats 2000000 in
theorem has_none (s : Nat) (t : Int) (w : World) (hs : s < w.heap.size) (hsc : w.cell? ⟨s, 0, none⟩ = some (.slice none 0 0)) :
    Calls Tryd.prog 11 #[.pointer (some ⟨s, 0, none⟩), .int .i64 t] w fun e w' => e = .returned (.bool false) ∧ Below w.heap.size w w' := by
  obtain ⟨W0, hW0⟩ : ∃ W0, W0 = (w.alloc (.cells #[.int .i64 t] 3)).alloc (.cells #[.slice none 0 0] 50) := ⟨_, rfl⟩
  have hsize : W0.heap.size = w.heap.size + 1 + 1 := by rw [hW0]; simp
  have hP := hide (set_parts_at s _ (w.alloc (.cells #[.int .i64 t] 3)) ((World.cell?_alloc_lt _ _ ⟨s, 0, none⟩ hs).trans hsc))
  have hB0 : Below w.heap.size w W0 := by rw [hW0]; exact ((Below.refl _ w).alloc (Nat.le_refl _) _).alloc (by simp) _
  have ca : W0.cell? ⟨w.heap.size, 0, none⟩ = some (.int .i64 t) := by rw [hW0]; simp
  have cb : W0.cell? ⟨w.heap.size + 1, 0, none⟩ = some (.slice none 0 0) := by rw [hW0]; simp
  have eg : ∀ args w, (callFunc 33 args).run Tryd.prog w = .ok (.enter 33 args) w := enters_of Tryd.func33 (by kernel_rfl) rfl
  have hS := Any.sort_Search Tryd.search 33 #[.pointer (some ⟨w.heap.size, 0, none⟩), .pointer (some ⟨w.heap.size + 1, 0, none⟩)] 0 (fun _ => true) W0 eg (by omega)
    (fun m os i hi => absurd hi (Nat.not_lt_zero _)) (fun _ _ _ _ _ => rfl)
  change Calls Tryd.prog 32 _ _ _ at hS
  simp only [List.range_zero, List.countP_nil] at hS
  have HS := hide hS
  have HB0 := hide hB0
  have HW0 := hide hW0
  clear hS hW0 hsc eg hB0
  go_enter Tryd.func11, Tryd.ntmps11
  go_wp2_with fail
  refine (unhide hP).mono ?_
  rintro e w1 ⟨rfl, rfl⟩
  go_wp2_with fail
  rw [← unhide HW0]
  refine (unhide HS).mono ?_
  rintro e w2 ⟨rfl, q, os, hw2⟩
  have hb2 := below_grown_sl W0.heap.size W0 q os (Nat.le_refl _)
  rw [← hw2] at hb2
  have f1 := (hb2.cell (p := ⟨w.heap.size, 0, none⟩) (by simp [hsize]; omega)).trans ca
  have f2 := (hb2.cell (p := ⟨w.heap.size + 1, 0, none⟩) (by simp [hsize])).trans cb
  have HB2 := hide ((unhide HB0).trans (hb2.mono (by omega)))
  clear hw2 hb2 ca cb HS HW0 HB0 hP
  go_wp2
  go_quiet (fail)
  go_wp2
  go_ret
  exact ⟨rfl, (unhide HB2).trans ⟨rfl, rfl, rfl, Nat.le_refl _, fun _ _ => rfl⟩⟩

/-- Has of a set. -/
theorem set_Has (v : Value) (l : List (Int × Int)) (t : Int) (w : World) (hl : l.length < 1099511627776) (hc : Canon l) (h : IsSet w v l) :
    Calls Tryd.prog 11 #[v, .int .i64 t] w fun e w' => e = .returned (.bool (inL l t)) ∧ Below w.heap.size w w' := by
  obtain ⟨s, sv, base, rfl, h2, h3, h4⟩ := h
  rcases ownsRow_view h4 with ⟨rfl, rfl⟩ | ⟨g, cap, rfl, hg, _, _, hcell⟩
  · exact has_none s t w h2 h3
  · exact has_cells l s g cap t w hl hg h2 h3 hc hcell

end Go.Proofs.YtdjajnhiicfcaaaDoor
