/- Who has a time of a span, and who has a time, in the program's tree: walked. -/
import Derived.Test.YtfcmkaiocnelgaaPtV
import Derived.Test.YtfcmkaiocnelgaaPtT
import Derived.Test.YtfcmkaiocnelgaaRights
import Derived.Test.YtfcmkaiocnelgaaShelfS
import Derived.Sort.OwnSortedInts
import Derived.Laws.EntriesVeiled
namespace Go.Proofs.Ytfcmkaiocnelgaa
open Go.RowKit Go.Maps

def sortedI (zs : List Int) : List Int := zs.mergeSort fun x y => decide (x ≤ y)

theorem sortedI_length (zs : List Int) : (sortedI zs).length = zs.length := List.length_mergeSort zs

theorem sort_ints (zs : List Int) (v : Value) (w : World) (base : Nat) (hlen : zs.length < 1099511627776) (hown : w.ownsRow base 3 1 v zs.length (zs.map (Value.int .i64))) :
    Calls Try.prog 51 #[v] w fun e w' => e = .returned (.tuple #[]) ∧ w'.ownsRow base 3 1 v (sortedI zs).length ((sortedI zs).map (Value.int .i64)) ∧ w.grownBy w' v.ownBlock := by
  rcases hown.2 with ⟨rfl, h0⟩ | ⟨g, cap, cur, rfl, hbg, hg, hnc, hcm, hcs, htake⟩
  · have hz : zs = [] := List.eq_nil_of_length_eq_zero h0
    subst hz
    have hcon := Any.slices_Sort_int_none Try.lays189 none 0 w
    change Calls Try.prog 51 _ _ _ at hcon
    refine hcon.mono ?_
    rintro e w' ⟨rfl, rfl⟩
    exact ⟨rfl, by simpa [sortedI] using hown, ⟨rfl, rfl, rfl, Nat.le_refl _, fun _ _ _ => rfl⟩⟩
  · have hH : Go.Sort.Holds (Value.int .i64) w g 0 zs.toArray := holds_of_blockI hg (by simpa using htake)
    have hcon := Any.slices_Sort_int Try.lays189 g 0 cap zs w hH (Array.getElem?_eq_some_iff.1 hg).1 (by omega)
    change Calls Try.prog 51 _ _ _ at hcon
    refine hcon.mono ?_
    rintro e w' ⟨rfl, n, os, rfl⟩
    refine ⟨rfl, ?_, grownBy_sortedI _⟩
    have := ownsRow_sortedI (n := n) (os := os) (ts := sortedI zs) (sortedI_length zs) hbg hg hnc hcm hcs
    rw [sortedI_length]
    exact this

theorem met_sorted {L : List Ent} {X : List (Nat × Ent)} (h : Both L X) (hr : Rising L) (lo hi : Int) (hR : rightB lo hi = true) : sortedI (metX lo hi X) = meetsT L lo hi := by
  unfold meetsT
  rw [if_pos hR]
  refine sorted_one _ _ ((List.mergeSort_perm _ _).trans (both_met h lo hi).symm) ?_ ?_
  · have := List.pairwise_mergeSort (le := fun x y : Int => decide (x ≤ y)) (fun a b c h1 h2 => by simp at *; omega) (fun a b => by simp; omega) (metX lo hi X)
    exact this.imp (fun h => by simpa using h)
  · exact (met_rises L hr (meetB lo hi)).imp (fun h => by omega)

set_option maxRecDepth 100000 in
set_option maxHeartbeats 4000000 in
theorem tree_Meets (L : List Ent) (B : Nat) (F : Nat → Prop) (lo hi : Int) (w : World) (h : PT w B L F) :
    Calls Try.prog 32 #[.pointer (some ⟨B, 0, none⟩), .agg #[.int .i64 lo, .int .i64 hi]] w (GivesI (meetsT L lo hi) w) := by
  obtain ⟨mv, X, hP⟩ := h
  have HR := hide (fun W => span_Right lo hi W)
  have hB0 := below_box w (.cells #[.int .i64 lo, .int .i64 hi] 23)
  by_cases h2 : rightB lo hi = true
  · rw [h2] at HR
    have HE := hide (met_sorted hP.both hP.rising lo hi h2)
    have hlh := right_lt h2
    have hB := hP.lt B hP.fB
    have HP := hide hP
    have hl : X.length ≤ 4000 := by rw [hP.length]; exact hP.len
    have HBX : Hid (∀ W, W = (w.alloc (.cells #[.int .i64 lo, .int .i64 hi] 23)).alloc (.cells #[.int .i64 lo, .int .i64 hi] 23) → Below w.heap.size w W ∧ W.heap[w.heap.size]? = some (.cells #[.int .i64 lo, .int .i64 hi] 23 (0, 0)) ∧ w.heap.size < W.heap.size) := fun W hW => by
      rw [hW]
      exact ⟨hB0.trans ((below_box _ _).mono (by simp)), ((below_box _ _).block _ (by simp)).trans (heap_alloc_new _ _), by simp; omega⟩
    clear hP h2
    go_enter Try.func32, Try.ntmps32
    go_wp2_with (go_at_call 6; refine (unhide HR _).mono ?_; rintro e W ⟨rfl, hW⟩; have BW := hide (unhide HBX _ hW); clear hW)
    generalize hX : (W.alloc (.cells #[.slice none 0 0] 28)).alloc (.cells #[(.func (.func 50) #[] #[.pointer (some ⟨w.heap.size, 0, none⟩), .pointer (some ⟨W.heap.size + 1, 0, none⟩), .pointer (some ⟨W.heap.size, 0, none⟩)])] 84) = Y
    have hsW := (unhide BW).1.size
    have HY : Hid (Below w.heap.size w Y) := by unfold Hid; rw [← hX]; exact ((unhide BW).1.alloc hsW _).alloc (by simp; omega) _
    have HG : Hid (GathI Y w.heap.size w.heap.size (W.heap.size + 1) W.heap.size lo hi (.slice none 0 0) []) := by
      unfold Hid
      rw [← hX]
      refine ⟨?_, ?_, ?_, by simpa using World.ownsRow_nil _ _ _ _⟩
      · rw [(below_box _ _).block _ (by have := (unhide BW).2.2; simp; omega), (below_box _ _).block _ (unhide BW).2.2]
        exact (unhide BW).2.1
      · have := heap_alloc_new (W.alloc (.cells #[.slice none 0 0] 28)) (.cells #[(.func (.func 50) #[] #[.pointer (some ⟨w.heap.size, 0, none⟩), .pointer (some ⟨W.heap.size + 1, 0, none⟩), .pointer (some ⟨W.heap.size, 0, none⟩)])] 84)
        simpa using this
      · rw [(below_box _ _).block _ (by simp)]
        exact heap_alloc_new W _
    clear hX
    have hYs := (unhide HY).size
    have HYD := hide ((unhide HY).trans ((below_drew Y).mono hYs))
    have cv := cell_of_one (unhide HG).fn
    have d1 := ((unhide HY).cell (p := ⟨B, 1, none⟩) hB).trans (unhide HP).c1
    have HC := hide (visit_met w.heap.size w.heap.size (W.heap.size + 1) W.heap.size lo hi hlh (Nat.le_refl _) (by omega) hsW (linkT X) Y.drew (.slice none 0 0) []
      ((unhide HP).lies.keeps (Keeps.of_below (fun _ => False) (unhide HYD) (Nat.le_refl _)) (fun _ _ f => f)) (unhide HP).fine (fun x hx => ((unhide HP).lies.at x hx).lt) hYs ((unhide HG).below (below_drew Y)) (by rw [items_link]; simp; omega))
    go_region_held3 (fun x => x.cell? ⟨W.heap.size + 1, 0, none⟩ = some (.func (.func 50) #[] #[.pointer (some ⟨w.heap.size, 0, none⟩), .pointer (some ⟨W.heap.size + 1, 0, none⟩), .pointer (some ⟨W.heap.size, 0, none⟩)]) ∧ x.cell? ⟨B, 1, none⟩ = some (linkT X).ptr)
      (first | exact ⟨cv, d1⟩ | exact ⟨cell_of_one (GathI.fn (by assumption)), (Below.cell (w := Y.drew) (by assumption) hB).trans d1⟩)
      (first | (go_at_call 50; refine (unhide HC).mono ?_; rintro e Z ⟨rfl, ⟨vZ, hGZ⟩, hBZ⟩))
    rename_i hh
    rw [List.nil_append, items_link] at hGZ
    obtain ⟨ad, cp, rfl⟩ := row_slice hGZ.row
    have HGZ := hide hGZ
    have HBZ := hide ((unhide HYD).trans hBZ)
    have eo := cell_of_one hGZ.o
    have hml : (metX lo hi X).length ≤ X.length := by unfold metX; rw [List.length_map]; exact List.length_filter_le _ _
    have a6 := hGZ.apart.2.2.2.2.2
    have HSO := hide (sort_ints (metX lo hi X) _ Z w.heap.size (by omega) hGZ.row)
    rw [unhide HE] at HSO
    clear hh hGZ hBZ HC cv d1 HG
    go_wp2_with (go_at_call 51; refine (unhide HSO).mono ?_; rintro e V ⟨rfl, rowV, gV⟩; have eo2 := cell_of_one ((gV.block W.heap.size (lt_of_block (unhide HGZ).o) (fun q => a6 q.symm)).trans (unhide HGZ).o))
    go_ret
    exact ⟨_, rfl, rowV, (unhide HBZ).grown gV (unhide HBZ).size (fun k q => ((unhide HGZ).row.lt k q).1)⟩
  · have h2' : rightB lo hi = false := by simpa using h2
    have E : Hid (meetsT L lo hi = []) := by unfold Hid meetsT; rw [if_neg h2]
    rw [h2'] at HR
    clear hP h2 h2'
    go_enter Try.func32, Try.ntmps32
    go_wp2_with (go_at_call 6; refine (unhide HR _).mono ?_; rintro e W ⟨rfl, rfl⟩)
    go_ret
    exact ⟨_, rfl, by rw [unhide E]; exact World.ownsRow_nil _ _ _ _, hB0.trans ((below_box _ _).mono (by simp))⟩

theorem at_meets (L : List Ent) (t : Int) (hR : ∀ e, e ∈ L → rightB e.lo e.hi = true) (hw : (Lit.int .i64 t).wf = true) : meetsT L t (IntKind.i64.wrap (t + 1)) = atT L t := by
  have hb : -9223372036854775808 ≤ t ∧ t ≤ 9223372036854775807 := by
    have h0 : IntKind.i64.min ≤ t ∧ t ≤ 9223372036854775807 := by simpa [Lit.wf] using hw
    exact ⟨h0.1, h0.2⟩
  unfold meetsT atT
  by_cases h : rightB t (IntKind.i64.wrap (t + 1)) = true
  · rw [if_pos h]
    have h' := of_decide_eq_true (show decide (-1099511627776 ≤ t ∧ IntKind.i64.wrap (t + 1) ≤ 1099511627776 ∧ t < IntKind.i64.wrap (t + 1)) = true from h)
    have hx : IntKind.i64.wrap (t + 1) = t + 1 := by
      rw [IntKind.wrap_i64] at h' ⊢
      omega
    rw [hx]
    congr 1
    refine List.filter_congr fun e he => ?_
    have hr := of_decide_eq_true (show decide (-1099511627776 ≤ e.lo ∧ e.hi ≤ 1099511627776 ∧ e.lo < e.hi) = true from hR e he)
    unfold meetB hasE
    exact decide_eq_decide.2 (by omega)
  · rw [if_neg h]
    have h' : ¬ (-1099511627776 ≤ t ∧ IntKind.i64.wrap (t + 1) ≤ 1099511627776 ∧ t < IntKind.i64.wrap (t + 1)) := fun k => h (decide_eq_true k)
    rw [IntKind.wrap_i64] at h'
    have : L.filter (hasE t) = [] := List.filter_eq_nil_iff.2 fun e he => by
      have hr := of_decide_eq_true (show decide (-1099511627776 ≤ e.lo ∧ e.hi ≤ 1099511627776 ∧ e.lo < e.hi) = true from hR e he)
      unfold hasE
      simp only [decide_eq_true_eq]
      omega
    rw [this]
    rfl

theorem wrap64_is (x : Int) : wrap64 x = IntKind.i64.wrap x := by
  unfold wrap64
  rw [IntKind.wrap_i64]

set_option maxRecDepth 100000 in
set_option maxHeartbeats 1000000 in
theorem tree_At (L : List Ent) (B : Nat) (F : Nat → Prop) (t : Int) (w : World) (h : PT w B L F) (hw : (Lit.int .i64 t).wf = true) :
    Calls Try.prog 31 #[.pointer (some ⟨B, 0, none⟩), .int .i64 t] w (GivesI (atT L t) w) := by
  have HM := hide (tree_Meets L B F t (wrap64 (t + 1)) w h)
  rw [show meetsT L t (wrap64 (t + 1)) = meetsT L t (IntKind.i64.wrap (t + 1)) by rw [wrap64_is], at_meets L t (fun e he => by
    obtain ⟨mv, X, hP⟩ := h
    obtain ⟨x, hx, q⟩ := List.mem_map.1 (hP.both.mem_iff.1 he)
    have := hP.right x hx
    rwa [q] at this) hw] at HM
  clear h hw
  go_enter Try.func31, Try.ntmps31
  go_wp2_with fail
  refine (unhide HM).mono ?_
  rintro e W ⟨v, rfl, h1, h2⟩
  obtain ⟨ad, cp, rfl⟩ := row_slice h1
  have H1 := hide h1
  have H2 := hide h2
  clear h1 h2 HM
  go_wp2
  go_ret
  exact ⟨_, rfl, unhide H1, unhide H2⟩

end Go.Proofs.Ytfcmkaiocnelgaa
