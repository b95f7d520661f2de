/- Whether any of some spans has a time, as the document's own answer looks for it. -/
import Derived.Test.YtdjajnhiicfcaaaDoorPlace
import Derived.Shelf.SlSortCmp.QuietGrown
namespace Go.Proofs.YtdjajnhiicfcaaaDoor
open Go.RowKit Palim

/-- The world has grown by blocks and draws alone. -/
def G (w w' : World) : Prop := ∃ q os, w' = Go.Sort.grow (w.drewN q) os

theorem G.refl (w : World) : G w w := ⟨0, #[], by rw [Go.Sort.grow_empty]; rfl⟩
theorem G.alloc {w w' : World} (h : G w w') (o : Obj) : G w (w'.alloc o) := by
  obtain ⟨q, os, rfl⟩ := h
  exact ⟨q, os ++ #[o], by rw [Go.Sort.alloc_eq_grow, Go.Sort.grow_grow]⟩
theorem G.below {w w' : World} (h : G w w') : Below w.heap.size w w' := by
  obtain ⟨q, os, rfl⟩ := h
  exact ⟨rfl, rfl, rfl, by simp [Go.Sort.grow, World.drewN], fun k hk => Go.Sort.heap_grow_old _ _ (by exact hk)⟩

theorem inL_take (l : List (Int × Int)) (k : Nat) (h : k < l.length) (t : Int) : inL (l.take (k + 1)) t = (inL (l.take k) t || hasB l[k].1 l[k].2 t) := by
  unfold inL hasB
  rw [List.take_succ_eq_append_getElem h, List.any_append, List.any_cons, List.any_nil, Bool.or_false]

theorem inL_hit (l : List (Int × Int)) (k : Nat) (h : k < l.length) (t : Int) (hh : hasB l[k].1 l[k].2 t = true) : inL l t = true := by
  rw [inL_iff]
  exact ⟨l[k], List.getElem_mem h, by simpa [hasB] using hh⟩

set_option maxHeartbeats 2000000 in
theorem in_cells (l : List (Int × Int)) (b off cap : Nat) (t : Int) (w : World) (hl : l.length < 1099511627776) (hb0 : b < w.heap.size)
    (hc : ∀ k, (hk : k < l.length) → w.cell? ⟨b, off + k * 2, none⟩ = some (.int .i64 l[k].1) ∧ w.cell? ⟨b, off + k * 2 + 1, none⟩ = some (.int .i64 l[k].2)) :
    Calls Tryd.prog 12 #[.slice (some ⟨b, off, none⟩) l.length cap, .int .i64 t] w fun e w' => e = .returned (.bool (inL l t)) ∧ G w w' := by
  have HC := hide hc
  clear hc
  go_enter Tryd.func12, Tryd.ntmps12
  go_wp2
  go_loopw [9] (fun i wr => ∃ k : Nat, k ≤ l.length ∧ i = .int .i64 k ∧ inL (l.take k) t = false ∧ G w wr) (fun i _ => l.length - (intOf i).toNat)
  case atStart => exact ⟨0, Nat.zero_le _, rfl, rfl, G.refl _⟩
  case round =>
    obtain ⟨k, hk, rfl, hno, hg⟩ := hrel
    by_cases hlt : k < l.length
    · have c0 := (hg.below.cell (p := ⟨b, off + k * 2, none⟩) hb0).trans (unhide HC k hlt).1
      have c1 := (hg.below.cell (p := ⟨b, off + k * 2 + 1, none⟩) hb0).trans (unhide HC k hlt).2
      have htk := inL_take l k hlt t
      have hhit := inL_hit l k hlt t
      have hH := fun W => ref_Has l[k].1 l[k].2 t W
      rw [hno, Bool.false_or] at htk
      cases hb : hasB l[k].1 l[k].2 t
      · rw [hb] at htk hH
        have HN := hide htk
        have HH := hide hH
        have HG := hide hg
        clear htk hH hhit hno hg hb
        generalize l[k].1 = x1 at c0 HH
        generalize l[k].2 = x2 at c1 HH
        go_wp2_with fail
        refine (unhide HH _).mono ?_
        rintro e w1 ⟨rfl, hw1⟩
        subst hw1
        go_wp2
        go_roundw
        case rel => exact ⟨k + 1, by omega, by go_num, unhide HN, ((unhide HG).alloc _).alloc _⟩
        case measure => simp [intOf]; omega
      · rw [hb] at hH
        have hyes := hhit hb
        have HH := hide hH
        have HG := hide hg
        have HY := hide hyes
        clear htk hH hhit hno hg hb hyes
        generalize l[k].1 = x1 at c0 HH
        generalize l[k].2 = x2 at c1 HH
        go_wp2_with fail
        refine (unhide HH _).mono ?_
        rintro e w1 ⟨rfl, hw1⟩
        subst hw1
        go_wp2
        go_ret
        exact ⟨by rw [unhide HY]; rfl, ((unhide HG).alloc _).alloc _⟩
    · have hkl : l.take k = l := List.take_of_length_le (by omega)
      rw [hkl] at hno
      have HY := hide hno
      have HG := hide hg
      clear hno hg hkl
      go_wp2
      go_ret
      exact ⟨by rw [unhide HY]; rfl, unhide HG⟩

set_option maxHeartbeats 2000000 in
theorem of1_cells (l : List (Int × Int)) (b off cap : Nat) (t : Int) (B : Nat) (w : World) (hB : w.cell? ⟨B, 0, none⟩ = some (.slice (some ⟨b, off, none⟩) l.length cap)) (hl : l.length < 1099511627776) (hb0 : b < w.heap.size)
    (hc : ∀ k, (hk : k < l.length) → w.cell? ⟨b, off + k * 2, none⟩ = some (.int .i64 l[k].1) ∧ w.cell? ⟨b, off + k * 2 + 1, none⟩ = some (.int .i64 l[k].2)) :
    Calls Tryd.prog 22 #[.int .i64 t, .pointer (some ⟨B, 0, none⟩)] w fun e w' => e = .returned (.bool (inL l t)) ∧ G w w' := by
  have HC := hide hc
  clear hc
  go_enter Tryd.func22, Tryd.ntmps22
  go_wp2
  clear hB
  go_loopw [8] (fun i wr => ∃ k : Nat, k ≤ l.length ∧ i = .int .i64 k ∧ inL (l.take k) t = false ∧ G w wr) (fun i _ => l.length - (intOf i).toNat)
  case atStart => exact ⟨0, Nat.zero_le _, rfl, rfl, G.refl _⟩
  case round =>
    obtain ⟨k, hk, rfl, hno, hg⟩ := hrel
    by_cases hlt : k < l.length
    · have c0 := (hg.below.cell (p := ⟨b, off + k * 2, none⟩) hb0).trans (unhide HC k hlt).1
      have c1 := (hg.below.cell (p := ⟨b, off + k * 2 + 1, none⟩) hb0).trans (unhide HC k hlt).2
      have htk := inL_take l k hlt t
      have hhit := inL_hit l k hlt t
      have hH := fun W => ref_Has l[k].1 l[k].2 t W
      rw [hno, Bool.false_or] at htk
      cases hb : hasB l[k].1 l[k].2 t
      · rw [hb] at htk hH
        have HN := hide htk
        have HH := hide hH
        have HG := hide hg
        clear htk hH hhit hno hg hb
        generalize l[k].1 = x1 at c0 HH
        generalize l[k].2 = x2 at c1 HH
        go_wp2_with fail
        refine (unhide HH _).mono ?_
        rintro e w1 ⟨rfl, hw1⟩
        subst hw1
        go_wp2
        go_roundw
        case rel => exact ⟨k + 1, by omega, by go_num, unhide HN, ((unhide HG).alloc _).alloc _⟩
        case measure => simp [intOf]; omega
      · rw [hb] at hH
        have hyes := hhit hb
        have HH := hide hH
        have HG := hide hg
        have HY := hide hyes
        clear htk hH hhit hno hg hb hyes
        generalize l[k].1 = x1 at c0 HH
        generalize l[k].2 = x2 at c1 HH
        go_wp2_with fail
        refine (unhide HH _).mono ?_
        rintro e w1 ⟨rfl, hw1⟩
        subst hw1
        go_wp2
        go_ret
        exact ⟨by rw [unhide HY]; rfl, ((unhide HG).alloc _).alloc _⟩
    · have hkl : l.take k = l := List.take_of_length_le (by omega)
      rw [hkl] at hno
      have HY := hide hno
      have HG := hide hg
      clear hno hg hkl
      go_wp2
      go_ret
      exact ⟨by rw [unhide HY]; rfl, unhide HG⟩

set_option maxHeartbeats 1000000 in
theorem in_none (ad : Option Addr) (cap : Nat) (t : Int) (w : World) : Calls Tryd.prog 12 #[.slice ad 0 cap, .int .i64 t] w fun e w' => e = .returned (.bool false) ∧ G w w' := by
  go_enter Tryd.func12, Tryd.ntmps12
  go_wp2
  refine wp_loop_rounds 1 ?_
  rw [rounds_succ]
  go_wp2
  go_ret
  exact ⟨rfl, G.refl _⟩

set_option maxHeartbeats 1000000 in
theorem of1_none (ad : Option Addr) (cap : Nat) (t : Int) (B : Nat) (w : World) (hB : w.cell? ⟨B, 0, none⟩ = some (.slice ad 0 cap)) : Calls Tryd.prog 22 #[.int .i64 t, .pointer (some ⟨B, 0, none⟩)] w fun e w' => e = .returned (.bool false) ∧ G w w' := by
  go_enter Tryd.func22, Tryd.ntmps22
  go_wp2
  refine wp_loop_rounds 1 ?_
  rw [rounds_succ]
  go_wp2
  go_ret
  exact ⟨rfl, G.refl _⟩

end Go.Proofs.YtdjajnhiicfcaaaDoor
