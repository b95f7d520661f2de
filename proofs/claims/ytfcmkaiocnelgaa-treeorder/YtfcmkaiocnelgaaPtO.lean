/- All nodes of the tree, in order: walked. -/
import Derived.Test.YtfcmkaiocnelgaaPtK
import Derived.Test.YtfcmkaiocnelgaaPtI
import Derived.OneCell
namespace Go.Proofs.Ytfcmkaiocnelgaa
open Go.RowKit Go.Maps

def ptrB (x : Nat × Ent) : Value := .pointer (some ⟨x.1, 0, none⟩)

/-- What the closure that goes through all nodes finds, and leaves. -/
structure Gath (w : World) (bv bo q c : Nat) (ys : List Value) : Prop where
  v : w.heap[bv]? = some (.cells #[.func (.func 57) #[] #[.pointer (some ⟨bv, 0, none⟩), .pointer (some ⟨bo, 0, none⟩)]] 84 (0, 0))
  o : w.heap[bo]? = some (.cells #[.slice (some ⟨q, 0, none⟩) ys.length c] 76 (0, 0))
  row : w.ownsRow 0 47 1 (.slice (some ⟨q, 0, none⟩) ys.length c) ys.length ys

theorem row_block {w : World} {base q n c : Nat} {e : TypeId} {xs : List Value} (h : w.ownsRow base e 1 (.slice (some ⟨q, 0, none⟩) n c) n xs) : ∃ cur, w.heap[q]? = some (.cells cur e (0, 0)) ∧ cur.size = c ∧ n ≤ c ∧ c ≤ maxLen ∧ base ≤ q := by
  rcases h.2 with ⟨h1, _⟩ | ⟨g, cap, cur, hv, hg, hh, h3, h4, h5, _⟩
  · cases h1
  · cases hv
    exact ⟨cur, hh, by simpa using h5, h3, h4, hg⟩

theorem Gath.apart {w : World} {bv bo q c : Nat} {ys : List Value} (h : Gath w bv bo q c ys) : bv ≠ bo ∧ q ≠ bv ∧ q ≠ bo := by
  obtain ⟨cur, hq, _⟩ := row_block h.row
  refine ⟨fun e => ?_, fun e => ?_, fun e => ?_⟩
  · have := h.v
    rw [e, h.o] at this
    simp at this
  · have := h.v
    rw [← e, hq] at this
    simp at this
  · have := h.o
    rw [← e, hq] at this
    simp at this

theorem Gath.lt {w : World} {bv bo q c : Nat} {ys : List Value} (h : Gath w bv bo q c ys) : bv < w.heap.size ∧ bo < w.heap.size ∧ q < w.heap.size := by
  obtain ⟨cur, hq, _⟩ := row_block h.row
  exact ⟨lt_of_block h.v, lt_of_block h.o, lt_of_block hq⟩

theorem Gath.below {w w' : World} {bv bo q c : Nat} {ys : List Value} (h : Gath w bv bo q c ys) (hb : Below w.heap.size w w') : Gath w' bv bo q c ys := by
  obtain ⟨h1, h2, _⟩ := h.lt
  exact ⟨(hb.block bv h1).trans h.v, (hb.block bo h2).trans h.o, ownsRow_carry h.row hb⟩

/-- One more, where it is appended and then laid into the variable. -/
theorem Gath.more {w wn : World} {bv bo q c : Nat} {ys : List Value} {u : Value} (h : Gath w bv bo q c ys) (hr : wn.ownsRow 0 47 1 (.slice (some ⟨q, 0, none⟩) (ys.length + 1) c) (ys.length + 1) (ys ++ [u])) (hg : w.grownBy wn (some q)) :
    Gath (wn.setCell ⟨bo, 0, none⟩ (.slice (some ⟨q, 0, none⟩) (ys.length + 1) c)) bv bo q c (ys ++ [u]) := by
  obtain ⟨a1, a2, a3⟩ := h.apart
  obtain ⟨l1, l2, _⟩ := h.lt
  have hl : (ys ++ [u]).length = ys.length + 1 := by simp
  refine ⟨?_, ?_, ?_⟩
  · rw [Below.heap_setCell _ _ _ _ (by exact a1)]
    exact (hg.block bv l1 (fun e => a2 (Option.some.inj e).symm)).trans h.v
  · rw [hl]
    exact one_setCell ((hg.block bo l2 (fun e => a3 (Option.some.inj e).symm)).trans h.o)
  · rw [hl]
    exact ownsRow_setCell_other hr (a := ⟨bo, 0, none⟩) (fun e => a3 (Option.some.inj (e : some q = some bo))) _

theorem below_more {w wn : World} {base bo q : Nat} {v : Value} (hg : w.grownBy wn (some q)) (hq : base ≤ q) (ho : base ≤ bo) (hs : base ≤ w.heap.size) : Below base w (wn.setCell ⟨bo, 0, none⟩ v) :=
  (Below.grown (Below.refl base w) hg hs (fun k e => by cases e; exact hq)).setCell ho _

set_option maxRecDepth 100000 in
set_option maxHeartbeats 2000000 in
theorem visit_order (base bv bo q c : Nat) (_hv : base ≤ bv) (ho : base ≤ bo) (hq : base ≤ q) : ∀ (T : Tr) (w : World) (ys : List Value), T.Lies w → (∀ x, x ∈ T.items → x.1 < base) → base ≤ w.heap.size → Gath w bv bo q c ys → ys.length + T.items.length ≤ c →
    Calls Try.prog 57 #[T.ptr, .pointer (some ⟨bv, 0, none⟩), .pointer (some ⟨bo, 0, none⟩)] w fun e w' => e = .returned (.tuple #[]) ∧ Gath w' bv bo q c (ys ++ T.items.map ptrB) ∧ Below base w w' := by
  intro T
  induction T using Tr.ind with
  | nil =>
    intro w ys _ _ _ hG _
    have HG := hide hG
    clear hG
    rw [ptr_nil]
    go_enter Try.func57, Try.ntmps57
    go_wp2
    (try simp only [Exit.inBlock, Exit.then])
    refine bodyPost_ret (results_none rfl _ _ _) rfl ?_
    exact ⟨rfl, by simpa [items_nil] using unhide HG, Below.refl _ _⟩
  | node b e last l r ihl ihr =>
    intro w ys hL hx hs hG hc
    rw [lies_node] at hL
    obtain ⟨hN, hl, hr⟩ := hL
    rw [items_node] at hx hc
    have hb : b < base := hx (b, e) (by simp)
    have hxl : ∀ x, x ∈ l.items → x.1 < base := fun x h => hx x (by simp [h])
    have hxr : ∀ x, x ∈ r.items → x.1 < base := fun x h => hx x (by simp [h])
    simp only [List.length_append, List.length_cons] at hc
    have HL := hide (ihl w.drew ys (hl.keeps (keeps_drew (fun _ => False) w) (fun _ _ h => h)) hxl hs (hG.below (below_drew w)) (by omega))
    have HR := hide (fun W (hW : Below base w W) zs hG' hc' => ihr W zs (hr.keeps (F := fun i => base ≤ i) ⟨hW.os, hW.tape, hW.output, hW.size, fun k _ hk => hW.block k (by omega)⟩ (fun x h => by have := hxr x h; omega)) hxr (Nat.le_trans hs hW.size) hG' hc')
    have c4 := hN.c4
    have c5 := hN.c5
    have cv := cell_of_one hG.v
    have hbl := hN.lt
    clear ihl ihr hN hl hr hx hxl hxr hG
    show Calls _ _ #[.pointer (some ⟨b, 0, none⟩), _, _] _ _
    go_enter Try.func57, Try.ntmps57
    go_wp2
    go_region_held3 (fun x => x.cell? ⟨bv, 0, none⟩ = some (.func (.func 57) #[] #[.pointer (some ⟨bv, 0, none⟩), .pointer (some ⟨bo, 0, none⟩)]) ∧ x.cell? ⟨b, 4, none⟩ = some l.ptr)
      (first | exact ⟨cv, c4⟩ | exact ⟨cell_of_one (Gath.v (by assumption)), (Below.cell (w := w.drew) (by assumption) hb).trans c4⟩)
      (first | (go_at_call 57; refine (unhide HL).mono ?_; rintro e w1 ⟨rfl, hG1, hB1⟩))
    rename_i hh
    have hB1' : Below base w w1 := ((below_drew w).mono hs).trans hB1
    have hc1 : (ys ++ l.items.map ptrB).length + 1 ≤ c := by simp; omega
    have hc2 : (ys ++ l.items.map ptrB ++ [ptrB (b, e)]).length + r.items.length ≤ c := by simp; omega
    have E : Hid (ys ++ (Tr.node b e last l r).items.map ptrB = ys ++ l.items.map ptrB ++ [ptrB (b, e)] ++ r.items.map ptrB) := by unfold Hid; rw [items_node]; simp
    have hs1 : base ≤ w1.heap.size := Nat.le_trans hs hB1'.size
    generalize ys ++ l.items.map ptrB = zs at *
    have co := cell_of_one hG1.o
    have fo := free_of_one hG1.o
    have HG1 := hide hG1
    have HB1 := hide hB1'
    have d5 := (hB1'.cell (p := ⟨b, 5, none⟩) hb).trans c5
    clear HL hG1 hB1 hB1' cv c4 hh
    obtain ⟨i0, hi0, hz0, hz1, hz2⟩ := info_parts info_ptr
    go_wp2_with (at_builtin; refine wpList_append_fits _ rfl (.tmp 13) (.tmp 15) 76 rfl 0 47 i0 1 Try.underlying76 hi0 hz1 q zs.length c zs rfl ((unhide HG1).row.alloc _) ⟨w1.heap.size, 0, none⟩ 1 1 [ptrB (b, e)] rfl rfl ?d0 ?d1 hc1 ?_)
    case d0 =>
      intro j u hj
      match j, hj with
      | 0, hj =>
        simp only [List.getElem?_cons_zero, Option.some.injEq] at hj
        subst hj
        simp [Addr.add, ptrB]
      | j + 1, hj => simp at hj
    case d1 =>
      intro u hu
      simp only [List.mem_cons, List.not_mem_nil, or_false] at hu
      subst hu
      rfl
    intro wn k1 k2
    have HA := hide ((unhide HG1).below (below_box w1 (.cells #[.pointer (some ⟨b, 0, none⟩)] 47)))
    have a3 := (unhide HG1).apart.2.2
    have lo := (unhide HG1).lt.2.1
    have bo2 := (k2.block bo (by simp; omega) (fun e => a3 (Option.some.inj e).symm)).trans (unhide HA).o
    have co2 := cell_of_one bo2
    have fo2 := free_of_one bo2
    clear bo2
    have HG2 := hide ((unhide HA).more k1 k2)
    have HB2 := hide ((unhide HB1).trans (((below_box w1 (.cells #[.pointer (some ⟨b, 0, none⟩)] 47)).mono hs1).trans (below_more (v := .slice (some ⟨q, 0, none⟩) (zs.length + 1) c) k2 hq ho (by simp; omega))))
    clear HG1 HB1 HA co fo k1 k2 d5 hz0 hz1 hz2 hi0
    generalize hX : wn.setCell ⟨bo, 0, none⟩ (.slice (some ⟨q, 0, none⟩) (zs.length + 1) c) = X at HG2 HB2
    have HX := hide hX
    clear hX
    go_wp2
    rw [unhide HX]
    have cv := cell_of_one (unhide HG2).v
    have c5' := ((unhide HB2).cell (p := ⟨b, 5, none⟩) hb).trans c5
    have HD := hide (below_drew X)
    have HC := hide (unhide HR X.drew ((unhide HB2).trans ((unhide HD).mono (Nat.le_trans hs (unhide HB2).size))) _ ((unhide HG2).below (unhide HD)) hc2)
    clear HR
    go_region_held3 (fun x => x.cell? ⟨bv, 0, none⟩ = some (.func (.func 57) #[] #[.pointer (some ⟨bv, 0, none⟩), .pointer (some ⟨bo, 0, none⟩)]) ∧ x.cell? ⟨b, 5, none⟩ = some r.ptr)
      (first | exact ⟨cv, c5'⟩ | exact ⟨cell_of_one (Gath.v (by assumption)), (Below.cell (w := X.drew) (by assumption) hb).trans c5'⟩)
      (first | (go_at_call 57; refine (unhide HC).mono ?_; rintro e w2 ⟨rfl, hG3, hB3⟩))
    go_wp2
    (try simp only [Exit.inBlock, Exit.then])
    refine bodyPost_end (results_none rfl _ _ _) rfl ?_
    exact ⟨rfl, by rw [unhide E]; exact hG3, ((unhide HB2).trans ((unhide HD).mono (Nat.le_trans hs (unhide HB2).size))).trans hB3⟩

end Go.Proofs.Ytfcmkaiocnelgaa
