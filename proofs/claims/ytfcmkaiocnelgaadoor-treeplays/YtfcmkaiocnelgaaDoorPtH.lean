/- How high the program's tree is: walked. -/
import Derived.Test.YtfcmkaiocnelgaaDoorPtT
import Derived.Test.YtfcmkaiocnelgaaDoorPtO
import Derived.Laws.EntriesVeiled
namespace Go.Proofs.YtfcmkaiocnelgaaDoor
open Go.RowKit Go.Maps

/-- What holds while both sides are asked. -/
def HighC (bv b : Nat) (p q : Value) (w x : World) : Prop := x.cell? ⟨bv, 0, none⟩ = some (.func (.func 91) #[] #[.pointer (some ⟨bv, 0, none⟩)]) ∧ x.cell? ⟨b, 4, none⟩ = some p ∧ x.cell? ⟨b, 5, none⟩ = some q ∧ Below w.heap.size w x

theorem HighC.carry {bv b : Nat} {p q : Value} {w x y : World} (h : HighC bv b p q w x) (hb : Below x.heap.size x y) : HighC bv b p q w y := by
  obtain ⟨h1, h2, h3, h4⟩ := h
  exact ⟨(hb.cell (p := ⟨bv, 0, none⟩) (lt_of_cell h1)).trans h1, (hb.cell (p := ⟨b, 4, none⟩) (lt_of_cell h2)).trans h2, (hb.cell (p := ⟨b, 5, none⟩) (lt_of_cell h3)).trans h3, h4.trans (hb.mono h4.size)⟩

set_option maxRecDepth 100000 in
set_option maxHeartbeats 2000000 in
theorem visit_high (bv : Nat) : ∀ (T : Tr) (w : World), T.Lies w → T.items.length ≤ 100000 → w.heap[bv]? = some (.cells #[.func (.func 91) #[] #[.pointer (some ⟨bv, 0, none⟩)]] 141 (0, 0)) →
    Calls Tryd.prog 91 #[T.ptr, .pointer (some ⟨bv, 0, none⟩)] w fun e w' => e = .returned (.int .i64 (T.high : Nat)) ∧ Below w.heap.size w w' := by
  intro T
  induction T using Tr.ind with
  | nil =>
    intro w _ _ _
    rw [ptr_nil]
    go_enter Tryd.func91, Tryd.ntmps91
    go_wp2
    go_ret
    exact ⟨rfl, Below.refl _ _⟩
  | node b e last l r ihl ihr =>
    intro w hT hn hv
    rw [lies_node] at hT
    obtain ⟨hN, hl, hr⟩ := hT
    rw [items_node, List.length_append, List.length_cons] at hn
    have HL := hide (ihl w.drew (hl.keeps (keeps_drew (fun _ => False) w) (fun _ _ f => f)) (by omega) hv)
    have HR := hide (fun W (hW : Below w.heap.size w W) => ihr W (hr.keeps (Keeps.of_below (fun _ => False) hW (Nat.le_refl _)) (fun _ _ f => f)) (by omega) ((hW.block bv (lt_of_block hv)).trans hv))
    have HS : Hid (w.drew.cell? ⟨bv, 0, none⟩ = some (.func (.func 91) #[] #[.pointer (some ⟨bv, 0, none⟩)]) ∧ w.drew.cell? ⟨b, 4, none⟩ = some l.ptr ∧ w.drew.cell? ⟨b, 5, none⟩ = some r.ptr ∧ Below w.heap.size w w.drew) := ⟨cell_of_one hv, hN.c4, hN.c5, below_drew w⟩
    have hhl : l.high ≤ l.items.length := high_le l
    have hhr : r.high ≤ r.items.length := high_le r
    have E : Hid ((Tr.node b e last l r).high = 1 + max l.high r.high) := high_node b e last l r
    clear ihl ihr hN hl hr hv
    obtain ⟨x, hx⟩ : ∃ x, l.high = x := ⟨_, rfl⟩
    obtain ⟨y, hy⟩ : ∃ y, r.high = y := ⟨_, rfl⟩
    rw [hx] at HL hhl E
    rw [hy] at HR hhr E
    clear hx hy
    show Calls _ _ #[.pointer (some ⟨b, 0, none⟩), _] _ _
    go_enter Tryd.func91, Tryd.ntmps91
    go_wp2
    go_region_held3 (fun z => z.cell? ⟨bv, 0, none⟩ = some (.func (.func 91) #[] #[.pointer (some ⟨bv, 0, none⟩)]) ∧ z.cell? ⟨b, 4, none⟩ = some l.ptr ∧ z.cell? ⟨b, 5, none⟩ = some r.ptr ∧ Below w.heap.size w z)
      (first | exact hS2 | exact hS1 | exact unhide HS)
      (first
        | (go_at_call 91; refine (unhide HR _ hB1').mono ?_; rintro e2 W2 ⟨rfl, hB2⟩; have hS2 := HighC.carry hS1 hB2)
        | (go_at_call 91; refine (unhide HL).mono ?_; rintro e1 W1 ⟨rfl, hB1⟩; have hS1 := HighC.carry (unhide HS) hB1; have hB1' : Below w.heap.size w W1 := hS1.2.2.2))
    rename_i hh
    have HB := hide hh.2.2.2
    clear hh
    go_wp2
    go_ret
    exact ⟨ret_int (by rw [unhide E, IntKind.wrap_i64]; omega), unhide HB⟩

def HighD (bv B : Nat) (p : Value) (w x : World) : Prop := x.cell? ⟨bv, 0, none⟩ = some (.func (.func 91) #[] #[.pointer (some ⟨bv, 0, none⟩)]) ∧ x.cell? ⟨B, 1, none⟩ = some p ∧ Below w.heap.size w x

theorem HighD.carry {bv B : Nat} {p : Value} {w x y : World} (h : HighD bv B p w x) (hb : Below x.heap.size x y) : HighD bv B p w y := by
  obtain ⟨h1, h2, h4⟩ := h
  exact ⟨(hb.cell (p := ⟨bv, 0, none⟩) (lt_of_cell h1)).trans h1, (hb.cell (p := ⟨B, 1, none⟩) (lt_of_cell h2)).trans h2, h4.trans (hb.mono h4.size)⟩

/-- How high the tree is. -/
theorem bits_of {w : World} {B : Nat} {L : List Ent} {mv : Option Nat} {X : List (Nat × Ent)} {F : Nat → Prop} (h : PX w B L mv X F) : (linkT X).high = bitsN L.length := by rw [high_link, h.length]

set_option maxRecDepth 100000 in
set_option maxHeartbeats 2000000 in
theorem tree_High (L : List Ent) (B : Nat) (F : Nat → Prop) (w : World) (h : PT w B L F) :
    Calls Tryd.prog 50 #[.pointer (some ⟨B, 0, none⟩)] w fun e w' => e = .returned (.int .i64 (bitsN L.length : Nat)) ∧ Below w.heap.size w w' := by
  obtain ⟨mv, X, hP⟩ := h
  have hB := hP.lt B hP.fB
  obtain ⟨W, hW⟩ : ∃ W, W = w.alloc (.cells #[.func (.func 91) #[] #[.pointer (some ⟨w.heap.size, 0, none⟩)]] 141) := ⟨_, rfl⟩
  have hBW : Below w.heap.size w W := by rw [hW]; exact below_box _ _
  have hv : W.heap[w.heap.size]? = some (.cells #[.func (.func 91) #[] #[.pointer (some ⟨w.heap.size, 0, none⟩)]] 141 (0, 0)) := by rw [hW]; exact heap_alloc_new _ _
  have hl : X.length ≤ 4000 := by rw [hP.length]; exact hP.len
  have HC := hide (visit_high w.heap.size (linkT X) W.drew ((hP.lies.keeps (Keeps.of_below (fun _ => False) hBW (Nat.le_refl _)) (fun _ _ f => f)).keeps (keeps_drew (fun _ => False) W) (fun _ _ f => f)) (by rw [items_link]; omega) hv)
  rw [bits_of hP] at HC
  have HS : Hid (W.drew.cell? ⟨w.heap.size, 0, none⟩ = some (.func (.func 91) #[] #[.pointer (some ⟨w.heap.size, 0, none⟩)]) ∧ W.drew.cell? ⟨B, 1, none⟩ = some (linkT X).ptr ∧ Below w.heap.size w W.drew) := ⟨cell_of_one hv, (hBW.cell (p := ⟨B, 1, none⟩) hB).trans hP.c1, hBW.trans ((below_drew W).mono hBW.size)⟩
  have HW := hide hW
  clear hP hBW hv hW
  go_enter Tryd.func50, Tryd.ntmps50
  go_wp2
  rw [← unhide HW]
  go_region_held3 (fun z => z.cell? ⟨w.heap.size, 0, none⟩ = some (.func (.func 91) #[] #[.pointer (some ⟨w.heap.size, 0, none⟩)]) ∧ z.cell? ⟨B, 1, none⟩ = some (linkT X).ptr ∧ Below w.heap.size w z)
    (first | exact unhide HS | exact HighD.carry (unhide HS) (by assumption))
    (first | (go_at_call 91; refine (unhide HC).mono ?_; rintro e1 W1 ⟨rfl, hB1⟩))
  rename_i hh
  have HB := hide hh.2.2
  clear hh
  go_wp2
  go_ret
  exact ⟨rfl, unhide HB⟩

end Go.Proofs.YtfcmkaiocnelgaaDoor
