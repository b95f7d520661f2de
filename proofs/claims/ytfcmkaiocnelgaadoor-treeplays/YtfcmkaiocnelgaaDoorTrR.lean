/- The document's tree: where it lies in memory, and where a number is found in it. -/
import Derived.Test.YtfcmkaiocnelgaaDoorTrM
import Derived.Test.YtfcmkaiocnelgaaDoorRights
import Derived.Test.YtfcmkaiocnelgaaDoorShelfT
namespace Go.Proofs.YtfcmkaiocnelgaaDoor
open Go.RowKit

/-- Numbers, and spans, that lie in a block. -/
def RowI (w : World) (v : Value) (b : Nat) (l : List Int) : Prop :=
  (v = .slice none 0 0 ∧ l = []) ∨ ∃ c, v = .slice (some ⟨b, 0, none⟩) l.length c ∧ l.length ≤ c ∧ b < w.heap.size ∧ ∀ j, (h : j < l.length) → w.cell? ⟨b, j, none⟩ = some (.int .i64 l[j])
def RowS (w : World) (v : Value) (b : Nat) (l : List Ent) : Prop :=
  (v = .slice none 0 0 ∧ l = []) ∨ ∃ c, v = .slice (some ⟨b, 0, none⟩) l.length c ∧ l.length ≤ c ∧ b < w.heap.size ∧ ∀ j, (h : j < l.length) → w.cell? ⟨b, j * 2, none⟩ = some (.int .i64 l[j].lo) ∧ w.cell? ⟨b, j * 2 + 1, none⟩ = some (.int .i64 l[j].hi)

/-- The document's tree, in its block. -/
def RefTree (w : World) (B bi bs : Nat) (L : List Ent) : Prop :=
  ∃ vi vs, w.cell? ⟨B, 0, none⟩ = some vi ∧ w.cell? ⟨B, 1, none⟩ = some vs ∧ w.frozen? ⟨B, 0, none⟩ = false ∧ w.frozen? ⟨B, 1, none⟩ = false ∧ RowI w vi bi (L.map (·.id)) ∧ RowS w vs bs L

theorem pos_count (L : List Ent) (id : Int) : (L.map (·.id)).countP (fun y => !decide (id ≤ y)) = posT L id := by
  unfold posT
  rw [List.countP_map]
  congr 1
  funext e
  simp only [Function.comp]
  by_cases h : id ≤ e.id
  · have : ¬ e.id < id := by omega
    simp [h, this]
  · have : e.id < id := by omega
    simp [h, this]

theorem ids_rise (L : List Ent) (h : Rising L) (a b : Nat) (hab : a ≤ b) (hb : b < L.length) : (L[a]'(by omega)).id ≤ L[b].id := by
  rcases Nat.lt_or_ge a b with k | k
  · exact Int.le_of_lt (List.pairwise_iff_getElem.1 h a b (by omega) hb k)
  · obtain rfl : a = b := by omega
    exact Int.le_refl _

theorem search_ids (L : List Ent) (v : Value) (b : Nat) (id : Int) (w : World) (hr : Rising L) (hl : L.length ≤ 100000) (h : RowI w v b (L.map (·.id))) :
    Calls Tryd.prog 111 #[v, .int .i64 id] w fun e w' => e = .returned (.int .i64 (posT L id)) ∧ Below w.heap.size w w' := by
  rcases h with ⟨rfl, hn⟩ | ⟨c, rfl, hc, hb, hcell⟩
  · have e0 : L = [] := by simpa using hn
    subst e0
    exact Any.sort_SearchInts_none Tryd.searchInts none 0 id w
  · have hsz : (L.map (·.id)).toArray.size = (L.map (·.id)).length := by simp
    have := Any.sort_SearchInts Tryd.searchInts b 0 c (L.map (·.id)).toArray id w (fun i hi => by
      rw [hsz] at hi
      have hi' : i < L.length := by simpa using hi
      rw [Nat.zero_add, hcell i hi]
      simp [hi']) hb (by simp; omega) (fun a d had hd h1 => by
      rw [hsz] at hd
      have hd' : d < L.length := by simpa using hd
      have ha' : a < L.length := by omega
      have k := ids_rise L hr a d had hd'
      simp [getElem!_pos, ha', hd'] at h1 ⊢
      omega)
    rw [hsz] at this
    refine this.mono ?_
    rintro e w' ⟨rfl, hb'⟩
    refine ⟨?_, hb'⟩
    have k := pos_count L id
    simp only [List.countP_map] at k ⊢
    rw [← k]

theorem RowI.carry {w w' : World} {v : Value} {b : Nat} {l : List Int} (h : RowI w v b l) (hb : Below w.heap.size w w') : RowI w' v b l := by
  rcases h with h | ⟨c, h1, h2, h3, h4⟩
  · exact .inl h
  · exact .inr ⟨c, h1, h2, Nat.lt_of_lt_of_le h3 hb.size, fun j hj => (hb.cell (p := ⟨b, j, none⟩) h3).trans (h4 j hj)⟩

theorem RowS.carry {w w' : World} {v : Value} {b : Nat} {l : List Ent} (h : RowS w v b l) (hb : Below w.heap.size w w') : RowS w' v b l := by
  rcases h with h | ⟨c, h1, h2, h3, h4⟩
  · exact .inl h
  · exact .inr ⟨c, h1, h2, Nat.lt_of_lt_of_le h3 hb.size, fun j hj => ⟨(hb.cell (p := ⟨b, j * 2, none⟩) h3).trans (h4 j hj).1, (hb.cell (p := ⟨b, j * 2 + 1, none⟩) h3).trans (h4 j hj).2⟩⟩

theorem frozen_below {w w' : World} {a : Addr} (hb : Below w.heap.size w w') (ha : a.block < w.heap.size) : w'.frozen? a = w.frozen? a := World.frozen?_of_block (hb.block a.block ha)

theorem RefTree.carry {w w' : World} {B bi bs : Nat} {L : List Ent} (h : RefTree w B bi bs L) (hb : Below w.heap.size w w') : RefTree w' B bi bs L := by
  obtain ⟨vi, vs, h1, h2, h3, h4, h5, h6⟩ := h
  have hB : B < w.heap.size := lt_of_cell h1
  exact ⟨vi, vs, (hb.cell (p := ⟨B, 0, none⟩) hB).trans h1, (hb.cell (p := ⟨B, 1, none⟩) hB).trans h2, (frozen_below (a := ⟨B, 0, none⟩) hb hB).trans h3, (frozen_below (a := ⟨B, 1, none⟩) hb hB).trans h4, h5.carry hb, h6.carry hb⟩

set_option maxHeartbeats 2000000 in
theorem ref_find (L : List Ent) (B bi bs : Nat) (id : Int) (w : World) (hr : Rising L) (hl : L.length ≤ 100000) (h : RefTree w B bi bs L) :
    Calls Tryd.prog 87 #[.pointer (some ⟨B, 0, none⟩), .int .i64 id] w fun e w' => e = .returned (.tuple #[.int .i64 (posT L id), .bool (foundT L id)]) ∧ Below w.heap.size w w' := by
  obtain ⟨vi, vs, c0, _, _, _, hi, _⟩ := h
  have HS := hide (search_ids L vi bi id w hr hl hi)
  have hk := posT_le L id
  unfold foundT
  rcases hi with ⟨rfl, hn⟩ | ⟨c, rfl, hc, hb, hcell⟩
  · have e0 : L = [] := by simpa using hn
    subst e0
    have hp : posT [] id = 0 := rfl
    rw [hp] at HS ⊢
    go_enter Tryd.func87, Tryd.ntmps87
    go_wp2_with fail
    refine (unhide HS).mono ?_
    rintro e w1 ⟨rfl, b1⟩
    have c1 := (b1.cell (p := ⟨B, 0, none⟩) (lt_of_cell c0)).trans c0
    have HB := hide b1
    clear HS b1 c0
    go_wp2
    go_quiet (fail)
    go_wp2
    go_ret2
    exact ⟨rfl, (unhide HB).trans ⟨rfl, rfl, rfl, Nat.le_refl _, fun _ _ => rfl⟩⟩
  · have hlm : (L.map (·.id)).length = L.length := List.length_map _
    have hcell' : ∀ j, (hj : j < L.length) → w.cell? ⟨bi, j, none⟩ = some (.int .i64 L[j].id) := fun j hj => by rw [hcell j (by rw [hlm]; exact hj)]; simp
    rw [hlm] at c0 HS
    clear hcell hc hlm
    by_cases hlt : posT L id < L.length
    · have hlt' : (posT L id : Int) < (L.length : Int) := by omega
      have hc1 := hcell' _ hlt
      rw [List.getElem?_eq_getElem hlt]
      clear hcell' hk
      generalize L[posT L id] = x at *
      generalize posT L id = k at *
      by_cases hid : x.id = id
      · have hid' : (x.id == id) = true := by simp [hid]
        go_enter Tryd.func87, Tryd.ntmps87
        go_wp2_with fail
        refine (unhide HS).mono ?_
        rintro e w1 ⟨rfl, b1⟩
        have c1 := (b1.cell (p := ⟨B, 0, none⟩) (lt_of_cell c0)).trans c0
        have d1 := (b1.cell (p := ⟨bi, k, none⟩) hb).trans hc1
        have HB := hide b1
        clear HS b1 c0 hc1 hb
        go_wp2
        go_quiet (fail)
        go_wp2
        go_ret2
        exact ⟨by simp [hid], (unhide HB).trans ⟨rfl, rfl, rfl, Nat.le_refl _, fun _ _ => rfl⟩⟩
      · have hid' : (x.id == id) = false := by simp [hid]
        go_enter Tryd.func87, Tryd.ntmps87
        go_wp2_with fail
        refine (unhide HS).mono ?_
        rintro e w1 ⟨rfl, b1⟩
        have c1 := (b1.cell (p := ⟨B, 0, none⟩) (lt_of_cell c0)).trans c0
        have d1 := (b1.cell (p := ⟨bi, k, none⟩) hb).trans hc1
        have HB := hide b1
        clear HS b1 c0 hc1 hb
        go_wp2
        go_quiet (fail)
        go_wp2
        go_ret2
        exact ⟨by simp [hid], (unhide HB).trans ⟨rfl, rfl, rfl, Nat.le_refl _, fun _ _ => rfl⟩⟩
    · have hlt' : ¬ (posT L id : Int) < (L.length : Int) := by omega
      rw [List.getElem?_eq_none (by omega)]
      clear hcell' hk
      generalize posT L id = k at *
      go_enter Tryd.func87, Tryd.ntmps87
      go_wp2_with fail
      refine (unhide HS).mono ?_
      rintro e w1 ⟨rfl, b1⟩
      have c1 := (b1.cell (p := ⟨B, 0, none⟩) (lt_of_cell c0)).trans c0
      have HB := hide b1
      clear HS b1 c0 hb
      go_wp2
      go_quiet (fail)
      go_wp2
      go_ret2
      exact ⟨rfl, (unhide HB).trans ⟨rfl, rfl, rfl, Nat.le_refl _, fun _ _ => rfl⟩⟩

end Go.Proofs.YtfcmkaiocnelgaaDoor
