/- The order of nodes: the program's compare; and where one stands in a row of them: walked. -/
import Derived.Test.YtfcmkaiocnelgaaPtW
import Derived.Test.YtfcmkaiocnelgaaShelfP
import Derived.Deep.RegionHeld3
import Derived.Shelf.SlSorted.Search
import Derived.Lib.Small
namespace Go.Proofs.Ytfcmkaiocnelgaa
open Go.RowKit Go.Sort Go.Shelf Go.Lib

set_option maxHeartbeats 400000 in
theorem nan_int (n : Int) (w : World) : Calls Try.prog 64 #[.int .i64 n] w fun e w' => e = .returned (.bool false) ∧ w' = w := by
  go_enter Try.func64, Try.ntmps64
  go_wp2
  go_ret
  exact ⟨ret_bool (by simp), rfl⟩

set_option maxHeartbeats 1000000 in
theorem compare_int (x y : Int) (w : World) : Calls Try.prog 54 #[.int .i64 x, .int .i64 y] w fun e w' => e = .returned (.int .i64 (Lib.compareInt x y)) ∧ w' = w := by
  have HN := hide (fun n W => nan_int n W)
  by_cases h1 : x < y
  · have e : Lib.compareInt x y = -1 := by simp [Lib.compareInt, h1]
    rw [e]
    clear e
    go_enter Try.func54, Try.ntmps54
    go_wp2_with (go_at_call 64; refine (unhide HN _ _).mono ?_; rintro e w' ⟨rfl, rfl⟩)
    go_ret
    exact ⟨rfl, rfl⟩
  · by_cases h2 : y < x
    · have e : Lib.compareInt x y = 1 := by simp [Lib.compareInt, h1, h2]
      rw [e]
      clear e
      go_enter Try.func54, Try.ntmps54
      go_wp2_with (go_at_call 64; refine (unhide HN _ _).mono ?_; rintro e w' ⟨rfl, rfl⟩)
      go_ret
      exact ⟨rfl, rfl⟩
    · have e : Lib.compareInt x y = 0 := by simp [Lib.compareInt, h1, h2]
      rw [e]
      clear e
      go_enter Try.func54, Try.ntmps54
      go_wp2_with (go_at_call 64; refine (unhide HN _ _).mono ?_; rintro e w' ⟨rfl, rfl⟩)
      go_ret
      exact ⟨rfl, rfl⟩

/-- The first one that is not nought. -/
def orL : List Int → Int
  | [] => 0
  | x :: l => if x = 0 then orL l else x

theorem orL_zero (l : List Int) (h : ∀ x, x ∈ l → x = 0) : orL l = 0 := by
  induction l with
  | nil => rfl
  | cons x l ih => rw [orL, if_pos (h x (by simp)), ih (fun y hy => h y (by simp [hy]))]

theorem orL_at (l : List Int) (k : Nat) (hk : k < l.length) (h : ∀ j, (hj : j < k) → l[j] = 0) (h2 : l[k] ≠ 0) : orL l = l[k] := by
  induction l generalizing k with
  | nil => simp at hk
  | cons x l ih =>
    cases k with
    | zero => simp at h2 ⊢; rw [orL, if_neg h2]
    | succ k =>
      have h0 := h 0 (by omega)
      simp at h0
      rw [orL, if_pos h0]
      simp only [List.getElem_cons_succ] at h2 ⊢
      exact ih k (by simpa using hk) (fun j hj => by have := h (j + 1) (by omega); simpa using this) h2

set_option maxHeartbeats 2000000 in
theorem or_int (xs : List Int) (b o c : Nat) (w : World) (hn : xs.length < 1099511627776) (hc : ∀ k, (hk : k < xs.length) → w.cell? ⟨b, o + k, none⟩ = some (.int .i64 xs[k])) :
    Calls Try.prog 58 #[.slice (some ⟨b, o, none⟩) xs.length c] w fun e w' => e = .returned (.int .i64 (orL xs)) ∧ w' = w := by
  have HC := hide hc
  clear hc
  go_enter Try.func58, Try.ntmps58
  go_wp2
  go_loop [8] (fun i => ∃ k : Nat, k ≤ xs.length ∧ i = .int .i64 k ∧ ∀ j, (hj : j < xs.length) → j < k → xs[j] = 0) (fun i => xs.length - (intOf i).toNat)
  case atStart => exact ⟨0, Nat.zero_le _, rfl, fun j _ h => absurd h (Nat.not_lt_zero _)⟩
  case round =>
    obtain ⟨k, hk, rfl, hz⟩ := hrel
    have HZ := hide hz
    clear hz
    by_cases hlt : k < xs.length
    · have hlt' : (k : Int) < (xs.length : Int) := by omega
      have c1 := unhide HC k hlt
      have hF : ∃ y, y = xs[k] := ⟨_, rfl⟩
      obtain ⟨y, hy⟩ := hF
      have HY := hide hy
      rw [← hy] at c1
      clear hy
      by_cases h0 : y = 0
      · subst h0
        go_wp2
        go_round
        case rel =>
          refine ⟨k + 1, by omega, by go_num, fun j hj hjk => ?_⟩
          by_cases e : j = k
          · subst e; exact (unhide HY).symm
          · exact unhide HZ j hj (by omega)
        case measure => simp [intOf]; omega
      · have h0' : (y == 0) = false := by simp [h0]
        have E := hide (orL_at xs k hlt (fun j hj => unhide HZ j (by omega) hj) (by rw [← unhide HY]; exact h0))
        go_wp2
        go_ret
        exact ⟨ret_int (by rw [unhide E, unhide HY]), rfl⟩
    · have hlt' : ¬ (k : Int) < (xs.length : Int) := by omega
      have E := hide (orL_zero xs (fun x hx => by
        obtain ⟨j, hj, rfl⟩ := List.getElem_of_mem hx
        exact unhide HZ j hj (by omega)))
      go_wp2
      go_ret
      exact ⟨ret_int (unhide E), rfl⟩

/-- The order of nodes, as a number. -/
def entCmp (a b : Ent) : Int := orL [Lib.compareInt a.lo b.lo, Lib.compareInt a.id b.id]

theorem entCmp_neg (a b : Ent) : entCmp a b < 0 ↔ (a.lo < b.lo ∨ (a.lo = b.lo ∧ a.id < b.id)) := by
  unfold entCmp orL orL orL Lib.compareInt
  by_cases h1 : a.lo < b.lo
  · simp [h1]
  · by_cases h2 : b.lo < a.lo
    · have : ¬ a.lo = b.lo := by omega
      simp [h1, h2, this]
    · have e : a.lo = b.lo := by omega
      by_cases h3 : a.id < b.id
      · simp [e, h3]
      · by_cases h4 : b.id < a.id
        · simp [e, h3, h4]
        · simp [e, h3, h4]

theorem two_cells (W : World) (x y : Int) : ∀ k, (hk : k < [x, y].length) → (W.alloc (.cells #[.int .i64 x, .int .i64 y] 3)).cell? ⟨W.heap.size, 0 + k, none⟩ = some (.int .i64 [x, y][k]) := by
  intro k hk
  rcases k with _ | _ | k
  · simp
  · simp
  · simp at hk; omega

/-- What holds while two nodes are compared. -/
def FourC (a b : Nat) (x y : Ent) (w z : World) : Prop := (z.cell? ⟨a, 0, none⟩ = some (.int .i64 x.id) ∧ z.cell? ⟨a, 1, none⟩ = some (.int .i64 x.lo) ∧ z.cell? ⟨b, 0, none⟩ = some (.int .i64 y.id) ∧ z.cell? ⟨b, 1, none⟩ = some (.int .i64 y.lo)) ∧ ∃ q os, z = grow (w.drewN q) os

theorem FourC.alloc {a b : Nat} {x y : Ent} {w z : World} (h : FourC a b x y w z) (o : Obj) : FourC a b x y w (z.alloc o) := by
  obtain ⟨⟨h1, h2, h3, h4⟩, q, os, e⟩ := h
  refine ⟨⟨?_, ?_, ?_, ?_⟩, q, os ++ #[o], ?_⟩
  · rw [World.cell?_alloc_lt _ _ _ (lt_of_cell h1), h1]
  · rw [World.cell?_alloc_lt _ _ _ (lt_of_cell h2), h2]
  · rw [World.cell?_alloc_lt _ _ _ (lt_of_cell h3), h3]
  · rw [World.cell?_alloc_lt _ _ _ (lt_of_cell h4), h4]
  · rw [e, alloc_eq_grow, grow_grow]

set_option maxRecDepth 100000 in
set_option maxHeartbeats 2000000 in
theorem tree_compare (a b : Nat) (x y : Ent) (w : World) (ha : NodeAt w a x) (hb : NodeAt w b y) :
    Calls Try.prog 46 #[.pointer (some ⟨a, 0, none⟩), .pointer (some ⟨b, 0, none⟩)] w fun e w' => e = .returned (.int .i64 (entCmp x y)) ∧ ∃ q os, w' = grow (w.drewN q) os := by
  obtain ⟨l1, p1, q1, h1⟩ := ha
  obtain ⟨l2, p2, q2, h2⟩ := hb
  have a0 := h1.c0
  have a1 := h1.c1
  have b0 := h2.c0
  have b1 := h2.c1
  clear h1 h2
  unfold entCmp
  go_enter Try.func46, Try.ntmps46
  have HF : Hid (FourC a b x y w w.drew) := ⟨⟨a0, a1, b0, b1⟩, 1, #[], by rw [grow_empty]; rfl⟩
  clear a0 a1 b0 b1
  go_wp2
  go_region_held3 (fun z => (z.cell? ⟨a, 0, none⟩ = some (.int .i64 x.id) ∧ z.cell? ⟨a, 1, none⟩ = some (.int .i64 x.lo) ∧ z.cell? ⟨b, 0, none⟩ = some (.int .i64 y.id) ∧ z.cell? ⟨b, 1, none⟩ = some (.int .i64 y.lo)) ∧ ∃ q os, z = grow (w.drewN q) os)
    (first | exact unhide HF | assumption | exact FourC.alloc (by assumption) _)
    (first
      | (go_at_call 54; refine (compare_int _ _ _).mono ?_; rintro e w1 ⟨rfl, rfl⟩)
      | (go_at_call 58; refine (or_int [Lib.compareInt x.lo y.lo, Lib.compareInt x.id y.id] _ 0 _ _ (by simp) ?_).mono ?_; (exact two_cells _ _ _); rintro e w1 ⟨rfl, rfl⟩))
  rename_i hh
  have HB := hide hh.2
  clear hh
  go_wp2
  go_ret
  exact ⟨rfl, unhide HB⟩

/-- A node, as the search sees it. -/
structure Nd (w : World) (blk : Nat) where
  p : Nat × Ent
  h : NodeAt w p.1 p.2
  o : p.1 ≠ blk

end Go.Proofs.Ytfcmkaiocnelgaa
