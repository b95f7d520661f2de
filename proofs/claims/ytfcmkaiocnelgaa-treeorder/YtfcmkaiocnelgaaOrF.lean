/- The fact of two spans, and the span that fits: walked. -/
import Derived.Test.YtfcmkaiocnelgaaOrP
namespace Go.Proofs.Ytfcmkaiocnelgaa
open Go.RowKit Go.Maps

theorem OneT.add {w : World} {B : Nat} {L : List Ent} {F : Nat → Prop} {x : World} (h : OneT w B L F x) (id lo hi : Int) :
    Calls Try.prog 28 #[.pointer (some ⟨B, 0, none⟩), .int .i64 id, .agg #[.int .i64 lo, .int .i64 hi]] x fun e y => e = .returned (errV (addErr L ⟨id, lo, hi⟩)) ∧ ∃ F', OneT w B (addTo L ⟨id, lo, hi⟩) F' y := by
  refine (tree_Add L B F id lo hi x h.p).mono ?_
  rintro e y ⟨rfl, ht⟩
  exact ⟨rfl, h.turned ht⟩

theorem OneT.at {w : World} {B : Nat} {L : List Ent} {F : Nat → Prop} {x : World} (h : OneT w B L F x) (t : Int) (hw : (Lit.int .i64 t).wf = true) :
    Calls Try.prog 31 #[.pointer (some ⟨B, 0, none⟩), .int .i64 t] x fun e y => ∃ g ad c, e = .returned (.slice ad (atT L t).length c) ∧ (∀ j, (hj : j < (atT L t).length) → ad = some ⟨g, 0, none⟩ ∧ y.cell? ⟨g, j, none⟩ = some (.int .i64 (atT L t)[j])) ∧ OneT w B L F y ∧ Below x.heap.size x y := by
  refine (tree_At L B F t x h.p hw).mono ?_
  rintro e y ⟨v, rfl, ho, hb⟩
  obtain ⟨g, ad, c, rfl, hf⟩ := own_form ho
  exact ⟨g, ad, c, rfl, hf, h.below hb, hb⟩

def two1 : List Ent := [⟨4, 0, 9⟩]
def two2 : List Ent := [⟨2, 5, 6⟩, ⟨4, 0, 9⟩]

theorem two_a {w : World} {B : Nat} {F : Nat → Prop} {x : World} (h : OneT w B [] F x) :
    Calls Try.prog 28 #[.pointer (some ⟨B, 0, none⟩), .int .i64 4, .agg #[.int .i64 0, .int .i64 9]] x fun e y => e = .returned .nilIface ∧ ∃ F', OneT w B two1 F' y := h.add 4 0 9
theorem two_b {w : World} {B : Nat} {F : Nat → Prop} {x : World} (h : OneT w B two1 F x) :
    Calls Try.prog 28 #[.pointer (some ⟨B, 0, none⟩), .int .i64 2, .agg #[.int .i64 5, .int .i64 6]] x fun e y => e = .returned .nilIface ∧ ∃ F', OneT w B two2 F' y := h.add 2 5 6
theorem two_c {w : World} {B : Nat} {F : Nat → Prop} {x : World} (h : OneT w B two2 F x) :
    Calls Try.prog 28 #[.pointer (some ⟨B, 0, none⟩), .int .i64 4, .agg #[.int .i64 0, .int .i64 9]] x fun e y => e = .returned (.iface 72 (.int .i64 9)) ∧ ∃ F', OneT w B two2 F' y := h.add 4 0 9
theorem two_5 {w : World} {B : Nat} {F : Nat → Prop} {x : World} (h : OneT w B two2 F x) :
    Calls Try.prog 31 #[.pointer (some ⟨B, 0, none⟩), .int .i64 5] x fun e y => ∃ g c, e = .returned (.slice (some ⟨g, 0, none⟩) 2 c) ∧ (y.cell? ⟨g, 0, none⟩ = some (.int .i64 2) ∧ y.cell? ⟨g, 1, none⟩ = some (.int .i64 4)) ∧ OneT w B two2 F y := by
  refine (h.at 5 (by decide)).mono ?_
  rintro e y ⟨g, ad, c, rfl, hf, ho, _⟩
  have e5 : atT two2 5 = [2, 4] := rfl
  rw [e5] at hf ⊢
  obtain ⟨rfl, h0⟩ := hf 0 (by decide)
  exact ⟨g, c, rfl, ⟨h0, (hf 1 (by decide)).2⟩, ho⟩
theorem two_6 {w : World} {B : Nat} {F : Nat → Prop} {x : World} (h : OneT w B two2 F x) :
    Calls Try.prog 31 #[.pointer (some ⟨B, 0, none⟩), .int .i64 6] x fun e y => ∃ g c, e = .returned (.slice (some ⟨g, 0, none⟩) 1 c) ∧ y.cell? ⟨g, 0, none⟩ = some (.int .i64 4) ∧ OneT w B two2 F y ∧ Below x.heap.size x y := by
  refine (h.at 6 (by decide)).mono ?_
  rintro e y ⟨g, ad, c, rfl, hf, ho, hb⟩
  have e5 : atT two2 6 = [4] := rfl
  rw [e5] at hf ⊢
  obtain ⟨rfl, h0⟩ := hf 0 (by decide)
  exact ⟨g, c, rfl, h0, ho, hb⟩

theorem two_start (w : World) : OneT w w.heap.size [] (· = w.heap.size) (w.alloc (.cells #[.map none, .pointer none] 49)) :=
  ⟨pt_new (B := w.heap.size) (by simp) (by simp) (fun i => by simp), below_box w _, fun i e => by rw [e]; exact Nat.le_refl _⟩

set_option maxRecDepth 100000 in
set_option maxHeartbeats 4000000 in
theorem found_ok (w : World) : Calls Try.prog 25 #[] w fun e w' => e = .returned (.bool true) ∧ Below w.heap.size w w' := by
  have HT := hide (two_start w)
  go_enter Try.func25, Try.ntmps25
  go_wp2_with fail
  refine (two_a (unhide HT)).mono ?_
  rintro e1 W1 ⟨rfl, F1, h1⟩
  have HT1 := hide h1
  clear HT h1
  go_wp2_with fail
  refine (two_b (unhide HT1)).mono ?_
  rintro e2 W2 ⟨rfl, F2, h2⟩
  have HT2 := hide h2
  clear HT1 h2
  go_wp2_with fail
  refine (two_c (unhide HT2)).mono ?_
  rintro e3 W3 ⟨rfl, F3, h3⟩
  have HT3 := hide h3
  clear HT2 h3
  go_wp2_with fail
  refine (two_5 (unhide HT3)).mono ?_
  rintro e4 W4 ⟨g, c, rfl, ⟨c0, c1⟩, h4⟩
  have HT4 := hide h4
  clear HT3 h4
  go_wp2_with fail
  refine (two_6 (unhide HT4)).mono ?_
  rintro e5 W5 ⟨g', c', rfl, d0, h5, hb5⟩
  have HT5 := hide h5
  have c0' := (hb5.cell (p := ⟨g, 0, none⟩) (lt_of_cell c0)).trans c0
  have c1' := (hb5.cell (p := ⟨g, 1, none⟩) (lt_of_cell c1)).trans c1
  have HM := hide (tree_Many two2 w.heap.size F3 W5 h5.p)
  clear HT4 h5 hb5 c0 c1
  go_wp2_with fail
  refine (unhide HM).mono ?_
  rintro e6 W6 ⟨rfl, rfl⟩
  go_wp2
  go_ret
  exact ⟨rfl, (unhide HT5).b⟩

set_option maxRecDepth 100000 in
set_option maxHeartbeats 1000000 in
theorem fit_ok (lo hi : Int) (w : World) : Calls Try.prog 26 #[.agg #[.int .i64 lo, .int .i64 hi]] w fun e w' => e = .returned (.agg #[.int .i64 (pickI lo 200), .int .i64 (pickI lo 200 + 1 + pickI hi 50)]) ∧ Below w.heap.size w w' := by
  have HP := hide (fun a W => keep_pick a 200 W (by decide) (by decide))
  have HQ := hide (fun a W => keep_pick a 50 W (by decide) (by decide))
  have hp := pickI_lt lo 200 (by decide)
  have hq := pickI_lt hi 50 (by decide)
  go_enter Try.func26, Try.ntmps26
  go_wp2_with fail
  refine (unhide HP _ _).mono ?_
  rintro e1 W1 ⟨rfl, rfl⟩
  go_wp2_with fail
  refine (unhide HQ _ _).mono ?_
  rintro e2 W2 ⟨rfl, rfl⟩
  go_wp2
  refine bodyPost_ret (v := .agg #[.int .i64 (pickI lo 200), .int .i64 (pickI lo 200 + 1 + pickI hi 50)]) (by simp [results, Try.results26, go_sem]) rfl ⟨rfl, (below_box _ _).trans ((below_box _ _).mono (by simp))⟩

end Go.Proofs.Ytfcmkaiocnelgaa
