/- How changes are written: the document's own Write. -/
import Derived.Test.YtcgdmehdocaooaaGreatDoorRefK
namespace Go.Proofs.YtcgdmehdocaooaaGreatDoor
open Go.RowKit

set_option maxHeartbeats 400000 in
theorem ref_Bare (n : Int) (w : World) : Calls Tryz.prog 17 #[.int .i64 n] w fun e w' => e = .returned (.agg #[.int .i64 n, .int .i64 (-1)]) ∧ w' = w.alloc (.cells #[.int .i64 n, .int .i64 (-1)] 46) := by
  go_enter Tryz.func17, Tryz.ntmps17
  go_wp2
  exact bodyPost_ret (v := .agg #[.int .i64 n, .int .i64 (-1)]) (by simp [results, Tryz.results17, go_sem]) rfl ⟨rfl, rfl⟩

set_option maxHeartbeats 1000000 in
theorem refw_limit (l : List Fop) (v : Value) (w : World) (hn : l.length < 1099511627776) (h : ReadsOps w v l) (hl : ¬ (1 ≤ l.length ∧ l.length ≤ 8)) :
    Calls Tryz.prog 12 #[v] w fun e w' => e = .returned (.tuple #[.string ⟨#[]⟩, .agg #[.int .i64 4, .int .i64 (-1)]]) ∧ Below w.heap.size w w' := by
  obtain ⟨ad, cap, rfl, h⟩ := h
  clear h
  have hi : inB (l.length : Int) 1 8 = false := by unfold inB; simp only [decide_eq_false_iff_not]; omega
  have HI := hide (fun W => ref_in_is _ _ _ _ hi W)
  have HR := hide (fun W => ref_Bare 4 W)
  clear hi
  go_enter Tryz.func12, Tryz.ntmps12
  go_wp2_with (first | (go_at_call 21; refine (unhide HI _).mono ?_; rintro e w1 ⟨rfl, rfl⟩) | (go_at_call 17; refine (unhide HR _).mono ?_; rintro e w2 ⟨rfl, rfl⟩))
  exact bodyPost_ret (v := .tuple #[.string ⟨#[]⟩, .agg #[.int .i64 4, .int .i64 (-1)]]) (by simp [results, Tryz.results12, go_sem]) rfl ⟨rfl, ((Below.refl _ _).alloc (Nat.le_refl _) _).alloc (by simp) _⟩

/-- What the written text's cells hold while the document's Write goes on: the change at hand, and the result's place. -/
def THeld (w : World) (B : Nat) (o : Fop) (x : World) : Prop :=
  (x.cell? ⟨B, 0, none⟩ = some (.int .i64 o.kind) ∧ x.cell? ⟨B, 1, none⟩ = some (.int .i64 o.a) ∧ x.cell? ⟨B, 2, none⟩ = some (.string o.word) ∧ x.cell? ⟨B, 3, none⟩ = some (.int .i64 o.b)) ∧
  x.cell? ⟨B, 4, none⟩ = some (.int .i64 o.lo) ∧ x.cell? ⟨B, 5, none⟩ = some (.int .i64 o.hi) ∧ x.cell? ⟨B, 6, none⟩ = some (.string o.value) ∧ Below w.heap.size w x

theorem THeld.carry {w : World} {B : Nat} {o : Fop} {x y : World} (h : THeld w B o x) (hb : Below x.heap.size x y) : THeld w B o y := by
  obtain ⟨⟨h1, h2, h3, h4⟩, h5, h6, h7, h8⟩ := h
  have t : ∀ {p : Addr} {v : Value}, x.cell? p = some v → y.cell? p = some v := fun {p v} e => (hb.cell (p := p) (lt_of_cell e)).trans e
  exact ⟨⟨t h1, t h2, t h3, t h4⟩, t h5, t h6, t h7, h8.trans (hb.mono h8.size)⟩

theorem THeld.tab {w : World} {B : Nat} {o : Fop} {x : World} (h : THeld w B o x) (ht : Tab w) : Tab x := ht.carry h.2.2.2.2

/-- The result's place, as yet empty. -/
def Place0 (w x : World) : Prop := (x.cell? ⟨w.heap.size, 0, none⟩ = some (.int .i64 0) ∧ x.frozen? ⟨w.heap.size, 0, none⟩ = false) ∧ x.cell? ⟨w.heap.size, 1, none⟩ = some (.int .i64 0) ∧ x.frozen? ⟨w.heap.size, 1, none⟩ = false
theorem Place0.carry {w x y : World} (h : Place0 w x) (hb : Below x.heap.size x y) : Place0 w y := by
  obtain ⟨⟨h1, h2⟩, h3, h4⟩ := h
  exact ⟨⟨(hb.cell (lt_of_cell h1)).trans h1, (hb.frozen (lt_of_cell h1)).trans h2⟩, (hb.cell (lt_of_cell h3)).trans h3, (hb.frozen (lt_of_cell h3)).trans h4⟩

theorem opsL_snoc (l : List Fop) (k : Nat) (hk : k < l.length) : opsL (l.take (k + 1)) = (if k = 0 then [] else opsL (l.take k) ++ [43]) ++ opL l[k] := by
  have htk : l.take (k + 1) = l.take k ++ [l[k]] := List.take_succ_eq_append_getElem hk
  rw [htk]
  have key : ∀ (m : List Fop) (o : Fop), m ≠ [] → opsL (m ++ [o]) = opsL m ++ [43] ++ opL o := by
    intro m
    induction m with
    | nil => intro o h; exact absurd rfl h
    | cons x m ih =>
      intro o _
      cases m with
      | nil => simp [opsL, join_two, Lib.join_one]
      | cons y m =>
        have := ih o (by simp)
        simp only [opsL, List.cons_append, List.map_cons] at this ⊢
        rw [join_two, this, join_two]
        simp [List.append_assoc]
  by_cases h0 : k = 0
  · subst h0
    simp [opsL, Lib.join_one]
  · rw [if_neg h0, key _ _ (by
      intro e
      have := congrArg List.length e
      simp at this
      rcases this with this | this
      · omega
      · subst this; simp at hk)]

end Go.Proofs.YtcgdmehdocaooaaGreatDoor
