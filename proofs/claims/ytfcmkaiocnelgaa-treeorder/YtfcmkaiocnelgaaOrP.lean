/- Two trees of the program, apart in memory; numbers and spans that came in. -/
import Derived.Test.YtfcmkaiocnelgaaPtG
import Derived.Test.YtfcmkaiocnelgaaPtJ
import Derived.Test.YtfcmkaiocnelgaaPtF
import Derived.Test.YtfcmkaiocnelgaaOrM
namespace Go.Proofs.Ytfcmkaiocnelgaa
open Go.RowKit Go.Maps

/-- One tree, made by the call. -/
structure OneT (w : World) (B : Nat) (L : List Ent) (F : Nat → Prop) (x : World) : Prop where
  p : PT x B L F
  b : Below w.heap.size w x
  f : ∀ i, F i → w.heap.size ≤ i

theorem OneT.below {w : World} {B : Nat} {L : List Ent} {F : Nat → Prop} {x y : World} (h : OneT w B L F x) (hb : Below x.heap.size x y) : OneT w B L F y :=
  ⟨h.p.below hb, h.b.trans (hb.mono h.b.size), h.f⟩

theorem below_keeps {w x y : World} {F : Nat → Prop} (h : Below w.heap.size w x) (hk : Keeps F x y) (hF : ∀ i, F i → w.heap.size ≤ i) : Below w.heap.size w y := by
  refine ⟨hk.os.trans h.os, hk.tape.trans h.tape, hk.output.trans h.output, Nat.le_trans h.size hk.size, fun k hlt => ?_⟩
  rw [hk.block k (Nat.lt_of_lt_of_le hlt h.size) (fun f => by have := hF k f; omega)]
  exact h.block k hlt

theorem OneT.turned {w : World} {B : Nat} {L L' : List Ent} {F : Nat → Prop} {x y : World} (h : OneT w B L F x) (ht : Turned x B L' F y) : ∃ F', OneT w B L' F' y := by
  obtain ⟨F', h1, h2, h3⟩ := ht
  refine ⟨F', h1, below_keeps h.b h3 h.f, fun i hi => ?_⟩
  rcases h2 i hi with q | q
  · exact h.f i q
  · exact Nat.le_trans h.b.size q

/-- Two trees, made by the call. -/
structure PairT (w : World) (A B : Nat) (L M : List Ent) (F G : Nat → Prop) (x : World) : Prop where
  a : PT x A L F
  p : PT x B M G
  b : Below w.heap.size w x
  f : ∀ i, F i → w.heap.size ≤ i
  g : ∀ i, G i → w.heap.size ≤ i
  d : ∀ i, F i → ¬ G i

theorem PairT.below {w : World} {A B : Nat} {L M : List Ent} {F G : Nat → Prop} {x y : World} (h : PairT w A B L M F G x) (hb : Below x.heap.size x y) : PairT w A B L M F G y :=
  ⟨h.a.below hb, h.p.below hb, h.b.trans (hb.mono h.b.size), h.f, h.g, h.d⟩

theorem PairT.second {w : World} {A B : Nat} {L M M' : List Ent} {F G : Nat → Prop} {x y : World} (h : PairT w A B L M F G x) (ht : Turned x B M' G y) : ∃ G', PairT w A B L M' F G' y ∧ Keeps G x y := by
  obtain ⟨G', h1, h2, h3⟩ := ht
  refine ⟨G', ⟨h.a.keeps h3 h.d, h1, below_keeps h.b h3 h.g, h.f, fun i hi => ?_, fun i hi hg => ?_⟩, h3⟩
  · rcases h2 i hi with q | q
    · exact h.g i q
    · exact Nat.le_trans h.b.size q
  · rcases h2 i hg with q | q
    · exact h.d i hi q
    · have := h.a.lt i hi; omega

theorem PairT.first {w : World} {A B : Nat} {L M L' : List Ent} {F G : Nat → Prop} {x y : World} (h : PairT w A B L M F G x) (ht : Turned x A L' F y) : ∃ F', PairT w A B L' M F' G y ∧ Keeps F x y := by
  obtain ⟨F', h1, h2, h3⟩ := ht
  refine ⟨F', ⟨h1, h.p.keeps h3 (fun i hi hf => h.d i hf hi), below_keeps h.b h3 h.f, fun i hi => ?_, h.g, fun i hi hg => ?_⟩, h3⟩
  · rcases h2 i hi with q | q
    · exact h.f i q
    · exact Nat.le_trans h.b.size q
  · rcases h2 i hi with q | q
    · exact h.d i q hg
    · have := h.p.lt i hg; omega

/-- A row of numbers of one's own, read. -/
theorem own_form {w : World} {base : Nat} {v : Value} {l : List Int} (h : w.ownsRow base 3 1 v l.length (l.map (Value.int .i64))) : ∃ g ad c, v = .slice ad l.length c ∧ ∀ j, (hj : j < l.length) → ad = some ⟨g, 0, none⟩ ∧ w.cell? ⟨g, j, none⟩ = some (.int .i64 l[j]) := by
  obtain ⟨_, h2⟩ := h
  rcases h2 with ⟨h2, h3⟩ | ⟨g, cap, cur, hv, hg, hh, h3, h4, h5, h6⟩
  · exact ⟨0, none, 0, by rw [h2, h3], fun j hj => by omega⟩
  · refine ⟨g, _, cap, hv, fun j hj => ⟨rfl, ?_⟩⟩
    have hc : cur.toList[j]? = some (.int .i64 l[j]) := by
      rw [← List.getElem?_take_of_lt (show j < l.length * 1 by omega), h6, List.getElem?_map, List.getElem?_eq_getElem hj]; rfl
    unfold World.cell?
    simp only [hh]
    rw [← Array.getElem?_toList]
    exact hc

/-- Spans that came in, where they lie; and numbers. -/
def SpansAt (w : World) (ad : Option Addr) (l : List (Int × Int)) : Prop := ∀ j, (h : j < l.length) → ∃ b o, ad = some ⟨b, o, none⟩ ∧ w.cell? ⟨b, o + j * 2, none⟩ = some (.int .i64 (atL l j).1) ∧ w.cell? ⟨b, o + j * 2 + 1, none⟩ = some (.int .i64 (atL l j).2)
def NumsAt (w : World) (ad : Option Addr) (l : List Int) : Prop := ∀ j, (h : j < l.length) → ∃ b o, ad = some ⟨b, o, none⟩ ∧ w.cell? ⟨b, o + j, none⟩ = some (.int .i64 l[j])

theorem SpansAt.carry {w w' : World} {ad : Option Addr} {l : List (Int × Int)} (h : SpansAt w ad l) (hb : Below w.heap.size w w') : SpansAt w' ad l := fun j hj => by
  obtain ⟨b, o, h1, h2, h3⟩ := h j hj
  exact ⟨b, o, h1, (hb.cell (p := ⟨b, o + j * 2, none⟩) (lt_of_cell h2)).trans h2, (hb.cell (p := ⟨b, o + j * 2 + 1, none⟩) (lt_of_cell h3)).trans h3⟩
theorem NumsAt.carry {w w' : World} {ad : Option Addr} {l : List Int} (h : NumsAt w ad l) (hb : Below w.heap.size w w') : NumsAt w' ad l := fun j hj => by
  obtain ⟨b, o, h1, h2⟩ := h j hj
  exact ⟨b, o, h1, (hb.cell (p := ⟨b, o + j, none⟩) (lt_of_cell h2)).trans h2⟩

/-- pick. -/
theorem pick_eq (a n : Int) (h0 : 0 < n) (h1 : n < 2147483648) : wrap64 ((IntKind.u64.wrap a).tmod n) = pickI a n := by
  have h : 0 ≤ a % 18446744073709551616 := by omega
  have := pickI_lt a n h0
  rw [IntKind.wrap_u64, Int.tmod_eq_emod_of_nonneg h]
  show wrap64 (pickI a n) = pickI a n
  unfold wrap64
  omega

set_option maxHeartbeats 400000 in
theorem keep_pick (a n : Int) (w : World) (h0 : 0 < n) (h1 : n < 2147483648) : Calls Try.prog 27 #[.int .i64 a, .int .i64 n] w fun e w' => e = .returned (.int .i64 (pickI a n)) ∧ w' = w := by
  have hu : IntKind.u64.wrap n = n := by rw [IntKind.wrap_u64]; omega
  have hn : n ≠ 0 := by omega
  have E := hide (pick_eq a n h0 h1)
  go_enter Try.func27, Try.ntmps27
  go_wp2
  go_ret
  exact ⟨ret_int (unhide E).symm, rfl⟩

end Go.Proofs.Ytfcmkaiocnelgaa
