/- Both trees beside each other: the program's and the document's. -/
import Derived.Test.YtfcmkaiocnelgaaDoorPtG
import Derived.Test.YtfcmkaiocnelgaaDoorPtH
import Derived.Test.YtfcmkaiocnelgaaDoorPtJ
import Derived.Test.YtfcmkaiocnelgaaDoorTrA
import Derived.Test.YtfcmkaiocnelgaaDoorTrD
import Derived.Test.YtfcmkaiocnelgaaDoorTrE
import Derived.Test.YtfcmkaiocnelgaaDoorPlace
import Derived.Test.YtfcmkaiocnelgaaDoorNil
namespace Go.Proofs.YtfcmkaiocnelgaaDoor
open Go.RowKit Go.Maps

theorem law_bare_no (w : World) :
    Calls Tryd.prog 22 #[.nilIface, .int .i64 0] w fun e w' => e = .returned (.bool true) ∧ Below w.heap.size w w' := by
  have HB := hide (bare_of 0 w)
  have HI := hide (fun W => law_is .nilIface 0 (-1) W (fun W' _ => Place_nil W'))
  go_enter Tryd.func22, Tryd.ntmps22
  go_wp2_with fail
  refine (unhide HB).mono ?_
  rintro e w1 ⟨rfl, b1⟩
  have HB1 := hide b1
  clear b1
  go_wp2_with fail
  refine (unhide HI _).mono ?_
  rintro e w2 ⟨rfl, b2⟩
  have HB2 := hide b2
  clear b2
  go_wp2
  go_ret
  exact ⟨rfl, (unhide HB1).trans ((unhide HB2).mono (unhide HB1).size)⟩

theorem bare_err (n : Int) (w : World) (hg : ErrorType w) : Calls Tryd.prog 22 #[errV n, .int .i64 n] w fun e w' => e = .returned (.bool true) ∧ Below w.heap.size w w' := by
  by_cases h : n = 0
  · subst h
    exact law_bare_no w
  · unfold errV
    rw [if_neg h]
    exact law_bare n w hg

/-- Both trees hold the same spans, each in blocks of its own. -/
structure Two (w : World) (B R : Nat) (L : List Ent) (F : Nat → Prop) (x : World) : Prop where
  p : PT x B L F
  r : RT x R L F
  b : Below w.heap.size w x
  f : ∀ i, F i → w.heap.size ≤ i
  R : w.heap.size ≤ R

/-- The program's tree has turned, the document's has not yet. -/
structure Half (w : World) (B R : Nat) (L' L : List Ent) (F : Nat → Prop) (x : World) : Prop where
  p : PT x B L' F
  r : RT x R L F
  b : Below w.heap.size w x
  f : ∀ i, F i → w.heap.size ≤ i
  R : w.heap.size ≤ R

theorem Two.below {w : World} {B R : Nat} {L : List Ent} {F : Nat → Prop} {x y : World} (h : Two w B R L F x) (hb : Below x.heap.size x y) : Two w B R L F y :=
  ⟨h.p.below hb, h.r.below hb h.p.lt, h.b.trans (hb.mono h.b.size), h.f, h.R⟩

theorem Half.below {w : World} {B R : Nat} {L' L : List Ent} {F : Nat → Prop} {x y : World} (h : Half w B R L' L F x) (hb : Below x.heap.size x y) : Half w B R L' L F y :=
  ⟨h.p.below hb, h.r.below hb h.p.lt, h.b.trans (hb.mono h.b.size), h.f, h.R⟩

theorem Two.turned {w : World} {B R : Nat} {L L' : List Ent} {F : Nat → Prop} {x y : World} (h : Two w B R L F x) (ht : Turned x B L' F y) : ∃ F', Half w B R L' L F' y ∧ (∀ i, F' i → F i ∨ x.heap.size ≤ i) ∧ Keeps F x y := by
  obtain ⟨F', h1, h2, h3⟩ := ht
  refine ⟨F', ⟨h1, h.r.step h3 h2 h1.lt, ?_, fun i hi => ?_, h.R⟩, h2, h3⟩
  · refine ⟨h3.os.trans h.b.os, h3.tape.trans h.b.tape, h3.output.trans h.b.output, Nat.le_trans h.b.size h3.size, fun k hk => ?_⟩
    rw [h3.block k (Nat.lt_of_lt_of_le hk h.b.size) (fun f => by have := h.f k f; omega)]
    exact h.b.block k hk
  · rcases h2 i hi with q | q
    · exact h.f i q
    · exact Nat.le_trans h.b.size q

theorem Half.done {w : World} {B R : Nat} {L' L : List Ent} {F : Nat → Prop} {x y : World} {bi bs bi' bs' : Nat} (h : Half w B R L' L F x) (hne : bs ≠ R) (fi : ¬ F bi) (fs : ¬ F bs) (fR : ¬ F R) (hR : R < x.heap.size)
    (hr : RefTree y R bi' bs' L') (hi : bi' = bi ∨ x.heap.size ≤ bi') (hs : bs' = bs ∨ x.heap.size ≤ bs') (hg : x.grownBy y (some R)) : Two w B R L' F y := by
  refine ⟨h.p.keeps (grown_keeps hg) (fun i hi e => by subst e; exact fR hi), RT.turned h.p.lt hR hr hi hs hne fi fs fR, ?_, h.f, h.R⟩
  exact h.b.grown hg h.b.size (fun k e => by cases e; exact h.R)

/-- The document's Add behind the program's. -/
theorem Half.add {w : World} {B R : Nat} {L : List Ent} {F : Nat → Prop} {x : World} {id lo hi : Int} (h : Half w B R (addTo L ⟨id, lo, hi⟩) L F x) (hr : Rising L) (hl : L.length ≤ 4000) :
    Calls Tryd.prog 39 #[.pointer (some ⟨R, 0, none⟩), .int .i64 id, .agg #[.int .i64 lo, .int .i64 hi]] x fun e y => e = .returned (.int .i64 (addErr L ⟨id, lo, hi⟩)) ∧ Two w B R (addTo L ⟨id, lo, hi⟩) F y ∧ x.grownBy y (some R) := by
  obtain ⟨bi, bs, hR, hne, fi, fs, fR⟩ := h.r
  refine (ref_Add L R bi bs id lo hi x hr (by omega) hR hne).mono ?_
  rintro e y ⟨rfl, ⟨bi', bs', k1, k2, k3⟩, k4⟩
  obtain ⟨vi, vs, c0, _⟩ := hR
  exact ⟨rfl, h.done hne fi fs fR (lt_of_cell c0) k1 k2 k3 k4, k4⟩

theorem Half.drop {w : World} {B R : Nat} {L : List Ent} {F : Nat → Prop} {x : World} {id : Int} (h : Half w B R (dropTo L id) L F x) (hr : Rising L) (hl : L.length ≤ 4000) :
    Calls Tryd.prog 43 #[.pointer (some ⟨R, 0, none⟩), .int .i64 id] x fun e y => e = .returned (.int .i64 (dropErr L id)) ∧ Two w B R (dropTo L id) F y ∧ x.grownBy y (some R) := by
  obtain ⟨bi, bs, hR, hne, fi, fs, fR⟩ := h.r
  refine (ref_Drop L R bi bs id x hr (by omega) hR hne).mono ?_
  rintro e y ⟨rfl, ⟨bi', bs', k1, k2, k3⟩, k4⟩
  obtain ⟨vi, vs, c0, _⟩ := hR
  exact ⟨rfl, h.done hne fi fs fR (lt_of_cell c0) k1 k2 k3 k4, k4⟩

end Go.Proofs.YtfcmkaiocnelgaaDoor
