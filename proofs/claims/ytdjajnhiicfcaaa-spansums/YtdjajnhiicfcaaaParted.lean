/- What the statement on sums asks first: a fact on ten times. -/
import Derived.Test.YtdjajnhiicfcaaaSameSets
import Derived.Test.YtdjajnhiicfcaaaLess
import Derived.Test.YtdjajnhiicfcaaaTells
namespace Go.Proofs.Ytdjajnhiicfcaaa
open Go.RowKit Palim

theorem parted_list {R : List (Int × Int)} (h : Joins [(5, 7), (1, 3), (3, 4)] R) : R = [(1, 4), (5, 7)] := by
  refine canon_eq _ _ h.1 ⟨by decide, by simp, by decide, by simp, trivial⟩ fun t => (h.2.2.1 t).trans ?_
  rw [in_cons, in_cons, in_one, in_cons, in_one]
  show ((5 : Int) ≤ t ∧ t < 7) ∨ ((1 : Int) ≤ t ∧ t < 3) ∨ ((3 : Int) ≤ t ∧ t < 4) ↔ ((1 : Int) ≤ t ∧ t < 4) ∨ ((5 : Int) ≤ t ∧ t < 7)
  omega

theorem parted_canon : Canon [(1, 4), (5, 7)] := ⟨by decide, by simp, by decide, by simp, trivial⟩

theorem parted_less : lessL 0 10 3 5 = [(0, 3), (5, 10)] := by decide

set_option maxHeartbeats 2000000 in
theorem keep_parted (w : World) : Calls Try.prog 16 #[] w fun e w' => e = .returned (.bool true) ∧ Below w.heap.size w w' := by
  have HL := hide (span_Less 0 10 3 5 w)
  rw [parted_less] at HL
  go_enter Try.func16, Try.ntmps16
  go_wp2_with fail
  refine (unhide HL).mono ?_
  rintro e w1 ⟨v1, rfl, o1, b1⟩
  rcases ownsRow_view o1 with ⟨_, h0⟩ | ⟨g, cap, rfl, hg, _, _, hc⟩
  · simp at h0
  have c0 := (hc 0 (by simp)).1
  have c1 := (hc 0 (by simp)).2
  have c2 := (hc 1 (by simp)).1
  have c3 := (hc 1 (by simp)).2
  simp at c0 c1 c2 c3
  have B1 := hide b1
  clear o1 b1 hc HL
  have HO := hide (set_Of [(5, 7), (1, 3), (3, 4)] _ 0 _ (by simp) (by decide) (World.ownsRow_lit (base := 0) (e := 23) (size := 2) w1 #[.int .i64 5, .int .i64 7, .int .i64 1, .int .i64 3, .int .i64 3, .int .i64 4] 3 (Nat.zero_le _) (by decide) rfl))
  go_wp2_with fail
  refine (unhide HO).mono ?_
  rintro e w2 ⟨R, hj, b2, hres⟩
  have hR := parted_list hj
  subst hR
  rcases hres with ⟨_, s, rfl, hs⟩ | ⟨hbig, _⟩
  · obtain ⟨s, rfl⟩ := isSet_ptr hs
    have hb12 : Below w1.heap.size w1 w2 := ((Below.refl _ _).alloc (Nat.le_refl _) _).trans (b2.mono (by simp))
    have d0 := (hb12.cell (p := ⟨g, 0, none⟩) hg).trans c0
    have d1 := (hb12.cell (p := ⟨g, 1, none⟩) hg).trans c1
    have d2 := (hb12.cell (p := ⟨g, 2, none⟩) hg).trans c2
    have d3 := (hb12.cell (p := ⟨g, 3, none⟩) hg).trans c3
    have HSP := hide (set_Spans _ _ w2 (by simp) hs)
    have HSET := hide hs
    have B2 := hide ((unhide B1).trans (hb12.mono (unhide B1).size))
    clear hj b2 hs hb12 c0 c1 c2 c3 B1 HO
    go_wp2_with fail
    refine (unhide HSP).mono ?_
    rintro e w3 ⟨v3, rfl, o3, b3⟩
    have hv3 : ∃ ad cap, v3 = .slice ad 2 cap := by
      rcases o3.2 with ⟨_, h0⟩ | ⟨g, cap, _, h0, _⟩
      · simp at h0
      · exact ⟨_, cap, h0⟩
    obtain ⟨ad3, cap3, rfl⟩ := hv3
    have hs3 := (unhide HSET).carry b3
    have HH := hide (set_Has _ _ 3 w3 (by simp) parted_canon hs3)
    rw [show inL [(1, 4), (5, 7)] 3 = true by decide] at HH
    have HS3 := hide hs3
    have B3 := hide ((unhide B2).trans (b3.mono (unhide B2).size))
    clear o3 b3 hs3 HSET HSP B2
    go_wp2_with fail
    refine (unhide HH).mono ?_
    rintro e w4 ⟨rfl, b4⟩
    have hs4 := (unhide HS3).carry b4
    have HH4 := hide (set_Has _ _ 4 w4 (by simp) parted_canon hs4)
    rw [show inL [(1, 4), (5, 7)] 4 = false by decide] at HH4
    have B4 := hide ((unhide B3).trans (b4.mono (unhide B3).size))
    clear b4 hs4 HS3 HH B3
    go_wp2_with fail
    refine (unhide HH4).mono ?_
    rintro e w5 ⟨rfl, b5⟩
    have B5 := hide ((unhide B4).trans (b5.mono (unhide B4).size))
    clear b5
    go_wp2
    go_ret
    exact ⟨rfl, unhide B5⟩
  · simp at hbig

end Go.Proofs.Ytdjajnhiicfcaaa
