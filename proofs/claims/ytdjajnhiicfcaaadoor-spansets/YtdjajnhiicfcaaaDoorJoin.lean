/- Making one of spans that meet or touch, where they come by their first times. -/
import Derived.Test.YtdjajnhiicfcaaaDoorOps
import Derived.RegionTactic
import Derived.ChangeAlike
namespace Go.Proofs.YtdjajnhiicfcaaaDoor
open Go.RowKit Palim

theorem canon_snoc (l : List (Int × Int)) (q : Int × Int) : Canon (l ++ [q]) ↔ Canon l ∧ q.1 < q.2 ∧ ∀ y, y ∈ l → y.2 < q.1 := by
  induction l with
  | nil => simp [Canon]
  | cons x l ih =>
    rw [List.cons_append]
    show (x.1 < x.2 ∧ (∀ y, y ∈ l ++ [q] → x.2 < y.1) ∧ Canon (l ++ [q])) ↔ (x.1 < x.2 ∧ (∀ y, y ∈ l → x.2 < y.1) ∧ Canon l) ∧ q.1 < q.2 ∧ ∀ y, y ∈ x :: l → y.2 < q.1
    rw [ih]
    constructor
    · rintro ⟨h1, h2, h3, h4, h5⟩
      refine ⟨⟨h1, fun y hy => h2 y (List.mem_append.2 (Or.inl hy)), h3⟩, h4, fun y hy => ?_⟩
      rcases List.mem_cons.1 hy with rfl | hy
      · exact h2 q (by simp)
      · exact h5 y hy
    · rintro ⟨⟨h1, h2, h3⟩, h4, h5⟩
      refine ⟨h1, fun y hy => ?_, h3, h4, fun y hy => h5 y (List.mem_cons_of_mem _ hy)⟩
      rcases List.mem_append.1 hy with hy | hy
      · exact h2 y hy
      · rw [List.mem_singleton.1 hy]; exact h5 x List.mem_cons_self

/-- Where one stands. -/
def JInv (ps : List (Int × Int)) (k : Nat) (out : List (Int × Int)) : Prop :=
  Canon out ∧ (∀ t, In out t ↔ In (ps.take k) t) ∧ (∀ y, y ∈ out → ∀ x, x ∈ ps.drop k → y.1 ≤ x.1) ∧ out.length ≤ k

/-- They come by their first times, and none is empty. -/
def ByFirst (ps : List (Int × Int)) : Prop := ∀ k, (h : k < ps.length) → ps[k].1 < ps[k].2 ∧ ∀ x, x ∈ ps.drop (k + 1) → ps[k].1 ≤ x.1

theorem in_snoc (l : List (Int × Int)) (q : Int × Int) (t : Int) : In (l ++ [q]) t ↔ In l t ∨ (q.1 ≤ t ∧ t < q.2) := by
  rw [in_append, in_cons]
  constructor
  · rintro (h | h | h)
    · exact Or.inl h
    · exact Or.inr h
    · exact absurd h (in_nil _)
  · rintro (h | h)
    · exact Or.inl h
    · exact Or.inr (Or.inl h)

theorem in_take (ps : List (Int × Int)) (k : Nat) (h : k < ps.length) (t : Int) : In (ps.take (k + 1)) t ↔ In (ps.take k) t ∨ (ps[k].1 ≤ t ∧ t < ps[k].2) := by
  rw [List.take_succ_eq_append_getElem h, in_snoc]

theorem drop_mem (ps : List (Int × Int)) (k : Nat) (h : k < ps.length) (x : Int × Int) : x ∈ ps.drop k ↔ x = ps[k] ∨ x ∈ ps.drop (k + 1) := by
  have e := List.drop_eq_getElem_cons h
  constructor
  · intro a; rw [e] at a; exact List.mem_cons.1 a
  · intro a; rw [e]; exact List.mem_cons.2 a

/-- A new span behind the last one. -/
theorem jinv_new {ps : List (Int × Int)} (hs : ByFirst ps) {k : Nat} {out : List (Int × Int)} (h : JInv ps k out) (hk : k < ps.length) (hnew : ∀ y, y ∈ out → y.2 < ps[k].1) : JInv ps (k + 1) (out ++ [ps[k]]) := by
  obtain ⟨h1, h2, h3, h4⟩ := h
  have hp := hs k hk
  refine ⟨(canon_snoc _ _).2 ⟨h1, hp.1, hnew⟩, fun t => ?_, fun y hy x hx => ?_, by simp; omega⟩
  · rw [in_snoc, in_take ps k hk, h2]
  · rcases List.mem_append.1 hy with hy | hy
    · exact h3 y hy x ((drop_mem ps k hk x).2 (Or.inr hx))
    · rw [List.mem_singleton.1 hy]; exact hp.2 x hx

/-- The last span grows. -/
theorem jinv_grow {ps : List (Int × Int)} (hs : ByFirst ps) {k : Nat} {init : List (Int × Int)} {q : Int × Int} (h : JInv ps k (init ++ [q])) (hk : k < ps.length) (ho : ¬ q.2 < ps[k].1) : JInv ps (k + 1) (init ++ [(q.1, mlo q.2 ps[k].2)]) := by
  obtain ⟨h1, h2, h3, h4⟩ := h
  have hp := hs k hk
  obtain ⟨c1, c2, c3⟩ := (canon_snoc _ _).1 h1
  have hq := h3 q (by simp) ps[k] ((drop_mem ps k hk _).2 (Or.inl rfl))
  have hm : q.2 ≤ mlo q.2 ps[k].2 := by unfold mlo; split <;> omega
  refine ⟨(canon_snoc _ _).2 ⟨c1, by show q.1 < mlo q.2 ps[k].2; omega, c3⟩, fun t => ?_, fun y hy x hx => ?_, by simp at h4 ⊢; omega⟩
  · rw [in_take ps k hk, ← h2, in_snoc, in_snoc]
    have he : (q.1 ≤ t ∧ t < mlo q.2 ps[k].2) ↔ (q.1 ≤ t ∧ t < q.2) ∨ (ps[k].1 ≤ t ∧ t < ps[k].2) := by
      unfold mlo; split <;> omega
    show In init t ∨ (q.1 ≤ t ∧ t < mlo q.2 ps[k].2) ↔ _
    rw [he]
    constructor
    · rintro (a | a | a)
      · exact Or.inl (Or.inl a)
      · exact Or.inl (Or.inr a)
      · exact Or.inr a
    · rintro ((a | a) | a)
      · exact Or.inl a
      · exact Or.inr (Or.inl a)
      · exact Or.inr (Or.inr a)
  · rcases List.mem_append.1 hy with hy | hy
    · exact h3 y (List.mem_append.2 (Or.inl hy)) x ((drop_mem ps k hk x).2 (Or.inr hx))
    · rw [List.mem_singleton.1 hy]
      show q.1 ≤ x.1
      exact h3 q (by simp) x ((drop_mem ps k hk x).2 (Or.inr hx))

theorem jinv_last {ps : List (Int × Int)} {k : Nat} {init : List (Int × Int)} {q : Int × Int} (h : JInv ps k (init ++ [q])) : ∀ y, y ∈ init ++ [q] → y.2 ≤ q.2 := by
  obtain ⟨c1, c2, c3⟩ := (canon_snoc _ _).1 h.1
  intro y hy
  rcases List.mem_append.1 hy with hy | hy
  · have := c3 y hy; omega
  · rw [List.mem_singleton.1 hy]; omega

theorem below_box (w : World) (x1 x2 : Int) (n : Nat) : Below w.heap.size w ((w.alloc (.cells #[.int .i64 x1, .int .i64 x2] 54)).drewN n) :=
  ((Below.refl _ _).alloc (Nat.le_refl _) _).trans ⟨rfl, rfl, rfl, Nat.le_refl _, fun _ _ => rfl⟩
theorem box_cells (w : World) (x1 x2 : Int) (n : Nat) : ((w.alloc (.cells #[.int .i64 x1, .int .i64 x2] 54)).drewN n).cell? ⟨w.heap.size, 0, none⟩ = some (.int .i64 x1) ∧ ((w.alloc (.cells #[.int .i64 x1, .int .i64 x2] 54)).drewN n).cell? ⟨w.heap.size, 1, none⟩ = some (.int .i64 x2) ∧ w.heap.size < ((w.alloc (.cells #[.int .i64 x1, .int .i64 x2] 54)).drewN n).heap.size := by
  refine ⟨?_, ?_, ?_⟩
  · show (w.alloc (.cells #[.int .i64 x1, .int .i64 x2] 54)).cell? ⟨w.heap.size, 0, none⟩ = _
    simp
  · show (w.alloc (.cells #[.int .i64 x1, .int .i64 x2] 54)).cell? ⟨w.heap.size, 1, none⟩ = _
    simp
  · show w.heap.size < (w.alloc (.cells #[.int .i64 x1, .int .i64 x2] 54)).heap.size
    simp

theorem join_cell {w1 : World} {B g cap : Nat} {init : List (Int × Int)} {q1 q2 : Int} (h : w1.ownsRow B 54 2 (.slice (some ⟨g, 0, none⟩) (init.length + 1) cap) (init ++ [(q1, q2)]).length (encs (init ++ [(q1, q2)]))) :
    w1.cell? ⟨g, init.length * 2 + 1, none⟩ = some (.int .i64 q2) := by
  have h' : w1.ownsRow B 54 2 (.slice (some ⟨g, 0, none⟩) (init.length + 1) cap) (init.length + 1) (encs (init ++ [(q1, q2)])) := by simpa using h
  rw [h'.cellAt (init.length * 2 + 1) (by omega), encs_append, List.getElem?_append_right (by rw [encs_length]; omega), encs_length]
  simp [encs]

theorem join_store {w1 : World} {B g cap : Nat} {init : List (Int × Int)} {q1 q2 t : Int} (h : w1.ownsRow B 54 2 (.slice (some ⟨g, 0, none⟩) (init.length + 1) cap) (init ++ [(q1, q2)]).length (encs (init ++ [(q1, q2)]))) :
    (w1.setCell ⟨g, init.length * 2 + 1, none⟩ (.int .i64 t)).ownsRow B 54 2 (.slice (some ⟨g, 0, none⟩) (init.length + 1) cap) (init ++ [(q1, t)]).length (encs (init ++ [(q1, t)])) ∧ w1.grownBy (w1.setCell ⟨g, init.length * 2 + 1, none⟩ (.int .i64 t)) (some g) := by
  have h' : w1.ownsRow B 54 2 (.slice (some ⟨g, 0, none⟩) (init.length + 1) cap) (init.length + 1) (encs (init ++ [(q1, q2)])) := by simpa using h
  have := h'.stored (init.length * 2 + 1) (.int .i64 t)
  refine ⟨?_, this.2⟩
  have e : (encs (init ++ [(q1, q2)])).set (init.length * 2 + 1) (.int .i64 t) = encs (init ++ [(q1, t)]) := by
    rw [encs_append, encs_append, List.set_append_right _ _ (by rw [encs_length]; omega), encs_length]
    simp [encs]
  rw [← e]
  simpa using this.1

set_option maxHeartbeats 4000000 in
theorem join_cells (ps : List (Int × Int)) (g cap : Nat) (w : World) (hl : ps.length < 1099511627) (hg : g < w.heap.size) (hs : ByFirst ps)
    (hc : ∀ k, (hk : k < ps.length) → w.cell? ⟨g, k * 2, none⟩ = some (.int .i64 ps[k].1) ∧ w.cell? ⟨g, k * 2 + 1, none⟩ = some (.int .i64 ps[k].2)) :
    Calls Tryd.prog 29 #[.slice (some ⟨g, 0, none⟩) ps.length cap] w fun e w' => ∃ R, JInv ps ps.length R ∧ GivesS w R e w' := by
  have HC := hide hc
  clear hc
  go_enter Tryd.func29, Tryd.ntmps29
  go_wp2
  go_loopw [3, 9] (fun v i wr => ∃ (k : Nat) (out : List (Int × Int)), k ≤ ps.length ∧ i = .int .i64 k ∧ JInv ps k out ∧ wr.ownsRow w.heap.size 54 2 v out.length (encs out) ∧ Below w.heap.size w wr) (fun _ i _ => ps.length - (intOf i).toNat)
  case atStart => exact ⟨0, [], Nat.zero_le _, rfl, ⟨trivial, by simp, by simp, Nat.le_refl _⟩, World.ownsRow_nil _ _ _ _, Below.refl _ _⟩
  case round =>
    obtain ⟨k, out, hk, rfl, hinv, hown, hb⟩ := hrel
    by_cases hlt : k < ps.length
    · have c0 := (hb.cell (p := ⟨g, k * 2, none⟩) hg).trans (unhide HC k hlt).1
      have c1 := (hb.cell (p := ⟨g, k * 2 + 1, none⟩) hg).trans (unhide HC k hlt).2
      have hnew := jinv_new hs hinv hlt
      have hz := hb.size
      have hol : out.length ≤ k := hinv.2.2.2
      rcases List.eq_nil_or_concat out with ho | ⟨init, q, ho⟩
      · subst ho
        have HN := hide (hnew (by simp))
        have hv : ∃ ad cap, u3 = .slice ad 0 cap := by
          rcases hown.2 with ⟨h0, _⟩ | ⟨g, cap, _, h0, _⟩
          · exact ⟨none, 0, h0⟩
          · exact ⟨_, cap, h0⟩
        obtain ⟨ad3, cap3, rfl⟩ := hv
        have HO := hide hown
        have HB := hide hb
        clear hinv hown hb hnew HC
        generalize ps[k] = p at c0 c1 HN
        obtain ⟨x1, x2⟩ := p
        simp only at c0 c1
        go_wp2
        go_quiet (fail)
        have hb1 := below_box wr x1 x2 nq
        have hc1 := box_cells wr x1 x2 nq
        have HO1 := hide (ownsRow_carry (unhide HO) hb1)
        have HB1 := hide ((unhide HB).trans (hb1.mono hz))
        have hz1 : wr.heap.size < ((wr.alloc (.cells #[.int .i64 x1, .int .i64 x2] 54)).drewN nq).heap.size := hc1.2.2
        have f0 := hc1.1
        have f1 := hc1.2.1
        generalize (wr.alloc (.cells #[.int .i64 x1, .int .i64 x2] 54)).drewN nq = w1 at HO1 HB1 hz1 f0 f1 ⊢
        clear hb1 hc1 HO HB c0 c1
        go_wp2_with (at_builtin; refine wpList_app58 _ rfl (.tmp 28) (.tmp 30) rfl w.heap.size _ [] rfl ((unhide HO1).alloc _) w1.heap.size x1 x2 rfl ?d0 ?d1 ?d2 ?d3 ?_)
        case d0 => simp
        case d1 => simp
        case d2 => simp
        case d3 => simp; omega
        intro v' wn k1 k2
        have HB2 := hide (((unhide HB1).alloc (by omega) _).grown k2 (by simp; omega) (fun k hk => ((unhide HO1).lt k hk).1))
        have HO2 := hide k1
        clear k1 k2
        go_wp2
        go_roundw
        case rel => exact ⟨k + 1, [] ++ [(x1, x2)], by omega, by go_num, unhide HN, unhide HO2, unhide HB2⟩
        case measure => simp [intOf]; omega
      · rw [List.concat_eq_append] at ho
        subst ho
        have hgrow := jinv_grow hs hinv hlt
        have hlast := jinv_last hinv
        have hnew2 : q.2 < ps[k].1 → JInv ps (k + 1) ((init ++ [q]) ++ [ps[k]]) := fun h => hnew fun y hy => by have := hlast y hy; omega
        have hv : ∃ g3 cap3, u3 = .slice (some ⟨g3, 0, none⟩) (init.length + 1) cap3 := by
          rcases hown.2 with ⟨_, h0⟩ | ⟨g, cap, _, h0, _⟩
          · simp at h0
          · exact ⟨g, cap, by rw [h0]; simp⟩
        obtain ⟨g3, cap3, rfl⟩ := hv
        obtain ⟨q1, q2⟩ := q
        have d0 := join_cell hown
        have hg3 := ((hown.lt g3 rfl).2)
        have hfz := fun j => World.ownsRow.frozenAt (show wr.ownsRow w.heap.size 54 2 (.slice (some ⟨g3, 0, none⟩) (init.length + 1) cap3) (init.length + 1) (encs (init ++ [(q1, q2)])) by simpa using hown) j
        have hil : init.length < 1099511627 := by simp at hol; omega
        have hng : decide ((init.length : Int) < 0) = false := by simp
        have hiz : (init.length : Int) < (init.length : Int) + 1 := by omega
        have HO := hide hown
        have HB := hide hb
        clear hinv hown hb hnew hlast HC
        generalize ps[k] = p at c0 c1 hgrow hnew2
        obtain ⟨x1, x2⟩ := p
        simp only at c0 c1 hgrow hnew2
        by_cases hq : q2 < x1
        · have HN := hide (hnew2 hq)
          clear hgrow hnew2
          go_wp2
          go_quiet (fail)
          have hb1 := below_box wr x1 x2 nq
          have hc1 := box_cells wr x1 x2 nq
          have HO1 := hide (ownsRow_carry (unhide HO) hb1)
          have HB1 := hide ((unhide HB).trans (hb1.mono hz))
          have hz1 : wr.heap.size < ((wr.alloc (.cells #[.int .i64 x1, .int .i64 x2] 54)).drewN nq).heap.size := hc1.2.2
          have f0 := hc1.1
          have f1 := hc1.2.1
          have e0 := (hb1.cell (p := ⟨g3, init.length * 2 + 1, none⟩) hg3).trans d0
          have e1 := (hb1.frozen (p := ⟨g3, init.length * 2 + 1, none⟩) hg3).trans (hfz (init.length * 2 + 1))
          generalize (wr.alloc (.cells #[.int .i64 x1, .int .i64 x2] 54)).drewN nq = w1 at HO1 HB1 hz1 f0 f1 e0 e1 ⊢
          clear hb1 hc1 HO HB c0 c1 d0 hfz
          go_wp2_with (at_builtin; refine wpList_app58 _ rfl (.tmp 28) (.tmp 30) rfl w.heap.size _ (init ++ [(q1, q2)]) rfl ((unhide HO1).alloc _) w1.heap.size x1 x2 rfl ?d0 ?d1 ?d2 ?d3 ?_)
          case d0 => simp
          case d1 => simp
          case d2 => simp; omega
          case d3 => simp; omega
          intro v' wn k1 k2
          have HB2 := hide (((unhide HB1).alloc (by omega) _).grown k2 (by simp; omega) (fun k hk => ((unhide HO1).lt k hk).1))
          have HO2 := hide k1
          clear k1 k2
          go_wp2
          go_roundw
          case rel => exact ⟨k + 1, (init ++ [(q1, q2)]) ++ [(x1, x2)], by omega, by go_num, unhide HN, by simpa using unhide HO2, unhide HB2⟩
          case measure => simp [intOf]; omega
        · have HN := hide (hgrow hq)
          clear hgrow hnew2
          go_wp2
          go_quiet (fail)
          have hb1 := below_box wr x1 x2 nq
          have hc1 := box_cells wr x1 x2 nq
          have HO1 := hide (ownsRow_carry (unhide HO) hb1)
          have HB1 := hide ((unhide HB).trans (hb1.mono hz))
          have hz1 : wr.heap.size < ((wr.alloc (.cells #[.int .i64 x1, .int .i64 x2] 54)).drewN nq).heap.size := hc1.2.2
          have f0 := hc1.1
          have f1 := hc1.2.1
          have e0 := (hb1.cell (p := ⟨g3, init.length * 2 + 1, none⟩) hg3).trans d0
          have e1 := (hb1.frozen (p := ⟨g3, init.length * 2 + 1, none⟩) hg3).trans (hfz (init.length * 2 + 1))
          generalize (wr.alloc (.cells #[.int .i64 x1, .int .i64 x2] 54)).drewN nq = w1 at HO1 HB1 hz1 f0 f1 e0 e1 ⊢
          clear hb1 hc1 HO HB c0 c1 d0 hfz
          have hmx : max q2 x2 = mlo q2 x2 := by unfold mlo; split <;> omega
          generalize mlo q2 x2 = m at HN hmx
          go_wp2
          go_region
          have hst := join_store (t := m) (unhide HO1)
          have HB2 := hide (((unhide HB1).grown hst.2 (by omega) (fun k hk => ((unhide HO1).lt k hk).1)).drew)
          have HO2 := hide (hst.1.drew)
          clear hst
          go_wp2
          go_roundw
          case rel => exact ⟨k + 1, init ++ [(q1, m)], by omega, by go_num, unhide HN, unhide HO2, unhide HB2⟩
          case measure => simp [intOf]; omega
    · have hkl : k = ps.length := by omega
      subst hkl
      have HN := hide hinv
      have HO := hide hown
      have HB := hide hb
      clear hinv hown hb HC
      go_wp2
      go_ret
      exact ⟨out, unhide HN, _, rfl, unhide HO, unhide HB⟩

set_option maxHeartbeats 1000000 in
theorem join_none (ad : Option Addr) (cap : Nat) (w : World) :
    Calls Tryd.prog 29 #[.slice ad 0 cap] w fun e w' => ∃ R, JInv [] 0 R ∧ GivesS w R e w' := by
  go_enter Tryd.func29, Tryd.ntmps29
  go_wp2
  refine wp_loop_rounds 1 ?_
  rw [rounds_succ]
  go_wp2
  go_ret
  exact ⟨[], ⟨trivial, by simp, by simp, Nat.le_refl _⟩, _, rfl, World.ownsRow_nil _ _ _ _, Below.refl _ _⟩

/-- join, of a slice of sides. -/
theorem set_join (ps : List (Int × Int)) (v : Value) (base : Nat) (w : World) (hl : ps.length < 1099511627) (hs : ByFirst ps) (hown : w.ownsRow base 54 2 v ps.length (encs ps)) :
    Calls Tryd.prog 29 #[v] w fun e w' => ∃ R, JInv ps ps.length R ∧ GivesS w R e w' := by
  rcases ownsRow_view hown with ⟨rfl, rfl⟩ | ⟨g, cap, rfl, hg, _, _, hc⟩
  · exact join_none _ _ w
  · exact join_cells ps g cap w hl hg hs hc

end Go.Proofs.YtdjajnhiicfcaaaDoor
