/- TreePlays, walked. -/
import Derived.Test.YtfcmkaiocnelgaaDoorPtQ
namespace Go.Proofs.YtfcmkaiocnelgaaDoor
open Go.RowKit Go.Maps

/-- One step of a play: what, which number, which span. -/
structure Put where
  what : Int
  id : Int
  lo : Int
  hi : Int

/-- The steps, where they lie. -/
def PutsAt (w : World) (ad : Option Addr) (l : List Put) : Prop := ∀ j, (h : j < l.length) → ∃ b o, ad = some ⟨b, o, none⟩ ∧ w.cell? ⟨b, o + j * 4, none⟩ = some (.int .i64 l[j].what) ∧ w.cell? ⟨b, o + j * 4 + 1, none⟩ = some (.int .i64 l[j].id) ∧ w.cell? ⟨b, o + j * 4 + 2, none⟩ = some (.int .i64 l[j].lo) ∧ w.cell? ⟨b, o + j * 4 + 3, none⟩ = some (.int .i64 l[j].hi) ∧ (Lit.int .i64 l[j].id).wf = true ∧ (Lit.int .i64 l[j].lo).wf = true

/-- What both loops hold. -/
def Held (w : World) (B R : Nat) (x : World) : Prop := ∃ L F, Two w B R L F x

theorem fill_small (fill : Int) : ∃ n : Nat, n ≤ 4001 ∧ wrap64 ((IntKind.u64.wrap fill).tmod 4002) = (n : Int) := by
  have h0 : 0 ≤ IntKind.u64.wrap fill := by
    rw [IntKind.wrap_u64]
    omega
  refine ⟨((IntKind.u64.wrap fill).tmod 4002).toNat, ?_, ?_⟩
  · rw [Int.tmod_eq_emod_of_nonneg h0]
    omega
  · rw [Int.tmod_eq_emod_of_nonneg h0]
    unfold wrap64
    omega

/-- The span's box. -/
def BoxS (bx : Nat) (lo hi : Int) (x : World) : Prop := x.cell? ⟨bx, 0, none⟩ = some (.int .i64 lo) ∧ x.cell? ⟨bx, 1, none⟩ = some (.int .i64 hi)

theorem BoxS.keeps {bx : Nat} {lo hi : Int} {x y : World} {F : Nat → Prop} (h : BoxS bx lo hi x) (hk : Keeps F x y) (hf : ¬ F bx) : BoxS bx lo hi y :=
  ⟨(hk.cell (p := ⟨bx, 0, none⟩) (lt_of_cell h.1) hf).trans h.1, (hk.cell (p := ⟨bx, 1, none⟩) (lt_of_cell h.2) hf).trans h.2⟩

theorem BoxS.below {bx : Nat} {lo hi : Int} {x y : World} (h : BoxS bx lo hi x) (hb : Below x.heap.size x y) : BoxS bx lo hi y := h.keeps (Keeps.of_below (fun _ => False) hb (Nat.le_refl _)) (fun f => f)

/-- The step's box. -/
def BoxP (bx : Nat) (q0 q1 q2 q3 : Int) (x : World) : Prop := x.cell? ⟨bx, 0, none⟩ = some (.int .i64 q0) ∧ x.cell? ⟨bx, 1, none⟩ = some (.int .i64 q1) ∧ x.cell? ⟨bx, 2, none⟩ = some (.int .i64 q2) ∧ x.cell? ⟨bx, 3, none⟩ = some (.int .i64 q3)

theorem BoxP.keeps {bx : Nat} {q0 q1 q2 q3 : Int} {x y : World} {F : Nat → Prop} (h : BoxP bx q0 q1 q2 q3 x) (hk : Keeps F x y) (hf : ¬ F bx) : BoxP bx q0 q1 q2 q3 y :=
  ⟨(hk.cell (p := ⟨bx, 0, none⟩) (lt_of_cell h.1) hf).trans h.1, (hk.cell (p := ⟨bx, 1, none⟩) (lt_of_cell h.2.1) hf).trans h.2.1, (hk.cell (p := ⟨bx, 2, none⟩) (lt_of_cell h.2.2.1) hf).trans h.2.2.1, (hk.cell (p := ⟨bx, 3, none⟩) (lt_of_cell h.2.2.2) hf).trans h.2.2.2⟩

theorem BoxP.below {bx : Nat} {q0 q1 q2 q3 : Int} {x y : World} (h : BoxP bx q0 q1 q2 q3 x) (hb : Below x.heap.size x y) : BoxP bx q0 q1 q2 q3 y := h.keeps (Keeps.of_below (fun _ => False) hb (Nat.le_refl _)) (fun f => f)

/-- The document's Span, At and Meets, beside the program's tree. -/
theorem Two.rspan {w : World} {B R : Nat} {L : List Ent} {F : Nat → Prop} {x : World} (h : Two w B R L F x) (id : Int) : Calls Tryd.prog 40 #[.pointer (some ⟨R, 0, none⟩), .int .i64 id] x (SpanSays L id x) := by
  obtain ⟨bi, bs, hR, _⟩ := h.r
  have := h.p.len
  exact ref_Span L R bi bs id x h.p.rising (by omega) hR
theorem Two.rmeets {w : World} {B R : Nat} {L : List Ent} {F : Nat → Prop} {x : World} (h : Two w B R L F x) (lo hi : Int) : Calls Tryd.prog 46 #[.pointer (some ⟨R, 0, none⟩), .agg #[.int .i64 lo, .int .i64 hi]] x (GivesI (meetsT L lo hi) x) := by
  obtain ⟨bi, bs, hR, _⟩ := h.r
  have := h.p.len
  exact ref_Meets L R bi bs lo hi x (by omega) hR
theorem Two.rat {w : World} {B R : Nat} {L : List Ent} {F : Nat → Prop} {x : World} (h : Two w B R L F x) (t : Int) : Calls Tryd.prog 48 #[.pointer (some ⟨R, 0, none⟩), .int .i64 t] x (GivesI (atT L t) x) := by
  obtain ⟨bi, bs, hR, _⟩ := h.r
  have := h.p.len
  exact ref_At L R bi bs t x (by omega) hR

theorem own_row {w : World} {base : Nat} {v : Value} {l : List Int} (h : w.ownsRow base 3 1 v l.length (l.map (Value.int .i64))) : ∃ g, RowI w v g l := by
  by_cases h0 : l = [] ∧ v = .slice none 0 0
  · exact ⟨0, .inl ⟨h0.2, h0.1⟩⟩
  · obtain ⟨g, _, hg⟩ := own_rowI h (by
      by_cases h1 : l = []
      · exact .inr (fun h2 => h0 ⟨h1, h2⟩)
      · exact .inl h1)
    exact ⟨g, hg⟩

theorem same_own {w : World} {base base' : Nat} {v v' : Value} {l : List Int} (h : w.ownsRow base 3 1 v l.length (l.map (Value.int .i64))) (h' : w.ownsRow base' 3 1 v' l.length (l.map (Value.int .i64))) (hl : l.length ≤ 1000000) :
    Calls Tryd.prog 44 #[v, v'] w fun e w' => e = .returned (.bool true) ∧ Below w.heap.size w w' := by
  obtain ⟨g, hg⟩ := own_row h
  obtain ⟨g', hg'⟩ := own_row h'
  exact same_ints l v v' g g' w hg hg' hl

theorem meets_len (L : List Ent) (lo hi : Int) : (meetsT L lo hi).length ≤ L.length := by
  unfold meetsT
  split
  · rw [List.length_map]; exact List.length_filter_le _ _
  · simp

theorem at_len' (L : List Ent) (t : Int) : (atT L t).length ≤ L.length := by
  unfold atT
  rw [List.length_map]; exact List.length_filter_le _ _

theorem bitsN_le (n : Nat) : bitsN n ≤ n := by
  induction n using Nat.strongRecOn with
  | ind n ih =>
    by_cases h : n = 0
    · subst h; rw [bitsN_zero]; exact Nat.le_refl _
    · rw [bitsN_pos h]
      have := ih (n / 2) (by omega)
      omega

theorem Two.ids {w : World} {B R : Nat} {L : List Ent} {F : Nat → Prop} {x : World} (h : Two w B R L F x) : ∃ ai ci, x.cell? ⟨R, 0, none⟩ = some (.slice ai L.length ci) := by
  obtain ⟨bi, bs, ⟨vi, vs, c0, _, _, _, hi, _⟩, _⟩ := h.r
  obtain ⟨ai, ci, rfl, _⟩ := hi.form
  rw [List.length_map] at c0
  exact ⟨ai, ci, c0⟩

theorem Two.rlt {w : World} {B R : Nat} {L : List Ent} {F : Nat → Prop} {x : World} (h : Two w B R L F x) : R < x.heap.size := by
  obtain ⟨bi, bs, ⟨vi, vs, c0, _⟩, _⟩ := h.r
  exact lt_of_cell c0

set_option maxRecDepth 100000 in
set_option maxHeartbeats 16000000 in
theorem treePlays_walk (l : List Put) (ad : Option Addr) (c : Nat) (fill : Int) (w : World) (hl : PutsAt w ad l) (hg : ErrorType w) :
    Calls Tryd.prog 6 #[.slice ad l.length c, .int .i64 fill] w fun e w' => e = .returned (.bool true) ∧ Below w.heap.size w w' := by
  have HG := hide hg
  have HL := hide hl
  clear hg hl
  by_cases h1 : (120 : Int) < (l.length : Int)
  · go_enter Tryd.func6, Tryd.ntmps6
    go_wp2
    go_ret
    exact ⟨rfl, Below.refl _ _⟩
  · have HW0 : Hid (Two w w.heap.size (w.heap.size + 1) [] (· = w.heap.size) ((w.alloc (.cells #[.map none, .pointer none] 72)).alloc (.cells #[.slice none 0 0, .slice none 0 0] 75))) := by
      have b1 := below_box w (.cells #[.map none, .pointer none] 72)
      have b2 := below_box (w.alloc (.cells #[.map none, .pointer none] 72)) (.cells #[.slice none 0 0, .slice none 0 0] 75)
      have e1 : (w.alloc (.cells #[.map none, .pointer none] 72)).heap.size = w.heap.size + 1 := by simp
      refine ⟨(pt_new (B := w.heap.size) (by simp) (by simp) (fun i => by simp)).below b2, ⟨w.heap.size + 2, w.heap.size + 2, ⟨.slice none 0 0, .slice none 0 0, ?_, ?_, ?_, ?_, .inl ⟨rfl, rfl⟩, .inl ⟨rfl, rfl⟩⟩, by omega, by simp, by simp, by simp⟩, b1.trans (b2.mono (by omega)), fun i e => by rw [e]; exact Nat.le_refl _, by omega⟩
      · rw [← e1]; simp
      · rw [← e1]; simp
      · rw [← e1]; simp
      · rw [← e1]; simp
    go_enter Tryd.func6, Tryd.ntmps6
    go_wp2
    obtain ⟨n, hn, hfn⟩ := fill_small fill
    rw [hfn]
    have HB : Hid (w.heap.size + 1 ≠ w.heap.size) := by unfold Hid; omega
    clear hfn
    generalize hW0 : ((w.alloc (.cells #[.map none, .pointer none] 72)).alloc (.cells #[.slice none 0 0, .slice none 0 0] 75)) = W0 at HW0 ⊢
    clear hW0
    obtain ⟨B, hB⟩ : ∃ B, B = w.heap.size := ⟨_, rfl⟩
    obtain ⟨R, hR⟩ : ∃ R, R = w.heap.size + 1 := ⟨_, rfl⟩
    rw [← hR, ← hB] at HW0
    rw [← hR, ← hB]
    clear hB hR HB
    go_loopw [7] (fun i x => ∃ k : Nat, k ≤ n ∧ i = .int .i64 k ∧ Held w B R x) (fun i _ => n - (intOf i).toNat)
    case atStart => exact ⟨0, Nat.zero_le _, rfl, _, _, unhide HW0⟩
    case round =>
      obtain ⟨k, hk, rfl, L, F, hT⟩ := hrel
      have HT := hide hT
      clear HW0 hT
      by_cases hlt : k < n
      · have hlt' : (k : Int) < (n : Int) := by omega
        have hk4 : (k : Int) ≤ 4001 := by omega
        have HT1 := hide (((unhide HT).below (below_box wr (.cells #[.int .i64 k, .int .i64 ((k : Int) + 5)] 29))).below (below_drew _))
        have HS0 : Hid (BoxS wr.heap.size k ((k : Int) + 5) (wr.alloc (.cells #[.int .i64 k, .int .i64 ((k : Int) + 5)] 29)).drew) := ⟨by simp, by simp⟩
        have HNF : Hid (¬ F wr.heap.size) := fun f => absurd ((unhide HT).p.lt _ f) (Nat.lt_irrefl _)
        have HNR : Hid (¬ wr.heap.size = R) := fun e => absurd (unhide HT).rlt (by omega)
        go_wp2
        go_region_held3 (fun x => x.cell? ⟨wr.heap.size, 0, none⟩ = some (.int .i64 k) ∧ x.cell? ⟨wr.heap.size, 1, none⟩ = some (.int .i64 ((k : Int) + 5)))
          (first | exact hS3 | exact hS2 | exact hS1 | exact unhide HS0)
          (first
            | (go_at_call 22; refine (bare_err _ _ ((unhide HG).carry hT2.b)).mono ?_; rintro e3 X3 ⟨rfl, hB3⟩; have hS3 := hS2.below hB3)
            | (go_at_call 39; refine (hH1.add (unhide HT1).p.rising (unhide HT1).p.len).mono ?_; rintro e2 X2 ⟨rfl, hT2, hG2⟩; have hS2 := hS1.keeps (grown_keeps hG2) (unhide HNR))
            | (go_at_call 38; refine (tree_Add L B F _ _ _ _ (unhide HT1).p).mono ?_; rintro e1 X1 ⟨rfl, ht1⟩; obtain ⟨F1, hH1, hF1, hK1⟩ := (unhide HT1).turned ht1; have hS1 := (unhide HS0).keeps hK1 (unhide HNF); clear ht1))
        rename_i hh
        have HT3 := hide (hT2.below hB3)
        clear hh hS3 hS2 hS1 hT2 hH1 hK1 hF1 hG2 hB3 HT1 HS0 HNF HNR
        generalize errV (addErr L { id := IntKind.i64.wrap (10000 + ↑k), lo := ↑k, hi := ↑k + 5 }) = z1
        generalize addErr L { id := IntKind.i64.wrap (10000 + ↑k), lo := ↑k, hi := ↑k + 5 } = z2
        go_wp2
        go_roundw
        case rel => exact ⟨k + 1, by omega, by go_num, _, _, unhide HT3⟩
        case measure => simp [intOf]; omega
      · have hlt' : ¬ (k : Int) < (n : Int) := by omega
        have HH : Hid (Held w B R wr) := ⟨L, F, unhide HT⟩
        clear HT
        go_wp2
        clear hlt' hlt hk hn
        go_loopw [9] (fun i x => ∃ k : Nat, k ≤ l.length ∧ i = .int .i64 k ∧ Held w B R x) (fun i _ => l.length - (intOf i).toNat)
        case atStart => exact ⟨0, Nat.zero_le _, rfl, unhide HH⟩
        case round =>
          clear HH
          obtain ⟨j, hj, rfl, L, F, hT⟩ := hrel
          have HT := hide hT
          clear hT
          by_cases hjl : j < l.length
          · have hjl' : (j : Int) < (l.length : Int) := by omega
            obtain ⟨b, o, rfl, p0, p1, p2, p3, w1, w2⟩ := unhide HL j hjl
            obtain ⟨q0, hq0⟩ : ∃ q, l[j].what = q := ⟨_, rfl⟩
            obtain ⟨q1, hq1⟩ : ∃ q, l[j].id = q := ⟨_, rfl⟩
            obtain ⟨q2, hq2⟩ : ∃ q, l[j].lo = q := ⟨_, rfl⟩
            obtain ⟨q3, hq3⟩ : ∃ q, l[j].hi = q := ⟨_, rfl⟩
            rw [hq0] at p0
            rw [hq1] at p1 w1
            rw [hq2] at p2 w2
            rw [hq3] at p3
            clear hq0 hq1 hq2 hq3
            have c0 := ((unhide HT).b.cell (p := ⟨b, o + j * 4, none⟩) (lt_of_cell p0)).trans p0
            have c1 := ((unhide HT).b.cell (p := ⟨b, o + j * 4 + 1, none⟩) (lt_of_cell p1)).trans p1
            have c2 := ((unhide HT).b.cell (p := ⟨b, o + j * 4 + 2, none⟩) (lt_of_cell p2)).trans p2
            have c3 := ((unhide HT).b.cell (p := ⟨b, o + j * 4 + 3, none⟩) (lt_of_cell p3)).trans p3
            have HP0 : Hid (BoxP wr.heap.size q0 q1 q2 q3 (wr.alloc (.cells #[.int .i64 q0, .int .i64 q1, .int .i64 q2, .int .i64 q3] 80))) := ⟨by simp, by simp, by simp, by simp⟩
            have HT0 := hide ((unhide HT).below (below_box wr (.cells #[.int .i64 q0, .int .i64 q1, .int .i64 q2, .int .i64 q3] 80)))
            have HNF : Hid (¬ F wr.heap.size) := fun f => absurd ((unhide HT).p.lt _ f) (Nat.lt_irrefl _)
            have HNR : Hid (¬ wr.heap.size = R) := fun e => absurd (unhide HT).rlt (by omega)
            have HRI := hide (unhide HT).p.rising
            have HLE := hide (unhide HT).p.len
            obtain ⟨⟨s0, s1, s2⟩, hs⟩ : ∃ s, spanT L q1 = s := ⟨_, rfl⟩
            have HR1 := hide ((unhide HT0).rspan q1)
            unfold SpanSays at HR1
            rw [hs] at HR1
            have HP1 : Hid (∀ x, PT x B L F → Calls Tryd.prog 41 #[.pointer (some ⟨B, 0, none⟩), .int .i64 q1] x fun e x' => e = .returned (.tuple #[.agg #[.int .i64 s0, .int .i64 s1], errV s2]) ∧ Below x.heap.size x x') := fun x hx => by
              have := tree_Span L B F q1 x hx w1
              unfold SpanTells at this
              rw [hs] at this
              exact this
            clear hs p0 p1 p2 p3
            by_cases ha0 : q0 = 0
            · subst ha0
              go_wp2_with (first
                | (go_at_call 40; refine (unhide HR1).mono ?_; rintro e1 X1 ⟨rfl, hB1⟩; have HT1 := hide (((unhide HT0).below hB1).below (below_box X1 (.cells #[.int .i64 s0, .int .i64 s1] 29))); have HX1 := hide (((unhide HP0).below hB1).below (below_box X1 (.cells #[.int .i64 s0, .int .i64 s1] 29))); have HY1 : Hid (BoxS X1.heap.size s0 s1 (X1.alloc (.cells #[.int .i64 s0, .int .i64 s1] 29))) := ⟨by simp, by simp⟩; have e11 := (unhide HX1).2.1; clear hB1)
                | (go_at_call 41; refine (unhide HP1 _ (unhide HT1).p).mono ?_; rintro e2 X2 ⟨rfl, hB2⟩; have HT2 := hide (((unhide HT1).below hB2).below (below_box X2 (.cells #[.int .i64 s0, .int .i64 s1] 29))); have HX2 := hide (((unhide HX1).below hB2).below (below_box X2 (.cells #[.int .i64 s0, .int .i64 s1] 29))); have HY2 := hide (((unhide HY1).below hB2).below (below_box X2 (.cells #[.int .i64 s0, .int .i64 s1] 29))); have HZ2 : Hid (BoxS X2.heap.size s0 s1 (X2.alloc (.cells #[.int .i64 s0, .int .i64 s1] 29))) := ⟨by simp, by simp⟩; clear hB2 e11)
                | (go_at_call 22; refine (bare_err _ _ ((unhide HG).carry (unhide HT2).b)).mono ?_; rintro e3 X3 ⟨rfl, hB3⟩; have HT3 := hide ((unhide HT2).below hB3); have HX3 := hide ((unhide HX2).below hB3); have y0 := ((unhide HY2).below hB3).1; have y1 := ((unhide HY2).below hB3).2; have z0 := ((unhide HZ2).below hB3).1; have z1 := ((unhide HZ2).below hB3).2; have e30 := (unhide HX3).1; clear hB3))
              have HT4 := hide ((unhide HT3).below (below_drew X3))
              have HX4 := hide ((unhide HX3).below (below_drew X3))
              go_region_held3 (fun x => x.cell? ⟨wr.heap.size, 1, none⟩ = some (.int .i64 q1) ∧ x.cell? ⟨wr.heap.size, 2, none⟩ = some (.int .i64 q2) ∧ x.cell? ⟨wr.heap.size, 3, none⟩ = some (.int .i64 q3))
                (first | exact hS3.2 | exact hS2.2 | exact hS1.2 | exact (unhide HX4).2)
                (first
                  | (go_at_call 22; refine (bare_err _ _ ((unhide HG).carry hT2.b)).mono ?_; rintro f3 Z3 ⟨rfl, hB3⟩; have hS3 := hS2.below hB3)
                  | (go_at_call 39; refine (hH1.add (unhide HRI) (unhide HLE)).mono ?_; rintro f2 Z2 ⟨rfl, hT2, hG2⟩; have hS2 := hS1.keeps (grown_keeps hG2) (unhide HNR))
                  | (go_at_call 38; refine (tree_Add L B F q1 q2 q3 _ (unhide HT4).p).mono ?_; rintro f1 Z1 ⟨rfl, ht1⟩; obtain ⟨F1, hH1, hF1, hK1⟩ := (unhide HT4).turned ht1; have hS1 := (unhide HX4).keeps hK1 (unhide HNF); clear ht1))
              rename_i hh
              have HT6 := hide (hT2.below hB3)
              have HX6 := hide hS3
              clear hh hS3 hS2 hS1 hT2 hH1 hK1 hF1 hG2 hB3 HT4 HX4 HT3 HX3 HNF HNR HRI HLE
              generalize errV (addErr L ⟨q1, q2, q3⟩) = zz1
              generalize addErr L ⟨q1, q2, q3⟩ = zz2
              obtain ⟨ai, ci, r0⟩ := (unhide HT6).ids
              have HNL := hide (unhide HT6).p.len
              obtain ⟨N, hN⟩ : ∃ N, ((addTo L ⟨q1, q2, q3⟩)).length = N := ⟨_, rfl⟩
              rw [hN] at r0 HNL
              have HN := hide hN
              have hN4 : (N : Int) ≤ 4000 := by have := unhide HNL; omega
              have hN0 : (0 : Int) ≤ (N : Int) := by omega
              clear hN
              go_wp2
              go_loopw [16, 17] (fun u v x => ∃ a m : Nat, u = .int .i64 a ∧ v = .int .i64 m ∧ a + bitsN m = bitsN (N + 1) ∧ m ≤ N + 1 ∧ x = Z3) (fun _ v _ => (intOf v).toNat)
              case atStart => exact ⟨0, N + 1, rfl, by go_num, by omega, Nat.le_refl _, rfl⟩
              case round =>
                obtain ⟨a, m, rfl, rfl, hab, hmN, hwx⟩ := hrel
                have hwx2 := hwx.symm
                clear hwx
                subst hwx2
                have hbl := bitsN_le (N + 1)
                by_cases hm : m = 0
                · subst hm
                  rw [bitsN_zero, Nat.add_zero] at hab
                  have hm0 : ¬ (0 : Int) < ((0 : Nat) : Int) := by omega
                  have ha : (a : Int) ≤ 4001 := by omega
                  have HAB := hide hab
                  have HS0 := hide ((unhide HX6).below (below_drew Z3)).2.2
                  have HQ0 := hide ((unhide HT6).below (below_drew Z3))
                  have HX0 := hide ((unhide HX6).below (below_drew Z3))
                  have hb2 : bitsN N ≤ a := by rw [hab]; exact bitsN_mono (N + 1) N (by omega)
                  by_cases hNz : N = 0
                  · subst hNz
                    have hNz' : (((0 : Nat) : Int) == 0) = true := by decide
                    have hbz := bitsN_zero
                    have HMA : Hid (∀ x, PT x B ((addTo L ⟨q1, q2, q3⟩)) F1 → Calls Tryd.prog 49 #[.pointer (some ⟨B, 0, none⟩)] x fun e x' => e = .returned (.int .i64 0) ∧ x' = x) := fun x hx => by
                      have := tree_Many ((addTo L ⟨q1, q2, q3⟩)) B F1 x hx
                      rw [unhide HN] at this
                      exact this
                    have HHI : Hid (∀ x, PT x B ((addTo L ⟨q1, q2, q3⟩)) F1 → Calls Tryd.prog 50 #[.pointer (some ⟨B, 0, none⟩)] x fun e x' => e = .returned (.int .i64 0) ∧ Below x.heap.size x x') := fun x hx => by
                      have := tree_High ((addTo L ⟨q1, q2, q3⟩)) B F1 x hx
                      rw [unhide HN, hbz] at this
                      exact this
                    clear hab hbl hb2
                    go_wp2
                    refine wp_region_tail (fun x => x.cell? ⟨wr.heap.size, 2, none⟩ = some (.int .i64 q2) ∧ x.cell? ⟨wr.heap.size, 3, none⟩ = some (.int .i64 q3)) 36 (by kernel_rfl) (by kernel_rfl) (unhide HS0) (fun hHeld => ?_)
                    refine wpAnyH_take (i := 0) (oi := ?to0_1) (v := ?tv0_1) ?th0_1 (by kernel_rfl) (by kernel_rfl) (by kernel_rfl) ?tq0_1 (Or.inl ⟨?tw0_1, ?ty0_1⟩) (by assumption) ?tr0_1
                    case th0_1 => (simp only [List.getElem?_toArray, List.getElem?_cons_zero]; rfl)
                    case tq0_1 => exact fun _ _ _ h => h
                    case tw0_1 => rfl
                    case ty0_1 => (intro w' hSw; (try dsimp only at hSw); go_simp <;> with_reducible rfl)
                    try simp only [Act.put, List.setIfInBounds_toArray, List.set_cons_zero, List.set_cons_succ]
                    refine wpAnyH_take (i := 1) (oi := ?to1_1) (v := ?tv1_1) ?th1_1 (by kernel_rfl) (by kernel_rfl) (by kernel_rfl) ?tq1_1 (Or.inl ⟨?tw1_1, ?ty1_1⟩) (by assumption) ?tr1_1
                    case th1_1 => (simp only [List.getElem?_toArray, List.getElem?_cons_zero, List.getElem?_cons_succ]; rfl)
                    case tq1_1 => exact fun _ _ _ h => h
                    case tw1_1 => rfl
                    case ty1_1 => (intro w' hSw; (try dsimp only at hSw); go_simp <;> with_reducible rfl)
                    try simp only [Act.put, List.setIfInBounds_toArray, List.set_cons_zero, List.set_cons_succ]
                    refine wpAnyH_take (i := 3) (oi := ?to3_1) (v := ?tv3_1) ?th3_1 (by kernel_rfl) (by kernel_rfl) (by kernel_rfl) ?tq3_1 (Or.inl ⟨?tw3_1, ?ty3_1⟩) (by assumption) ?tr3_1
                    case th3_1 => (simp only [List.getElem?_toArray, List.getElem?_cons_zero, List.getElem?_cons_succ]; rfl)
                    case tq3_1 => exact fun _ _ _ h => h
                    case tw3_1 => rfl
                    case ty3_1 => (intro w' hSw; (try dsimp only at hSw); go_simp <;> with_reducible rfl)
                    try simp only [Act.put, List.setIfInBounds_toArray, List.set_cons_zero, List.set_cons_succ]
                    refine wpAnyH_take (i := 4) (oi := ?to4_1) (v := ?tv4_1) ?th4_1 (by kernel_rfl) (by kernel_rfl) (by kernel_rfl) ?tq4_1 (Or.inl ⟨?tw4_1, ?ty4_1⟩) (by assumption) ?tr4_1
                    case th4_1 => (simp only [List.getElem?_toArray, List.getElem?_cons_zero, List.getElem?_cons_succ]; rfl)
                    case tq4_1 => exact fun _ _ _ h => h
                    case tw4_1 => rfl
                    case ty4_1 => (intro w' hSw; (try dsimp only at hSw); go_simp <;> with_reducible rfl)
                    try simp only [Act.put, List.setIfInBounds_toArray, List.set_cons_zero, List.set_cons_succ]
                    refine wpAnyH_take (i := 5) (oi := ?to5_1) (v := ?tv5_1) ?th5_1 (by kernel_rfl) (by kernel_rfl) (by kernel_rfl) ?tq5_1 (Or.inl ⟨?tw5_1, ?ty5_1⟩) (by assumption) ?tr5_1
                    case th5_1 => (simp only [List.getElem?_toArray, List.getElem?_cons_zero, List.getElem?_cons_succ]; rfl)
                    case tq5_1 => exact fun _ _ _ h => h
                    case tw5_1 => rfl
                    case ty5_1 => (intro w' hSw; (try dsimp only at hSw); go_simp <;> with_reducible rfl)
                    try simp only [Act.put, List.setIfInBounds_toArray, List.set_cons_zero, List.set_cons_succ]
                    refine wpAnyH_ready (rs := [2]) (by kernel_rfl) (by simp) ?_
                    refine AllReadyH.cons (o := ?coa2) ?cha2 (fun K hK => ?csa2) ?cma2
                    case cha2 => (simp only [List.getElem?_toArray, List.getElem?_cons_zero, List.getElem?_cons_succ]; rfl)
                    case csa2 =>
                      go_simp
                      refine (tree_Meets (addTo L ⟨q1, q2, q3⟩) B F1 q2 q3 _ (unhide HQ0).p).mono ?_
                      rintro e1 Y1 ⟨v1, rfl, o1, b1⟩
                      have hX1 := (unhide HX0).below b1
                      have hQ1 := (unhide HQ0).below b1
                      (try go_wp2_with fail)
                      refine hK.out _ _ hX1.2.2 (fun hHeld1 => ?_)
                      clear hK K
                      try simp only [Act.put, List.setIfInBounds_toArray, List.set_cons_zero, List.set_cons_succ]
                      refine wpAnyH_ready (rs := [6]) (by kernel_rfl) (by simp) ?_
                      refine AllReadyH.cons (o := ?coa6) ?cha6 (fun K hK => ?csa6) ?cma6
                      case cha6 => (simp only [List.getElem?_toArray, List.getElem?_cons_zero, List.getElem?_cons_succ]; rfl)
                      case csa6 =>
                        go_simp
                        refine (hQ1.rmeets q2 q3).mono ?_
                        rintro e2 Y2 ⟨v2, rfl, o2, b2⟩
                        have hX2 := hX1.below b2
                        have hQ2 := hQ1.below b2
                        have o1a := ownsRow_carry o1 b2
                        (try go_wp2_with fail)
                        refine hK.out _ _ hX2.2.2 (fun hHeld2 => ?_)
                        clear hK K
                        try simp only [Act.put, List.setIfInBounds_toArray, List.set_cons_zero, List.set_cons_succ]
                        refine wpAnyH_ready (rs := [7]) (by kernel_rfl) (by simp) ?_
                        refine AllReadyH.cons (o := ?coa7) ?cha7 (fun K hK => ?csa7) ?cma7
                        case cha7 => (simp only [List.getElem?_toArray, List.getElem?_cons_zero, List.getElem?_cons_succ]; rfl)
                        case csa7 =>
                          go_simp
                          refine (same_own o1a o2 (by have := meets_len ((addTo L ⟨q1, q2, q3⟩)) q2 q3; have := unhide HNL; rw [unhide HN] at *; omega)).mono ?_
                          rintro e3 Y3 ⟨rfl, b3⟩
                          have hX3 := hX2.below b3
                          have hQ3 := hQ2.below b3
                          (try go_wp2_with fail)
                          refine hK.out _ _ hX3.2.2 (fun hHeld3 => ?_)
                          clear hK K
                          try simp only [Act.put, List.setIfInBounds_toArray, List.set_cons_zero, List.set_cons_succ]
                          refine wpAnyH_take (i := 8) (oi := ?to8_2) (v := ?tv8_2) ?th8_2 (by kernel_rfl) (by kernel_rfl) (by kernel_rfl) ?tq8_2 (Or.inl ⟨?tw8_2, ?ty8_2⟩) (by assumption) ?tr8_2
                          case th8_2 => (simp only [List.getElem?_toArray, List.getElem?_cons_zero, List.getElem?_cons_succ]; rfl)
                          case tq8_2 => exact fun _ _ _ h => h
                          case tw8_2 => rfl
                          case ty8_2 => (intro w' hSw; (try dsimp only at hSw); go_simp <;> with_reducible rfl)
                          try simp only [Act.put, List.setIfInBounds_toArray, List.set_cons_zero, List.set_cons_succ]
                          refine wpAnyH_take (i := 9) (oi := ?to9_2) (v := ?tv9_2) ?th9_2 (by kernel_rfl) (by kernel_rfl) (by kernel_rfl) ?tq9_2 (Or.inl ⟨?tw9_2, ?ty9_2⟩) (by assumption) ?tr9_2
                          case th9_2 => (simp only [List.getElem?_toArray, List.getElem?_cons_zero, List.getElem?_cons_succ]; rfl)
                          case tq9_2 => exact fun _ _ _ h => h
                          case tw9_2 => rfl
                          case ty9_2 => (intro w' hSw; (try dsimp only at hSw); go_simp <;> with_reducible rfl)
                          try simp only [Act.put, List.setIfInBounds_toArray, List.set_cons_zero, List.set_cons_succ]
                          refine wpAnyH_take (i := 10) (oi := ?to10_3) (v := ?tv10_3) ?th10_3 (by kernel_rfl) (by kernel_rfl) (by kernel_rfl) ?tq10_3 (Or.inl ⟨?tw10_3, ?ty10_3⟩) (by assumption) ?tr10_3
                          case th10_3 => (simp only [List.getElem?_toArray, List.getElem?_cons_zero, List.getElem?_cons_succ]; rfl)
                          case tq10_3 => exact fun _ _ _ h => h
                          case tw10_3 => rfl
                          case ty10_3 => (intro w' hSw; (try dsimp only at hSw); go_simp <;> with_reducible rfl)
                          try simp only [Act.put, List.setIfInBounds_toArray, List.set_cons_zero, List.set_cons_succ]
                          refine wpAnyH_take (i := 11) (oi := ?to11_3) (v := ?tv11_3) ?th11_3 (by kernel_rfl) (by kernel_rfl) (by kernel_rfl) ?tq11_3 (Or.inl ⟨?tw11_3, ?ty11_3⟩) (by assumption) ?tr11_3
                          case th11_3 => (simp only [List.getElem?_toArray, List.getElem?_cons_zero, List.getElem?_cons_succ]; rfl)
                          case tq11_3 => exact fun _ _ _ h => h
                          case tw11_3 => rfl
                          case ty11_3 => (intro w' hSw; (try dsimp only at hSw); go_simp <;> with_reducible rfl)
                          try simp only [Act.put, List.setIfInBounds_toArray, List.set_cons_zero, List.set_cons_succ]
                          refine wpAnyH_take (i := 12) (oi := ?to12_3) (v := ?tv12_3) ?th12_3 (by kernel_rfl) (by kernel_rfl) (by kernel_rfl) ?tq12_3 (Or.inl ⟨?tw12_3, ?ty12_3⟩) (by assumption) ?tr12_3
                          case th12_3 => (simp only [List.getElem?_toArray, List.getElem?_cons_zero, List.getElem?_cons_succ]; rfl)
                          case tq12_3 => exact fun _ _ _ h => h
                          case tw12_3 => rfl
                          case ty12_3 => (intro w' hSw; (try dsimp only at hSw); go_simp <;> with_reducible rfl)
                          try simp only [Act.put, List.setIfInBounds_toArray, List.set_cons_zero, List.set_cons_succ]
                          refine wpAnyH_take (i := 14) (oi := ?to14_3) (v := ?tv14_3) ?th14_3 (by kernel_rfl) (by kernel_rfl) (by kernel_rfl) ?tq14_3 (Or.inl ⟨?tw14_3, ?ty14_3⟩) (by assumption) ?tr14_3
                          case th14_3 => (simp only [List.getElem?_toArray, List.getElem?_cons_zero, List.getElem?_cons_succ]; rfl)
                          case tq14_3 => exact fun _ _ _ h => h
                          case tw14_3 => rfl
                          case ty14_3 => (intro w' hSw; (try dsimp only at hSw); go_simp <;> with_reducible rfl)
                          try simp only [Act.put, List.setIfInBounds_toArray, List.set_cons_zero, List.set_cons_succ]
                          refine wpAnyH_take (i := 15) (oi := ?to15_3) (v := ?tv15_3) ?th15_3 (by kernel_rfl) (by kernel_rfl) (by kernel_rfl) ?tq15_3 (Or.inl ⟨?tw15_3, ?ty15_3⟩) (by assumption) ?tr15_3
                          case th15_3 => (simp only [List.getElem?_toArray, List.getElem?_cons_zero, List.getElem?_cons_succ]; rfl)
                          case tq15_3 => exact fun _ _ _ h => h
                          case tw15_3 => rfl
                          case ty15_3 => (intro w' hSw; (try dsimp only at hSw); go_simp <;> with_reducible rfl)
                          try simp only [Act.put, List.setIfInBounds_toArray, List.set_cons_zero, List.set_cons_succ]
                          refine wpAnyH_take (i := 16) (oi := ?to16_3) (v := ?tv16_3) ?th16_3 (by kernel_rfl) (by kernel_rfl) (by kernel_rfl) ?tq16_3 (Or.inl ⟨?tw16_3, ?ty16_3⟩) (by assumption) ?tr16_3
                          case th16_3 => (simp only [List.getElem?_toArray, List.getElem?_cons_zero, List.getElem?_cons_succ]; rfl)
                          case tq16_3 => exact fun _ _ _ h => h
                          case tw16_3 => rfl
                          case ty16_3 => (intro w' hSw; (try dsimp only at hSw); go_simp <;> with_reducible rfl)
                          try simp only [Act.put, List.setIfInBounds_toArray, List.set_cons_zero, List.set_cons_succ]
                          refine wpAnyH_take (i := 17) (oi := ?to17_3) (v := ?tv17_3) ?th17_3 (by kernel_rfl) (by kernel_rfl) (by kernel_rfl) ?tq17_3 (Or.inl ⟨?tw17_3, ?ty17_3⟩) (by assumption) ?tr17_3
                          case th17_3 => (simp only [List.getElem?_toArray, List.getElem?_cons_zero, List.getElem?_cons_succ]; rfl)
                          case tq17_3 => exact fun _ _ _ h => h
                          case tw17_3 => rfl
                          case ty17_3 => (intro w' hSw; (try dsimp only at hSw); go_simp <;> with_reducible rfl)
                          try simp only [Act.put, List.setIfInBounds_toArray, List.set_cons_zero, List.set_cons_succ]
                          refine wpAnyH_ready (rs := [13]) (by kernel_rfl) (by simp) ?_
                          refine AllReadyH.cons (o := ?coa13) ?cha13 (fun K hK => ?csa13) ?cma13
                          case cha13 => (simp only [List.getElem?_toArray, List.getElem?_cons_zero, List.getElem?_cons_succ]; rfl)
                          case csa13 =>
                            go_simp
                            refine (tree_At (addTo L ⟨q1, q2, q3⟩) B F1 q2 _ hQ3.p w2).mono ?_
                            rintro e4 Y4 ⟨v4, rfl, o4, b4⟩
                            have hX4 := hX3.below b4
                            have hQ4 := hQ3.below b4
                            (try go_wp2_with fail)
                            refine hK.out _ _ hX4.2.2 (fun hHeld4 => ?_)
                            clear hK K
                            try simp only [Act.put, List.setIfInBounds_toArray, List.set_cons_zero, List.set_cons_succ]
                            refine wpAnyH_ready (rs := [18]) (by kernel_rfl) (by simp) ?_
                            refine AllReadyH.cons (o := ?coa18) ?cha18 (fun K hK => ?csa18) ?cma18
                            case cha18 => (simp only [List.getElem?_toArray, List.getElem?_cons_zero, List.getElem?_cons_succ]; rfl)
                            case csa18 =>
                              go_simp
                              refine (hQ4.rat q2).mono ?_
                              rintro e5 Y5 ⟨v5, rfl, o5, b5⟩
                              have hX5 := hX4.below b5
                              have hQ5 := hQ4.below b5
                              have o4a := ownsRow_carry o4 b5
                              (try go_wp2_with fail)
                              refine hK.out _ _ hX5.2.2 (fun hHeld5 => ?_)
                              clear hK K
                              try simp only [Act.put, List.setIfInBounds_toArray, List.set_cons_zero, List.set_cons_succ]
                              refine wpAnyH_ready (rs := [19]) (by kernel_rfl) (by simp) ?_
                              refine AllReadyH.cons (o := ?coa19) ?cha19 (fun K hK => ?csa19) ?cma19
                              case cha19 => (simp only [List.getElem?_toArray, List.getElem?_cons_zero, List.getElem?_cons_succ]; rfl)
                              case csa19 =>
                                go_simp
                                refine (same_own o4a o5 (by have := at_len' ((addTo L ⟨q1, q2, q3⟩)) q2; have := unhide HNL; rw [unhide HN] at *; omega)).mono ?_
                                rintro e6 Y6 ⟨rfl, b6⟩
                                have hX6 := hX5.below b6
                                have hQ6 := hQ5.below b6
                                (try go_wp2_with fail)
                                refine hK.out _ _ hX6.2.2 (fun hHeld6 => ?_)
                                clear hK K
                                try simp only [Act.put, List.setIfInBounds_toArray, List.set_cons_zero, List.set_cons_succ]
                                refine wpAnyH_take (i := 20) (oi := ?to20_4) (v := ?tv20_4) ?th20_4 (by kernel_rfl) (by kernel_rfl) (by kernel_rfl) ?tq20_4 (Or.inl ⟨?tw20_4, ?ty20_4⟩) (by assumption) ?tr20_4
                                case th20_4 => (simp only [List.getElem?_toArray, List.getElem?_cons_zero, List.getElem?_cons_succ]; rfl)
                                case tq20_4 => exact fun _ _ _ h => h
                                case tw20_4 => rfl
                                case ty20_4 => (intro w' hSw; (try dsimp only at hSw); go_simp <;> with_reducible rfl)
                                try simp only [Act.put, List.setIfInBounds_toArray, List.set_cons_zero, List.set_cons_succ]
                                refine wpAnyH_take (i := 21) (oi := ?to21_4) (v := ?tv21_4) ?th21_4 (by kernel_rfl) (by kernel_rfl) (by kernel_rfl) ?tq21_4 (Or.inl ⟨?tw21_4, ?ty21_4⟩) (by assumption) ?tr21_4
                                case th21_4 => (simp only [List.getElem?_toArray, List.getElem?_cons_zero, List.getElem?_cons_succ]; rfl)
                                case tq21_4 => exact fun _ _ _ h => h
                                case tw21_4 => rfl
                                case ty21_4 => (intro w' hSw; (try dsimp only at hSw); go_simp <;> with_reducible rfl)
                                try simp only [Act.put, List.setIfInBounds_toArray, List.set_cons_zero, List.set_cons_succ]
                                refine wpAnyH_take (i := 22) (oi := ?to22_4) (v := ?tv22_4) ?th22_4 (by kernel_rfl) (by kernel_rfl) (by kernel_rfl) ?tq22_4 (Or.inl ⟨?tw22_4, ?ty22_4⟩) (by assumption) ?tr22_4
                                case th22_4 => (simp only [List.getElem?_toArray, List.getElem?_cons_zero, List.getElem?_cons_succ]; rfl)
                                case tq22_4 => exact fun _ _ _ h => h
                                case tw22_4 => rfl
                                case ty22_4 => (intro w' hSw; (try dsimp only at hSw); go_simp <;> with_reducible rfl)
                                try simp only [Act.put, List.setIfInBounds_toArray, List.set_cons_zero, List.set_cons_succ]
                                refine wpAnyH_take (i := 24) (oi := ?to24_5) (v := ?tv24_5) ?th24_5 (by kernel_rfl) (by kernel_rfl) (by kernel_rfl) ?tq24_5 (Or.inl ⟨?tw24_5, ?ty24_5⟩) (by assumption) ?tr24_5
                                case th24_5 => (simp only [List.getElem?_toArray, List.getElem?_cons_zero, List.getElem?_cons_succ]; rfl)
                                case tq24_5 => exact fun _ _ _ h => h
                                case tw24_5 => rfl
                                case ty24_5 => (intro w' hSw; (try dsimp only at hSw); go_simp <;> with_reducible rfl)
                                try simp only [Act.put, List.setIfInBounds_toArray, List.set_cons_zero, List.set_cons_succ]
                                refine wpAnyH_ready (rs := [23]) (by kernel_rfl) (by simp) ?_
                                refine AllReadyH.cons (o := ?coa23) ?cha23 (fun K hK => ?csa23) ?cma23
                                case cha23 => (simp only [List.getElem?_toArray, List.getElem?_cons_zero, List.getElem?_cons_succ]; rfl)
                                case csa23 =>
                                  go_simp
                                  refine (unhide HMA _ hQ6.p).mono ?_
                                  rintro e7 Y7 ⟨rfl, hy7⟩
                                  have hX7 := hX6
                                  have hQ7 := hQ6
                                  rw [← hy7] at hX7 hQ7
                                  clear hy7
                                  (try go_wp2_with fail)
                                  refine hK.out _ _ hX7.2.2 (fun hHeld7 => ?_)
                                  clear hK K
                                  try simp only [Act.put, List.setIfInBounds_toArray, List.set_cons_zero, List.set_cons_succ]
                                  refine wpAnyH_take (i := 25) (oi := ?to25_6) (v := ?tv25_6) ?th25_6 (by kernel_rfl) (by kernel_rfl) (by kernel_rfl) ?tq25_6 (Or.inl ⟨?tw25_6, ?ty25_6⟩) (by assumption) ?tr25_6
                                  case th25_6 => (simp only [List.getElem?_toArray, List.getElem?_cons_zero, List.getElem?_cons_succ]; rfl)
                                  case tq25_6 => exact fun _ _ _ h => h
                                  case tw25_6 => rfl
                                  case ty25_6 => (intro w' hSw; (try dsimp only at hSw); go_simp <;> with_reducible rfl)
                                  try simp only [Act.put, List.setIfInBounds_toArray, List.set_cons_zero, List.set_cons_succ]
                                  refine wpAnyH_take (i := 26) (oi := ?to26_6) (v := ?tv26_6) ?th26_6 (by kernel_rfl) (by kernel_rfl) (by kernel_rfl) ?tq26_6 (Or.inl ⟨?tw26_6, ?ty26_6⟩) (by assumption) ?tr26_6
                                  case th26_6 => (simp only [List.getElem?_toArray, List.getElem?_cons_zero, List.getElem?_cons_succ]; rfl)
                                  case tq26_6 => exact fun _ _ _ h => h
                                  case tw26_6 => rfl
                                  case ty26_6 => (intro w' hSw; (try dsimp only at hSw); go_simp <;> with_reducible rfl)
                                  try simp only [Act.put, List.setIfInBounds_toArray, List.set_cons_zero, List.set_cons_succ]
                                  refine wpAnyH_take (i := 27) (oi := ?to27_6) (v := ?tv27_6) ?th27_6 (by kernel_rfl) (by kernel_rfl) (by kernel_rfl) ?tq27_6 (Or.inl ⟨?tw27_6, ?ty27_6⟩) (by assumption) ?tr27_6
                                  case th27_6 => (simp only [List.getElem?_toArray, List.getElem?_cons_zero, List.getElem?_cons_succ]; rfl)
                                  case tq27_6 => exact fun _ _ _ h => h
                                  case tw27_6 => rfl
                                  case ty27_6 => (intro w' hSw; (try dsimp only at hSw); go_simp <;> with_reducible rfl)
                                  try simp only [Act.put, List.setIfInBounds_toArray, List.set_cons_zero, List.set_cons_succ]
                                  refine wpAnyH_take (i := 29) (oi := ?to29_7) (v := ?tv29_7) ?th29_7 (by kernel_rfl) (by kernel_rfl) (by kernel_rfl) ?tq29_7 (Or.inl ⟨?tw29_7, ?ty29_7⟩) (by assumption) ?tr29_7
                                  case th29_7 => (simp only [List.getElem?_toArray, List.getElem?_cons_zero, List.getElem?_cons_succ]; rfl)
                                  case tq29_7 => exact fun _ _ _ h => h
                                  case tw29_7 => rfl
                                  case ty29_7 => (intro w' hSw; (try dsimp only at hSw); go_simp <;> with_reducible rfl)
                                  try simp only [Act.put, List.setIfInBounds_toArray, List.set_cons_zero, List.set_cons_succ]
                                  refine wpAnyH_ready (rs := [28]) (by kernel_rfl) (by simp) ?_
                                  refine AllReadyH.cons (o := ?coa28) ?cha28 (fun K hK => ?csa28) ?cma28
                                  case cha28 => (simp only [List.getElem?_toArray, List.getElem?_cons_zero, List.getElem?_cons_succ]; rfl)
                                  case csa28 =>
                                    go_simp
                                    refine (unhide HHI _ hQ7.p).mono ?_
                                    rintro e8 Y8 ⟨rfl, b8⟩
                                    have hX8 := hX7.below b8
                                    have hQ8 := hQ7.below b8
                                    (try go_wp2_with fail)
                                    refine hK.out _ _ hX8.2.2 (fun hHeld8 => ?_)
                                    clear hK K
                                    try simp only [Act.put, List.setIfInBounds_toArray, List.set_cons_zero, List.set_cons_succ]
                                    refine wpAnyH_take (i := 30) (oi := ?to30_8) (v := ?tv30_8) ?th30_8 (by kernel_rfl) (by kernel_rfl) (by kernel_rfl) ?tq30_8 (Or.inl ⟨?tw30_8, ?ty30_8⟩) (by assumption) ?tr30_8
                                    case th30_8 => (simp only [List.getElem?_toArray, List.getElem?_cons_zero, List.getElem?_cons_succ]; rfl)
                                    case tq30_8 => exact fun _ _ _ h => h
                                    case tw30_8 => rfl
                                    case ty30_8 => (intro w' hSw; (try dsimp only at hSw); go_simp <;> with_reducible rfl)
                                    try simp only [Act.put, List.setIfInBounds_toArray, List.set_cons_zero, List.set_cons_succ]
                                    refine wpAnyH_take (i := 31) (oi := ?to31_8) (v := ?tv31_8) ?th31_8 (by kernel_rfl) (by kernel_rfl) (by kernel_rfl) ?tq31_8 (Or.inl ⟨?tw31_8, ?ty31_8⟩) (by assumption) ?tr31_8
                                    case th31_8 => (simp only [List.getElem?_toArray, List.getElem?_cons_zero, List.getElem?_cons_succ]; rfl)
                                    case tq31_8 => exact fun _ _ _ h => h
                                    case tw31_8 => rfl
                                    case ty31_8 => (intro w' hSw; (try dsimp only at hSw); go_simp <;> with_reducible rfl)
                                    try simp only [Act.put, List.setIfInBounds_toArray, List.set_cons_zero, List.set_cons_succ]
                                    refine wpAnyH_take (i := 32) (oi := ?to32_8) (v := ?tv32_8) ?th32_8 (by kernel_rfl) (by kernel_rfl) (by kernel_rfl) ?tq32_8 (Or.inl ⟨?tw32_8, ?ty32_8⟩) (by assumption) ?tr32_8
                                    case th32_8 => (simp only [List.getElem?_toArray, List.getElem?_cons_zero, List.getElem?_cons_succ]; rfl)
                                    case tq32_8 => exact fun _ _ _ h => h
                                    case tw32_8 => rfl
                                    case ty32_8 => (intro w' hSw; (try dsimp only at hSw); go_simp <;> with_reducible rfl)
                                    try simp only [Act.put, List.setIfInBounds_toArray, List.set_cons_zero, List.set_cons_succ]
                                    refine wpAnyH_take (i := 33) (oi := ?to33_9) (v := ?tv33_9) ?th33_9 (by kernel_rfl) (by kernel_rfl) (by kernel_rfl) ?tq33_9 (Or.inl ⟨?tw33_9, ?ty33_9⟩) (by assumption) ?tr33_9
                                    case th33_9 => (simp only [List.getElem?_toArray, List.getElem?_cons_zero, List.getElem?_cons_succ]; rfl)
                                    case tq33_9 => exact fun _ _ _ h => h
                                    case tw33_9 => rfl
                                    case ty33_9 => (intro w' hSw; (try dsimp only at hSw); go_simp <;> with_reducible rfl)
                                    try simp only [Act.put, List.setIfInBounds_toArray, List.set_cons_zero, List.set_cons_succ]
                                    refine wpAnyH_take (i := 34) (oi := ?to34_9) (v := ?tv34_9) ?th34_9 (by kernel_rfl) (by kernel_rfl) (by kernel_rfl) ?tq34_9 (Or.inl ⟨?tw34_9, ?ty34_9⟩) (by assumption) ?tr34_9
                                    case th34_9 => (simp only [List.getElem?_toArray, List.getElem?_cons_zero, List.getElem?_cons_succ]; rfl)
                                    case tq34_9 => exact fun _ _ _ h => h
                                    case tw34_9 => rfl
                                    case ty34_9 => (intro w' hSw; (try dsimp only at hSw); go_simp <;> with_reducible rfl)
                                    try simp only [Act.put, List.setIfInBounds_toArray, List.set_cons_zero, List.set_cons_succ]
                                    refine wpAnyH_take (i := 35) (oi := ?to35_9) (v := ?tv35_9) ?th35_9 (by kernel_rfl) (by kernel_rfl) (by kernel_rfl) ?tq35_9 (Or.inl ⟨?tw35_9, ?ty35_9⟩) (by assumption) ?tr35_9
                                    case th35_9 => (simp only [List.getElem?_toArray, List.getElem?_cons_zero, List.getElem?_cons_succ]; rfl)
                                    case tq35_9 => exact fun _ _ _ h => h
                                    case tw35_9 => rfl
                                    case ty35_9 => (intro w' hSw; (try dsimp only at hSw); go_simp <;> with_reducible rfl)
                                    try simp only [Act.put, List.setIfInBounds_toArray, List.set_cons_zero, List.set_cons_succ]
                                    refine wpAnyH_done (by kernel_rfl) ?_ _
                                    show wpList _ _ _ _ _ _
                                    have HQ := hide hQ8
                                    clear hQ8 hQ7 hQ6 hQ5 hQ4 hQ3 hQ2 hQ1 hX8 hX7 hX6 hX5 hX4 hX3 hX2 hX1 o1 o2 o4 o5 o1a o4a
                                    go_wp2
                                    go_roundw
                                    case rel => exact ⟨j + 1, by omega, by go_num, _, _, unhide HQ⟩
                                    case measure => simp [intOf]; omega
                                  exact AllReadyH.nil
                                exact AllReadyH.nil
                              exact AllReadyH.nil
                            exact AllReadyH.nil
                          exact AllReadyH.nil
                        exact AllReadyH.nil
                      exact AllReadyH.nil
                    exact AllReadyH.nil
                  · have hNz' : ((N : Int) == 0) = false := by rw [beq_eq_false_iff_ne]; omega
                    have hNp : (0 : Int) < (N : Int) := by omega
                    have HMA : Hid (∀ x, PT x B ((addTo L ⟨q1, q2, q3⟩)) F1 → Calls Tryd.prog 49 #[.pointer (some ⟨B, 0, none⟩)] x fun e x' => e = .returned (.int .i64 N) ∧ x' = x) := fun x hx => by
                      have := tree_Many ((addTo L ⟨q1, q2, q3⟩)) B F1 x hx
                      rw [unhide HN] at this
                      exact this
                    obtain ⟨d, hd⟩ : ∃ d : Int, (bitsN N : Int) = d := ⟨_, rfl⟩
                    have hd1 : ¬ 2 * (a : Int) < d := by omega
                    have hd2 : ¬ d < 1 := by rw [← hd, bitsN_pos hNz]; omega
                    have hd3 : decide (2 * (a : Int) < d) = false := by simp; omega
                    have hd4 : decide (d < 1) = false := by simp; omega
                    have HHI : Hid (∀ x, PT x B ((addTo L ⟨q1, q2, q3⟩)) F1 → Calls Tryd.prog 50 #[.pointer (some ⟨B, 0, none⟩)] x fun e x' => e = .returned (.int .i64 d) ∧ Below x.heap.size x x') := fun x hx => by
                      have := tree_High ((addTo L ⟨q1, q2, q3⟩)) B F1 x hx
                      rw [unhide HN, hd] at this
                      exact this
                    clear hd
                    clear hab hbl hb2
                    go_wp2
                    refine wp_region_tail (fun x => x.cell? ⟨wr.heap.size, 2, none⟩ = some (.int .i64 q2) ∧ x.cell? ⟨wr.heap.size, 3, none⟩ = some (.int .i64 q3)) 36 (by kernel_rfl) (by kernel_rfl) (unhide HS0) (fun hHeld => ?_)
                    refine wpAnyH_take (i := 0) (oi := ?to0_10) (v := ?tv0_10) ?th0_10 (by kernel_rfl) (by kernel_rfl) (by kernel_rfl) ?tq0_10 (Or.inl ⟨?tw0_10, ?ty0_10⟩) (by assumption) ?tr0_10
                    case th0_10 => (simp only [List.getElem?_toArray, List.getElem?_cons_zero]; rfl)
                    case tq0_10 => exact fun _ _ _ h => h
                    case tw0_10 => rfl
                    case ty0_10 => (intro w' hSw; (try dsimp only at hSw); go_simp <;> with_reducible rfl)
                    try simp only [Act.put, List.setIfInBounds_toArray, List.set_cons_zero, List.set_cons_succ]
                    refine wpAnyH_take (i := 1) (oi := ?to1_10) (v := ?tv1_10) ?th1_10 (by kernel_rfl) (by kernel_rfl) (by kernel_rfl) ?tq1_10 (Or.inl ⟨?tw1_10, ?ty1_10⟩) (by assumption) ?tr1_10
                    case th1_10 => (simp only [List.getElem?_toArray, List.getElem?_cons_zero, List.getElem?_cons_succ]; rfl)
                    case tq1_10 => exact fun _ _ _ h => h
                    case tw1_10 => rfl
                    case ty1_10 => (intro w' hSw; (try dsimp only at hSw); go_simp <;> with_reducible rfl)
                    try simp only [Act.put, List.setIfInBounds_toArray, List.set_cons_zero, List.set_cons_succ]
                    refine wpAnyH_take (i := 3) (oi := ?to3_10) (v := ?tv3_10) ?th3_10 (by kernel_rfl) (by kernel_rfl) (by kernel_rfl) ?tq3_10 (Or.inl ⟨?tw3_10, ?ty3_10⟩) (by assumption) ?tr3_10
                    case th3_10 => (simp only [List.getElem?_toArray, List.getElem?_cons_zero, List.getElem?_cons_succ]; rfl)
                    case tq3_10 => exact fun _ _ _ h => h
                    case tw3_10 => rfl
                    case ty3_10 => (intro w' hSw; (try dsimp only at hSw); go_simp <;> with_reducible rfl)
                    try simp only [Act.put, List.setIfInBounds_toArray, List.set_cons_zero, List.set_cons_succ]
                    refine wpAnyH_take (i := 4) (oi := ?to4_10) (v := ?tv4_10) ?th4_10 (by kernel_rfl) (by kernel_rfl) (by kernel_rfl) ?tq4_10 (Or.inl ⟨?tw4_10, ?ty4_10⟩) (by assumption) ?tr4_10
                    case th4_10 => (simp only [List.getElem?_toArray, List.getElem?_cons_zero, List.getElem?_cons_succ]; rfl)
                    case tq4_10 => exact fun _ _ _ h => h
                    case tw4_10 => rfl
                    case ty4_10 => (intro w' hSw; (try dsimp only at hSw); go_simp <;> with_reducible rfl)
                    try simp only [Act.put, List.setIfInBounds_toArray, List.set_cons_zero, List.set_cons_succ]
                    refine wpAnyH_take (i := 5) (oi := ?to5_10) (v := ?tv5_10) ?th5_10 (by kernel_rfl) (by kernel_rfl) (by kernel_rfl) ?tq5_10 (Or.inl ⟨?tw5_10, ?ty5_10⟩) (by assumption) ?tr5_10
                    case th5_10 => (simp only [List.getElem?_toArray, List.getElem?_cons_zero, List.getElem?_cons_succ]; rfl)
                    case tq5_10 => exact fun _ _ _ h => h
                    case tw5_10 => rfl
                    case ty5_10 => (intro w' hSw; (try dsimp only at hSw); go_simp <;> with_reducible rfl)
                    try simp only [Act.put, List.setIfInBounds_toArray, List.set_cons_zero, List.set_cons_succ]
                    refine wpAnyH_ready (rs := [2]) (by kernel_rfl) (by simp) ?_
                    refine AllReadyH.cons (o := ?coan2) ?chan2 (fun K hK => ?csan2) ?cman2
                    case chan2 => (simp only [List.getElem?_toArray, List.getElem?_cons_zero, List.getElem?_cons_succ]; rfl)
                    case csan2 =>
                      go_simp
                      refine (tree_Meets (addTo L ⟨q1, q2, q3⟩) B F1 q2 q3 _ (unhide HQ0).p).mono ?_
                      rintro e1 Y1 ⟨v1, rfl, o1, b1⟩
                      have hX1 := (unhide HX0).below b1
                      have hQ1 := (unhide HQ0).below b1
                      (try go_wp2_with fail)
                      refine hK.out _ _ hX1.2.2 (fun hHeld1 => ?_)
                      clear hK K
                      try simp only [Act.put, List.setIfInBounds_toArray, List.set_cons_zero, List.set_cons_succ]
                      refine wpAnyH_ready (rs := [6]) (by kernel_rfl) (by simp) ?_
                      refine AllReadyH.cons (o := ?coan6) ?chan6 (fun K hK => ?csan6) ?cman6
                      case chan6 => (simp only [List.getElem?_toArray, List.getElem?_cons_zero, List.getElem?_cons_succ]; rfl)
                      case csan6 =>
                        go_simp
                        refine (hQ1.rmeets q2 q3).mono ?_
                        rintro e2 Y2 ⟨v2, rfl, o2, b2⟩
                        have hX2 := hX1.below b2
                        have hQ2 := hQ1.below b2
                        have o1a := ownsRow_carry o1 b2
                        (try go_wp2_with fail)
                        refine hK.out _ _ hX2.2.2 (fun hHeld2 => ?_)
                        clear hK K
                        try simp only [Act.put, List.setIfInBounds_toArray, List.set_cons_zero, List.set_cons_succ]
                        refine wpAnyH_ready (rs := [7]) (by kernel_rfl) (by simp) ?_
                        refine AllReadyH.cons (o := ?coan7) ?chan7 (fun K hK => ?csan7) ?cman7
                        case chan7 => (simp only [List.getElem?_toArray, List.getElem?_cons_zero, List.getElem?_cons_succ]; rfl)
                        case csan7 =>
                          go_simp
                          refine (same_own o1a o2 (by have := meets_len ((addTo L ⟨q1, q2, q3⟩)) q2 q3; have := unhide HNL; rw [unhide HN] at *; omega)).mono ?_
                          rintro e3 Y3 ⟨rfl, b3⟩
                          have hX3 := hX2.below b3
                          have hQ3 := hQ2.below b3
                          (try go_wp2_with fail)
                          refine hK.out _ _ hX3.2.2 (fun hHeld3 => ?_)
                          clear hK K
                          try simp only [Act.put, List.setIfInBounds_toArray, List.set_cons_zero, List.set_cons_succ]
                          refine wpAnyH_take (i := 8) (oi := ?to8_11) (v := ?tv8_11) ?th8_11 (by kernel_rfl) (by kernel_rfl) (by kernel_rfl) ?tq8_11 (Or.inl ⟨?tw8_11, ?ty8_11⟩) (by assumption) ?tr8_11
                          case th8_11 => (simp only [List.getElem?_toArray, List.getElem?_cons_zero, List.getElem?_cons_succ]; rfl)
                          case tq8_11 => exact fun _ _ _ h => h
                          case tw8_11 => rfl
                          case ty8_11 => (intro w' hSw; (try dsimp only at hSw); go_simp <;> with_reducible rfl)
                          try simp only [Act.put, List.setIfInBounds_toArray, List.set_cons_zero, List.set_cons_succ]
                          refine wpAnyH_take (i := 9) (oi := ?to9_11) (v := ?tv9_11) ?th9_11 (by kernel_rfl) (by kernel_rfl) (by kernel_rfl) ?tq9_11 (Or.inl ⟨?tw9_11, ?ty9_11⟩) (by assumption) ?tr9_11
                          case th9_11 => (simp only [List.getElem?_toArray, List.getElem?_cons_zero, List.getElem?_cons_succ]; rfl)
                          case tq9_11 => exact fun _ _ _ h => h
                          case tw9_11 => rfl
                          case ty9_11 => (intro w' hSw; (try dsimp only at hSw); go_simp <;> with_reducible rfl)
                          try simp only [Act.put, List.setIfInBounds_toArray, List.set_cons_zero, List.set_cons_succ]
                          refine wpAnyH_take (i := 10) (oi := ?to10_12) (v := ?tv10_12) ?th10_12 (by kernel_rfl) (by kernel_rfl) (by kernel_rfl) ?tq10_12 (Or.inl ⟨?tw10_12, ?ty10_12⟩) (by assumption) ?tr10_12
                          case th10_12 => (simp only [List.getElem?_toArray, List.getElem?_cons_zero, List.getElem?_cons_succ]; rfl)
                          case tq10_12 => exact fun _ _ _ h => h
                          case tw10_12 => rfl
                          case ty10_12 => (intro w' hSw; (try dsimp only at hSw); go_simp <;> with_reducible rfl)
                          try simp only [Act.put, List.setIfInBounds_toArray, List.set_cons_zero, List.set_cons_succ]
                          refine wpAnyH_take (i := 11) (oi := ?to11_12) (v := ?tv11_12) ?th11_12 (by kernel_rfl) (by kernel_rfl) (by kernel_rfl) ?tq11_12 (Or.inl ⟨?tw11_12, ?ty11_12⟩) (by assumption) ?tr11_12
                          case th11_12 => (simp only [List.getElem?_toArray, List.getElem?_cons_zero, List.getElem?_cons_succ]; rfl)
                          case tq11_12 => exact fun _ _ _ h => h
                          case tw11_12 => rfl
                          case ty11_12 => (intro w' hSw; (try dsimp only at hSw); go_simp <;> with_reducible rfl)
                          try simp only [Act.put, List.setIfInBounds_toArray, List.set_cons_zero, List.set_cons_succ]
                          refine wpAnyH_take (i := 12) (oi := ?to12_12) (v := ?tv12_12) ?th12_12 (by kernel_rfl) (by kernel_rfl) (by kernel_rfl) ?tq12_12 (Or.inl ⟨?tw12_12, ?ty12_12⟩) (by assumption) ?tr12_12
                          case th12_12 => (simp only [List.getElem?_toArray, List.getElem?_cons_zero, List.getElem?_cons_succ]; rfl)
                          case tq12_12 => exact fun _ _ _ h => h
                          case tw12_12 => rfl
                          case ty12_12 => (intro w' hSw; (try dsimp only at hSw); go_simp <;> with_reducible rfl)
                          try simp only [Act.put, List.setIfInBounds_toArray, List.set_cons_zero, List.set_cons_succ]
                          refine wpAnyH_take (i := 14) (oi := ?to14_12) (v := ?tv14_12) ?th14_12 (by kernel_rfl) (by kernel_rfl) (by kernel_rfl) ?tq14_12 (Or.inl ⟨?tw14_12, ?ty14_12⟩) (by assumption) ?tr14_12
                          case th14_12 => (simp only [List.getElem?_toArray, List.getElem?_cons_zero, List.getElem?_cons_succ]; rfl)
                          case tq14_12 => exact fun _ _ _ h => h
                          case tw14_12 => rfl
                          case ty14_12 => (intro w' hSw; (try dsimp only at hSw); go_simp <;> with_reducible rfl)
                          try simp only [Act.put, List.setIfInBounds_toArray, List.set_cons_zero, List.set_cons_succ]
                          refine wpAnyH_take (i := 15) (oi := ?to15_12) (v := ?tv15_12) ?th15_12 (by kernel_rfl) (by kernel_rfl) (by kernel_rfl) ?tq15_12 (Or.inl ⟨?tw15_12, ?ty15_12⟩) (by assumption) ?tr15_12
                          case th15_12 => (simp only [List.getElem?_toArray, List.getElem?_cons_zero, List.getElem?_cons_succ]; rfl)
                          case tq15_12 => exact fun _ _ _ h => h
                          case tw15_12 => rfl
                          case ty15_12 => (intro w' hSw; (try dsimp only at hSw); go_simp <;> with_reducible rfl)
                          try simp only [Act.put, List.setIfInBounds_toArray, List.set_cons_zero, List.set_cons_succ]
                          refine wpAnyH_take (i := 16) (oi := ?to16_12) (v := ?tv16_12) ?th16_12 (by kernel_rfl) (by kernel_rfl) (by kernel_rfl) ?tq16_12 (Or.inl ⟨?tw16_12, ?ty16_12⟩) (by assumption) ?tr16_12
                          case th16_12 => (simp only [List.getElem?_toArray, List.getElem?_cons_zero, List.getElem?_cons_succ]; rfl)
                          case tq16_12 => exact fun _ _ _ h => h
                          case tw16_12 => rfl
                          case ty16_12 => (intro w' hSw; (try dsimp only at hSw); go_simp <;> with_reducible rfl)
                          try simp only [Act.put, List.setIfInBounds_toArray, List.set_cons_zero, List.set_cons_succ]
                          refine wpAnyH_take (i := 17) (oi := ?to17_12) (v := ?tv17_12) ?th17_12 (by kernel_rfl) (by kernel_rfl) (by kernel_rfl) ?tq17_12 (Or.inl ⟨?tw17_12, ?ty17_12⟩) (by assumption) ?tr17_12
                          case th17_12 => (simp only [List.getElem?_toArray, List.getElem?_cons_zero, List.getElem?_cons_succ]; rfl)
                          case tq17_12 => exact fun _ _ _ h => h
                          case tw17_12 => rfl
                          case ty17_12 => (intro w' hSw; (try dsimp only at hSw); go_simp <;> with_reducible rfl)
                          try simp only [Act.put, List.setIfInBounds_toArray, List.set_cons_zero, List.set_cons_succ]
                          refine wpAnyH_ready (rs := [13]) (by kernel_rfl) (by simp) ?_
                          refine AllReadyH.cons (o := ?coan13) ?chan13 (fun K hK => ?csan13) ?cman13
                          case chan13 => (simp only [List.getElem?_toArray, List.getElem?_cons_zero, List.getElem?_cons_succ]; rfl)
                          case csan13 =>
                            go_simp
                            refine (tree_At (addTo L ⟨q1, q2, q3⟩) B F1 q2 _ hQ3.p w2).mono ?_
                            rintro e4 Y4 ⟨v4, rfl, o4, b4⟩
                            have hX4 := hX3.below b4
                            have hQ4 := hQ3.below b4
                            (try go_wp2_with fail)
                            refine hK.out _ _ hX4.2.2 (fun hHeld4 => ?_)
                            clear hK K
                            try simp only [Act.put, List.setIfInBounds_toArray, List.set_cons_zero, List.set_cons_succ]
                            refine wpAnyH_ready (rs := [18]) (by kernel_rfl) (by simp) ?_
                            refine AllReadyH.cons (o := ?coan18) ?chan18 (fun K hK => ?csan18) ?cman18
                            case chan18 => (simp only [List.getElem?_toArray, List.getElem?_cons_zero, List.getElem?_cons_succ]; rfl)
                            case csan18 =>
                              go_simp
                              refine (hQ4.rat q2).mono ?_
                              rintro e5 Y5 ⟨v5, rfl, o5, b5⟩
                              have hX5 := hX4.below b5
                              have hQ5 := hQ4.below b5
                              have o4a := ownsRow_carry o4 b5
                              (try go_wp2_with fail)
                              refine hK.out _ _ hX5.2.2 (fun hHeld5 => ?_)
                              clear hK K
                              try simp only [Act.put, List.setIfInBounds_toArray, List.set_cons_zero, List.set_cons_succ]
                              refine wpAnyH_ready (rs := [19]) (by kernel_rfl) (by simp) ?_
                              refine AllReadyH.cons (o := ?coan19) ?chan19 (fun K hK => ?csan19) ?cman19
                              case chan19 => (simp only [List.getElem?_toArray, List.getElem?_cons_zero, List.getElem?_cons_succ]; rfl)
                              case csan19 =>
                                go_simp
                                refine (same_own o4a o5 (by have := at_len' ((addTo L ⟨q1, q2, q3⟩)) q2; have := unhide HNL; rw [unhide HN] at *; omega)).mono ?_
                                rintro e6 Y6 ⟨rfl, b6⟩
                                have hX6 := hX5.below b6
                                have hQ6 := hQ5.below b6
                                (try go_wp2_with fail)
                                refine hK.out _ _ hX6.2.2 (fun hHeld6 => ?_)
                                clear hK K
                                try simp only [Act.put, List.setIfInBounds_toArray, List.set_cons_zero, List.set_cons_succ]
                                refine wpAnyH_take (i := 20) (oi := ?to20_13) (v := ?tv20_13) ?th20_13 (by kernel_rfl) (by kernel_rfl) (by kernel_rfl) ?tq20_13 (Or.inl ⟨?tw20_13, ?ty20_13⟩) (by assumption) ?tr20_13
                                case th20_13 => (simp only [List.getElem?_toArray, List.getElem?_cons_zero, List.getElem?_cons_succ]; rfl)
                                case tq20_13 => exact fun _ _ _ h => h
                                case tw20_13 => rfl
                                case ty20_13 => (intro w' hSw; (try dsimp only at hSw); go_simp <;> with_reducible rfl)
                                try simp only [Act.put, List.setIfInBounds_toArray, List.set_cons_zero, List.set_cons_succ]
                                refine wpAnyH_take (i := 21) (oi := ?to21_13) (v := ?tv21_13) ?th21_13 (by kernel_rfl) (by kernel_rfl) (by kernel_rfl) ?tq21_13 (Or.inl ⟨?tw21_13, ?ty21_13⟩) (by assumption) ?tr21_13
                                case th21_13 => (simp only [List.getElem?_toArray, List.getElem?_cons_zero, List.getElem?_cons_succ]; rfl)
                                case tq21_13 => exact fun _ _ _ h => h
                                case tw21_13 => rfl
                                case ty21_13 => (intro w' hSw; (try dsimp only at hSw); go_simp <;> with_reducible rfl)
                                try simp only [Act.put, List.setIfInBounds_toArray, List.set_cons_zero, List.set_cons_succ]
                                refine wpAnyH_take (i := 22) (oi := ?to22_13) (v := ?tv22_13) ?th22_13 (by kernel_rfl) (by kernel_rfl) (by kernel_rfl) ?tq22_13 (Or.inl ⟨?tw22_13, ?ty22_13⟩) (by assumption) ?tr22_13
                                case th22_13 => (simp only [List.getElem?_toArray, List.getElem?_cons_zero, List.getElem?_cons_succ]; rfl)
                                case tq22_13 => exact fun _ _ _ h => h
                                case tw22_13 => rfl
                                case ty22_13 => (intro w' hSw; (try dsimp only at hSw); go_simp <;> with_reducible rfl)
                                try simp only [Act.put, List.setIfInBounds_toArray, List.set_cons_zero, List.set_cons_succ]
                                refine wpAnyH_take (i := 24) (oi := ?to24_14) (v := ?tv24_14) ?th24_14 (by kernel_rfl) (by kernel_rfl) (by kernel_rfl) ?tq24_14 (Or.inl ⟨?tw24_14, ?ty24_14⟩) (by assumption) ?tr24_14
                                case th24_14 => (simp only [List.getElem?_toArray, List.getElem?_cons_zero, List.getElem?_cons_succ]; rfl)
                                case tq24_14 => exact fun _ _ _ h => h
                                case tw24_14 => rfl
                                case ty24_14 => (intro w' hSw; (try dsimp only at hSw); go_simp <;> with_reducible rfl)
                                try simp only [Act.put, List.setIfInBounds_toArray, List.set_cons_zero, List.set_cons_succ]
                                refine wpAnyH_ready (rs := [23]) (by kernel_rfl) (by simp) ?_
                                refine AllReadyH.cons (o := ?coan23) ?chan23 (fun K hK => ?csan23) ?cman23
                                case chan23 => (simp only [List.getElem?_toArray, List.getElem?_cons_zero, List.getElem?_cons_succ]; rfl)
                                case csan23 =>
                                  go_simp
                                  refine (unhide HMA _ hQ6.p).mono ?_
                                  rintro e7 Y7 ⟨rfl, hy7⟩
                                  have hX7 := hX6
                                  have hQ7 := hQ6
                                  rw [← hy7] at hX7 hQ7
                                  clear hy7
                                  (try go_wp2_with fail)
                                  refine hK.out _ _ hX7.2.2 (fun hHeld7 => ?_)
                                  clear hK K
                                  try simp only [Act.put, List.setIfInBounds_toArray, List.set_cons_zero, List.set_cons_succ]
                                  refine wpAnyH_take (i := 25) (oi := ?to25_15) (v := ?tv25_15) ?th25_15 (by kernel_rfl) (by kernel_rfl) (by kernel_rfl) ?tq25_15 (Or.inl ⟨?tw25_15, ?ty25_15⟩) (by assumption) ?tr25_15
                                  case th25_15 => (simp only [List.getElem?_toArray, List.getElem?_cons_zero, List.getElem?_cons_succ]; rfl)
                                  case tq25_15 => exact fun _ _ _ h => h
                                  case tw25_15 => rfl
                                  case ty25_15 => (intro w' hSw; (try dsimp only at hSw); go_simp <;> with_reducible rfl)
                                  try simp only [Act.put, List.setIfInBounds_toArray, List.set_cons_zero, List.set_cons_succ]
                                  refine wpAnyH_take (i := 26) (oi := ?to26_15) (v := ?tv26_15) ?th26_15 (by kernel_rfl) (by kernel_rfl) (by kernel_rfl) ?tq26_15 (Or.inl ⟨?tw26_15, ?ty26_15⟩) (by assumption) ?tr26_15
                                  case th26_15 => (simp only [List.getElem?_toArray, List.getElem?_cons_zero, List.getElem?_cons_succ]; rfl)
                                  case tq26_15 => exact fun _ _ _ h => h
                                  case tw26_15 => rfl
                                  case ty26_15 => (intro w' hSw; (try dsimp only at hSw); go_simp <;> with_reducible rfl)
                                  try simp only [Act.put, List.setIfInBounds_toArray, List.set_cons_zero, List.set_cons_succ]
                                  refine wpAnyH_take (i := 27) (oi := ?to27_15) (v := ?tv27_15) ?th27_15 (by kernel_rfl) (by kernel_rfl) (by kernel_rfl) ?tq27_15 (Or.inl ⟨?tw27_15, ?ty27_15⟩) (by assumption) ?tr27_15
                                  case th27_15 => (simp only [List.getElem?_toArray, List.getElem?_cons_zero, List.getElem?_cons_succ]; rfl)
                                  case tq27_15 => exact fun _ _ _ h => h
                                  case tw27_15 => rfl
                                  case ty27_15 => (intro w' hSw; (try dsimp only at hSw); go_simp <;> with_reducible rfl)
                                  try simp only [Act.put, List.setIfInBounds_toArray, List.set_cons_zero, List.set_cons_succ]
                                  refine wpAnyH_take (i := 29) (oi := ?to29_16) (v := ?tv29_16) ?th29_16 (by kernel_rfl) (by kernel_rfl) (by kernel_rfl) ?tq29_16 (Or.inl ⟨?tw29_16, ?ty29_16⟩) (by assumption) ?tr29_16
                                  case th29_16 => (simp only [List.getElem?_toArray, List.getElem?_cons_zero, List.getElem?_cons_succ]; rfl)
                                  case tq29_16 => exact fun _ _ _ h => h
                                  case tw29_16 => rfl
                                  case ty29_16 => (intro w' hSw; (try dsimp only at hSw); go_simp <;> with_reducible rfl)
                                  try simp only [Act.put, List.setIfInBounds_toArray, List.set_cons_zero, List.set_cons_succ]
                                  refine wpAnyH_ready (rs := [28]) (by kernel_rfl) (by simp) ?_
                                  refine AllReadyH.cons (o := ?coan28) ?chan28 (fun K hK => ?csan28) ?cman28
                                  case chan28 => (simp only [List.getElem?_toArray, List.getElem?_cons_zero, List.getElem?_cons_succ]; rfl)
                                  case csan28 =>
                                    go_simp
                                    refine (unhide HHI _ hQ7.p).mono ?_
                                    rintro e8 Y8 ⟨rfl, b8⟩
                                    have hX8 := hX7.below b8
                                    have hQ8 := hQ7.below b8
                                    (try go_wp2_with fail)
                                    refine hK.out _ _ hX8.2.2 (fun hHeld8 => ?_)
                                    clear hK K
                                    try simp only [Act.put, List.setIfInBounds_toArray, List.set_cons_zero, List.set_cons_succ]
                                    refine wpAnyH_take (i := 30) (oi := ?to30_17) (v := ?tv30_17) ?th30_17 (by kernel_rfl) (by kernel_rfl) (by kernel_rfl) ?tq30_17 (Or.inl ⟨?tw30_17, ?ty30_17⟩) (by assumption) ?tr30_17
                                    case th30_17 => (simp only [List.getElem?_toArray, List.getElem?_cons_zero, List.getElem?_cons_succ]; rfl)
                                    case tq30_17 => exact fun _ _ _ h => h
                                    case tw30_17 => rfl
                                    case ty30_17 => (intro w' hSw; (try dsimp only at hSw); go_simp <;> with_reducible rfl)
                                    try simp only [Act.put, List.setIfInBounds_toArray, List.set_cons_zero, List.set_cons_succ]
                                    refine wpAnyH_take (i := 31) (oi := ?to31_17) (v := ?tv31_17) ?th31_17 (by kernel_rfl) (by kernel_rfl) (by kernel_rfl) ?tq31_17 (Or.inl ⟨?tw31_17, ?ty31_17⟩) (by assumption) ?tr31_17
                                    case th31_17 => (simp only [List.getElem?_toArray, List.getElem?_cons_zero, List.getElem?_cons_succ]; rfl)
                                    case tq31_17 => exact fun _ _ _ h => h
                                    case tw31_17 => rfl
                                    case ty31_17 => (intro w' hSw; (try dsimp only at hSw); go_simp <;> with_reducible rfl)
                                    try simp only [Act.put, List.setIfInBounds_toArray, List.set_cons_zero, List.set_cons_succ]
                                    refine wpAnyH_take (i := 32) (oi := ?to32_17) (v := ?tv32_17) ?th32_17 (by kernel_rfl) (by kernel_rfl) (by kernel_rfl) ?tq32_17 (Or.inl ⟨?tw32_17, ?ty32_17⟩) (by assumption) ?tr32_17
                                    case th32_17 => (simp only [List.getElem?_toArray, List.getElem?_cons_zero, List.getElem?_cons_succ]; rfl)
                                    case tq32_17 => exact fun _ _ _ h => h
                                    case tw32_17 => rfl
                                    case ty32_17 => (intro w' hSw; (try dsimp only at hSw); go_simp <;> with_reducible rfl)
                                    try simp only [Act.put, List.setIfInBounds_toArray, List.set_cons_zero, List.set_cons_succ]
                                    refine wpAnyH_take (i := 33) (oi := ?to33_18) (v := ?tv33_18) ?th33_18 (by kernel_rfl) (by kernel_rfl) (by kernel_rfl) ?tq33_18 (Or.inl ⟨?tw33_18, ?ty33_18⟩) (by assumption) ?tr33_18
                                    case th33_18 => (simp only [List.getElem?_toArray, List.getElem?_cons_zero, List.getElem?_cons_succ]; rfl)
                                    case tq33_18 => exact fun _ _ _ h => h
                                    case tw33_18 => rfl
                                    case ty33_18 => (intro w' hSw; (try dsimp only at hSw); go_simp <;> with_reducible rfl)
                                    try simp only [Act.put, List.setIfInBounds_toArray, List.set_cons_zero, List.set_cons_succ]
                                    refine wpAnyH_take (i := 34) (oi := ?to34_18) (v := ?tv34_18) ?th34_18 (by kernel_rfl) (by kernel_rfl) (by kernel_rfl) ?tq34_18 (Or.inl ⟨?tw34_18, ?ty34_18⟩) (by assumption) ?tr34_18
                                    case th34_18 => (simp only [List.getElem?_toArray, List.getElem?_cons_zero, List.getElem?_cons_succ]; rfl)
                                    case tq34_18 => exact fun _ _ _ h => h
                                    case tw34_18 => rfl
                                    case ty34_18 => (intro w' hSw; (try dsimp only at hSw); go_simp <;> with_reducible rfl)
                                    try simp only [Act.put, List.setIfInBounds_toArray, List.set_cons_zero, List.set_cons_succ]
                                    refine wpAnyH_take (i := 35) (oi := ?to35_18) (v := ?tv35_18) ?th35_18 (by kernel_rfl) (by kernel_rfl) (by kernel_rfl) ?tq35_18 (Or.inl ⟨?tw35_18, ?ty35_18⟩) (by assumption) ?tr35_18
                                    case th35_18 => (simp only [List.getElem?_toArray, List.getElem?_cons_zero, List.getElem?_cons_succ]; rfl)
                                    case tq35_18 => exact fun _ _ _ h => h
                                    case tw35_18 => rfl
                                    case ty35_18 => (intro w' hSw; (try dsimp only at hSw); go_simp <;> with_reducible rfl)
                                    try simp only [Act.put, List.setIfInBounds_toArray, List.set_cons_zero, List.set_cons_succ]
                                    refine wpAnyH_done (by kernel_rfl) ?_ _
                                    show wpList _ _ _ _ _ _
                                    have HQ := hide hQ8
                                    clear hQ8 hQ7 hQ6 hQ5 hQ4 hQ3 hQ2 hQ1 hX8 hX7 hX6 hX5 hX4 hX3 hX2 hX1 o1 o2 o4 o5 o1a o4a
                                    go_wp2_with (go_at_call 50; refine (unhide HHI _ (unhide HQ).p).mono ?_; rintro e9 Y9 ⟨rfl, b9⟩; have HQ9 := hide ((unhide HQ).below b9); clear b9)
                                    go_roundw
                                    case rel => exact ⟨j + 1, by omega, by go_num, _, _, unhide HQ9⟩
                                    case measure => simp [intOf]; omega
                                  exact AllReadyH.nil
                                exact AllReadyH.nil
                              exact AllReadyH.nil
                            exact AllReadyH.nil
                          exact AllReadyH.nil
                        exact AllReadyH.nil
                      exact AllReadyH.nil
                    exact AllReadyH.nil
                · have hm' : (0 : Int) < (m : Int) := by omega
                  obtain ⟨m2, hm2⟩ : ∃ m2, m / 2 = m2 := ⟨_, rfl⟩
                  have hq : (m : Int) / 2 = (m2 : Int) := by omega
                  have HE : Hid (a + 1 + bitsN m2 = bitsN (N + 1)) := by unfold Hid; rw [← hab, bitsN_pos hm, hm2]; omega
                  have ha : (a : Int) ≤ 4001 := by omega
                  clear hab hbl
                  go_wp2
                  go_roundw
                  case rel => exact ⟨a + 1, m2, by go_num, by first | rfl | go_num, unhide HE, by omega, by first | rfl | trivial⟩
                  case measure => simp [intOf]; omega
            · by_cases ha1 : q0 = 1
              · subst ha1
                clear ha0
                go_wp2_with (first
                  | (go_at_call 40; refine (unhide HR1).mono ?_; rintro e1 X1 ⟨rfl, hB1⟩; have HT1 := hide (((unhide HT0).below hB1).below (below_box X1 (.cells #[.int .i64 s0, .int .i64 s1] 29))); have HX1 := hide (((unhide HP0).below hB1).below (below_box X1 (.cells #[.int .i64 s0, .int .i64 s1] 29))); have HY1 : Hid (BoxS X1.heap.size s0 s1 (X1.alloc (.cells #[.int .i64 s0, .int .i64 s1] 29))) := ⟨by simp, by simp⟩; have e11 := (unhide HX1).2.1; clear hB1)
                  | (go_at_call 41; refine (unhide HP1 _ (unhide HT1).p).mono ?_; rintro e2 X2 ⟨rfl, hB2⟩; have HT2 := hide (((unhide HT1).below hB2).below (below_box X2 (.cells #[.int .i64 s0, .int .i64 s1] 29))); have HX2 := hide (((unhide HX1).below hB2).below (below_box X2 (.cells #[.int .i64 s0, .int .i64 s1] 29))); have HY2 := hide (((unhide HY1).below hB2).below (below_box X2 (.cells #[.int .i64 s0, .int .i64 s1] 29))); have HZ2 : Hid (BoxS X2.heap.size s0 s1 (X2.alloc (.cells #[.int .i64 s0, .int .i64 s1] 29))) := ⟨by simp, by simp⟩; clear hB2 e11)
                  | (go_at_call 22; refine (bare_err _ _ ((unhide HG).carry (unhide HT2).b)).mono ?_; rintro e3 X3 ⟨rfl, hB3⟩; have HT3 := hide ((unhide HT2).below hB3); have HX3 := hide ((unhide HX2).below hB3); have y0 := ((unhide HY2).below hB3).1; have y1 := ((unhide HY2).below hB3).2; have z0 := ((unhide HZ2).below hB3).1; have z1 := ((unhide HZ2).below hB3).2; have e30 := (unhide HX3).1; clear hB3))
                have HT4 := hide ((unhide HT3).below (below_drew X3))
                have HX4 := hide ((unhide HX3).below (below_drew X3))
                go_region_held3 (fun x => x.cell? ⟨wr.heap.size, 1, none⟩ = some (.int .i64 q1))
                  (first | exact hS3.2.1 | exact hS2.2.1 | exact hS1.2.1 | exact (unhide HX4).2.1)
                  (first
                    | (go_at_call 22; refine (bare_err _ _ ((unhide HG).carry hT2.b)).mono ?_; rintro f3 Z3 ⟨rfl, hB3⟩; have hS3 := hS2.below hB3)
                    | (go_at_call 43; refine (hH1.drop (unhide HRI) (unhide HLE)).mono ?_; rintro f2 Z2 ⟨rfl, hT2, hG2⟩; have hS2 := hS1.keeps (grown_keeps hG2) (unhide HNR))
                    | (go_at_call 42; refine (tree_Drop L B F q1 _ (unhide HT4).p w1).mono ?_; rintro f1 Z1 ⟨rfl, ht1⟩; obtain ⟨F1, hH1, hF1, hK1⟩ := (unhide HT4).turned ht1; have hS1 := (unhide HX4).keeps hK1 (unhide HNF); clear ht1))
                rename_i hh
                have HT6 := hide (hT2.below hB3)
                have HX6 := hide hS3
                clear hh hS3 hS2 hS1 hT2 hH1 hK1 hF1 hG2 hB3 HT4 HX4 HT3 HX3 HNF HNR HRI HLE
                generalize errV (dropErr L q1) = zz1
                generalize dropErr L q1 = zz2
                obtain ⟨ai, ci, r0⟩ := (unhide HT6).ids
                have HNL := hide (unhide HT6).p.len
                obtain ⟨N, hN⟩ : ∃ N, ((dropTo L q1)).length = N := ⟨_, rfl⟩
                rw [hN] at r0 HNL
                have HN := hide hN
                have hN4 : (N : Int) ≤ 4000 := by have := unhide HNL; omega
                have hN0 : (0 : Int) ≤ (N : Int) := by omega
                clear hN
                go_wp2
                go_loopw [16, 17] (fun u v x => ∃ a m : Nat, u = .int .i64 a ∧ v = .int .i64 m ∧ a + bitsN m = bitsN (N + 1) ∧ m ≤ N + 1 ∧ x = Z3) (fun _ v _ => (intOf v).toNat)
                case atStart => exact ⟨0, N + 1, rfl, by go_num, by omega, Nat.le_refl _, rfl⟩
                case round =>
                  obtain ⟨a, m, rfl, rfl, hab, hmN, hwx⟩ := hrel
                  have hwx2 := hwx.symm
                  clear hwx
                  subst hwx2
                  have hbl := bitsN_le (N + 1)
                  by_cases hm : m = 0
                  · subst hm
                    rw [bitsN_zero, Nat.add_zero] at hab
                    have hm0 : ¬ (0 : Int) < ((0 : Nat) : Int) := by omega
                    have ha : (a : Int) ≤ 4001 := by omega
                    have HAB := hide hab
                    have HS0 := hide ((unhide HX6).below (below_drew Z3)).2.2
                    have HQ0 := hide ((unhide HT6).below (below_drew Z3))
                    have HX0 := hide ((unhide HX6).below (below_drew Z3))
                    have hb2 : bitsN N ≤ a := by rw [hab]; exact bitsN_mono (N + 1) N (by omega)
                    by_cases hNz : N = 0
                    · subst hNz
                      have hNz' : (((0 : Nat) : Int) == 0) = true := by decide
                      have hbz := bitsN_zero
                      have HMA : Hid (∀ x, PT x B ((dropTo L q1)) F1 → Calls Tryd.prog 49 #[.pointer (some ⟨B, 0, none⟩)] x fun e x' => e = .returned (.int .i64 0) ∧ x' = x) := fun x hx => by
                        have := tree_Many ((dropTo L q1)) B F1 x hx
                        rw [unhide HN] at this
                        exact this
                      have HHI : Hid (∀ x, PT x B ((dropTo L q1)) F1 → Calls Tryd.prog 50 #[.pointer (some ⟨B, 0, none⟩)] x fun e x' => e = .returned (.int .i64 0) ∧ Below x.heap.size x x') := fun x hx => by
                        have := tree_High ((dropTo L q1)) B F1 x hx
                        rw [unhide HN, hbz] at this
                        exact this
                      clear hab hbl hb2
                      go_wp2
                      refine wp_region_tail (fun x => x.cell? ⟨wr.heap.size, 2, none⟩ = some (.int .i64 q2) ∧ x.cell? ⟨wr.heap.size, 3, none⟩ = some (.int .i64 q3)) 36 (by kernel_rfl) (by kernel_rfl) (unhide HS0) (fun hHeld => ?_)
                      refine wpAnyH_take (i := 0) (oi := ?to0_19) (v := ?tv0_19) ?th0_19 (by kernel_rfl) (by kernel_rfl) (by kernel_rfl) ?tq0_19 (Or.inl ⟨?tw0_19, ?ty0_19⟩) (by assumption) ?tr0_19
                      case th0_19 => (simp only [List.getElem?_toArray, List.getElem?_cons_zero]; rfl)
                      case tq0_19 => exact fun _ _ _ h => h
                      case tw0_19 => rfl
                      case ty0_19 => (intro w' hSw; (try dsimp only at hSw); go_simp <;> with_reducible rfl)
                      try simp only [Act.put, List.setIfInBounds_toArray, List.set_cons_zero, List.set_cons_succ]
                      refine wpAnyH_take (i := 1) (oi := ?to1_19) (v := ?tv1_19) ?th1_19 (by kernel_rfl) (by kernel_rfl) (by kernel_rfl) ?tq1_19 (Or.inl ⟨?tw1_19, ?ty1_19⟩) (by assumption) ?tr1_19
                      case th1_19 => (simp only [List.getElem?_toArray, List.getElem?_cons_zero, List.getElem?_cons_succ]; rfl)
                      case tq1_19 => exact fun _ _ _ h => h
                      case tw1_19 => rfl
                      case ty1_19 => (intro w' hSw; (try dsimp only at hSw); go_simp <;> with_reducible rfl)
                      try simp only [Act.put, List.setIfInBounds_toArray, List.set_cons_zero, List.set_cons_succ]
                      refine wpAnyH_take (i := 3) (oi := ?to3_19) (v := ?tv3_19) ?th3_19 (by kernel_rfl) (by kernel_rfl) (by kernel_rfl) ?tq3_19 (Or.inl ⟨?tw3_19, ?ty3_19⟩) (by assumption) ?tr3_19
                      case th3_19 => (simp only [List.getElem?_toArray, List.getElem?_cons_zero, List.getElem?_cons_succ]; rfl)
                      case tq3_19 => exact fun _ _ _ h => h
                      case tw3_19 => rfl
                      case ty3_19 => (intro w' hSw; (try dsimp only at hSw); go_simp <;> with_reducible rfl)
                      try simp only [Act.put, List.setIfInBounds_toArray, List.set_cons_zero, List.set_cons_succ]
                      refine wpAnyH_take (i := 4) (oi := ?to4_19) (v := ?tv4_19) ?th4_19 (by kernel_rfl) (by kernel_rfl) (by kernel_rfl) ?tq4_19 (Or.inl ⟨?tw4_19, ?ty4_19⟩) (by assumption) ?tr4_19
                      case th4_19 => (simp only [List.getElem?_toArray, List.getElem?_cons_zero, List.getElem?_cons_succ]; rfl)
                      case tq4_19 => exact fun _ _ _ h => h
                      case tw4_19 => rfl
                      case ty4_19 => (intro w' hSw; (try dsimp only at hSw); go_simp <;> with_reducible rfl)
                      try simp only [Act.put, List.setIfInBounds_toArray, List.set_cons_zero, List.set_cons_succ]
                      refine wpAnyH_take (i := 5) (oi := ?to5_19) (v := ?tv5_19) ?th5_19 (by kernel_rfl) (by kernel_rfl) (by kernel_rfl) ?tq5_19 (Or.inl ⟨?tw5_19, ?ty5_19⟩) (by assumption) ?tr5_19
                      case th5_19 => (simp only [List.getElem?_toArray, List.getElem?_cons_zero, List.getElem?_cons_succ]; rfl)
                      case tq5_19 => exact fun _ _ _ h => h
                      case tw5_19 => rfl
                      case ty5_19 => (intro w' hSw; (try dsimp only at hSw); go_simp <;> with_reducible rfl)
                      try simp only [Act.put, List.setIfInBounds_toArray, List.set_cons_zero, List.set_cons_succ]
                      refine wpAnyH_ready (rs := [2]) (by kernel_rfl) (by simp) ?_
                      refine AllReadyH.cons (o := ?cob2) ?chb2 (fun K hK => ?csb2) ?cmb2
                      case chb2 => (simp only [List.getElem?_toArray, List.getElem?_cons_zero, List.getElem?_cons_succ]; rfl)
                      case csb2 =>
                        go_simp
                        refine (tree_Meets (dropTo L q1) B F1 q2 q3 _ (unhide HQ0).p).mono ?_
                        rintro e1 Y1 ⟨v1, rfl, o1, b1⟩
                        have hX1 := (unhide HX0).below b1
                        have hQ1 := (unhide HQ0).below b1
                        (try go_wp2_with fail)
                        refine hK.out _ _ hX1.2.2 (fun hHeld1 => ?_)
                        clear hK K
                        try simp only [Act.put, List.setIfInBounds_toArray, List.set_cons_zero, List.set_cons_succ]
                        refine wpAnyH_ready (rs := [6]) (by kernel_rfl) (by simp) ?_
                        refine AllReadyH.cons (o := ?cob6) ?chb6 (fun K hK => ?csb6) ?cmb6
                        case chb6 => (simp only [List.getElem?_toArray, List.getElem?_cons_zero, List.getElem?_cons_succ]; rfl)
                        case csb6 =>
                          go_simp
                          refine (hQ1.rmeets q2 q3).mono ?_
                          rintro e2 Y2 ⟨v2, rfl, o2, b2⟩
                          have hX2 := hX1.below b2
                          have hQ2 := hQ1.below b2
                          have o1a := ownsRow_carry o1 b2
                          (try go_wp2_with fail)
                          refine hK.out _ _ hX2.2.2 (fun hHeld2 => ?_)
                          clear hK K
                          try simp only [Act.put, List.setIfInBounds_toArray, List.set_cons_zero, List.set_cons_succ]
                          refine wpAnyH_ready (rs := [7]) (by kernel_rfl) (by simp) ?_
                          refine AllReadyH.cons (o := ?cob7) ?chb7 (fun K hK => ?csb7) ?cmb7
                          case chb7 => (simp only [List.getElem?_toArray, List.getElem?_cons_zero, List.getElem?_cons_succ]; rfl)
                          case csb7 =>
                            go_simp
                            refine (same_own o1a o2 (by have := meets_len ((dropTo L q1)) q2 q3; have := unhide HNL; rw [unhide HN] at *; omega)).mono ?_
                            rintro e3 Y3 ⟨rfl, b3⟩
                            have hX3 := hX2.below b3
                            have hQ3 := hQ2.below b3
                            (try go_wp2_with fail)
                            refine hK.out _ _ hX3.2.2 (fun hHeld3 => ?_)
                            clear hK K
                            try simp only [Act.put, List.setIfInBounds_toArray, List.set_cons_zero, List.set_cons_succ]
                            refine wpAnyH_take (i := 8) (oi := ?to8_20) (v := ?tv8_20) ?th8_20 (by kernel_rfl) (by kernel_rfl) (by kernel_rfl) ?tq8_20 (Or.inl ⟨?tw8_20, ?ty8_20⟩) (by assumption) ?tr8_20
                            case th8_20 => (simp only [List.getElem?_toArray, List.getElem?_cons_zero, List.getElem?_cons_succ]; rfl)
                            case tq8_20 => exact fun _ _ _ h => h
                            case tw8_20 => rfl
                            case ty8_20 => (intro w' hSw; (try dsimp only at hSw); go_simp <;> with_reducible rfl)
                            try simp only [Act.put, List.setIfInBounds_toArray, List.set_cons_zero, List.set_cons_succ]
                            refine wpAnyH_take (i := 9) (oi := ?to9_20) (v := ?tv9_20) ?th9_20 (by kernel_rfl) (by kernel_rfl) (by kernel_rfl) ?tq9_20 (Or.inl ⟨?tw9_20, ?ty9_20⟩) (by assumption) ?tr9_20
                            case th9_20 => (simp only [List.getElem?_toArray, List.getElem?_cons_zero, List.getElem?_cons_succ]; rfl)
                            case tq9_20 => exact fun _ _ _ h => h
                            case tw9_20 => rfl
                            case ty9_20 => (intro w' hSw; (try dsimp only at hSw); go_simp <;> with_reducible rfl)
                            try simp only [Act.put, List.setIfInBounds_toArray, List.set_cons_zero, List.set_cons_succ]
                            refine wpAnyH_take (i := 10) (oi := ?to10_21) (v := ?tv10_21) ?th10_21 (by kernel_rfl) (by kernel_rfl) (by kernel_rfl) ?tq10_21 (Or.inl ⟨?tw10_21, ?ty10_21⟩) (by assumption) ?tr10_21
                            case th10_21 => (simp only [List.getElem?_toArray, List.getElem?_cons_zero, List.getElem?_cons_succ]; rfl)
                            case tq10_21 => exact fun _ _ _ h => h
                            case tw10_21 => rfl
                            case ty10_21 => (intro w' hSw; (try dsimp only at hSw); go_simp <;> with_reducible rfl)
                            try simp only [Act.put, List.setIfInBounds_toArray, List.set_cons_zero, List.set_cons_succ]
                            refine wpAnyH_take (i := 11) (oi := ?to11_21) (v := ?tv11_21) ?th11_21 (by kernel_rfl) (by kernel_rfl) (by kernel_rfl) ?tq11_21 (Or.inl ⟨?tw11_21, ?ty11_21⟩) (by assumption) ?tr11_21
                            case th11_21 => (simp only [List.getElem?_toArray, List.getElem?_cons_zero, List.getElem?_cons_succ]; rfl)
                            case tq11_21 => exact fun _ _ _ h => h
                            case tw11_21 => rfl
                            case ty11_21 => (intro w' hSw; (try dsimp only at hSw); go_simp <;> with_reducible rfl)
                            try simp only [Act.put, List.setIfInBounds_toArray, List.set_cons_zero, List.set_cons_succ]
                            refine wpAnyH_take (i := 12) (oi := ?to12_21) (v := ?tv12_21) ?th12_21 (by kernel_rfl) (by kernel_rfl) (by kernel_rfl) ?tq12_21 (Or.inl ⟨?tw12_21, ?ty12_21⟩) (by assumption) ?tr12_21
                            case th12_21 => (simp only [List.getElem?_toArray, List.getElem?_cons_zero, List.getElem?_cons_succ]; rfl)
                            case tq12_21 => exact fun _ _ _ h => h
                            case tw12_21 => rfl
                            case ty12_21 => (intro w' hSw; (try dsimp only at hSw); go_simp <;> with_reducible rfl)
                            try simp only [Act.put, List.setIfInBounds_toArray, List.set_cons_zero, List.set_cons_succ]
                            refine wpAnyH_take (i := 14) (oi := ?to14_21) (v := ?tv14_21) ?th14_21 (by kernel_rfl) (by kernel_rfl) (by kernel_rfl) ?tq14_21 (Or.inl ⟨?tw14_21, ?ty14_21⟩) (by assumption) ?tr14_21
                            case th14_21 => (simp only [List.getElem?_toArray, List.getElem?_cons_zero, List.getElem?_cons_succ]; rfl)
                            case tq14_21 => exact fun _ _ _ h => h
                            case tw14_21 => rfl
                            case ty14_21 => (intro w' hSw; (try dsimp only at hSw); go_simp <;> with_reducible rfl)
                            try simp only [Act.put, List.setIfInBounds_toArray, List.set_cons_zero, List.set_cons_succ]
                            refine wpAnyH_take (i := 15) (oi := ?to15_21) (v := ?tv15_21) ?th15_21 (by kernel_rfl) (by kernel_rfl) (by kernel_rfl) ?tq15_21 (Or.inl ⟨?tw15_21, ?ty15_21⟩) (by assumption) ?tr15_21
                            case th15_21 => (simp only [List.getElem?_toArray, List.getElem?_cons_zero, List.getElem?_cons_succ]; rfl)
                            case tq15_21 => exact fun _ _ _ h => h
                            case tw15_21 => rfl
                            case ty15_21 => (intro w' hSw; (try dsimp only at hSw); go_simp <;> with_reducible rfl)
                            try simp only [Act.put, List.setIfInBounds_toArray, List.set_cons_zero, List.set_cons_succ]
                            refine wpAnyH_take (i := 16) (oi := ?to16_21) (v := ?tv16_21) ?th16_21 (by kernel_rfl) (by kernel_rfl) (by kernel_rfl) ?tq16_21 (Or.inl ⟨?tw16_21, ?ty16_21⟩) (by assumption) ?tr16_21
                            case th16_21 => (simp only [List.getElem?_toArray, List.getElem?_cons_zero, List.getElem?_cons_succ]; rfl)
                            case tq16_21 => exact fun _ _ _ h => h
                            case tw16_21 => rfl
                            case ty16_21 => (intro w' hSw; (try dsimp only at hSw); go_simp <;> with_reducible rfl)
                            try simp only [Act.put, List.setIfInBounds_toArray, List.set_cons_zero, List.set_cons_succ]
                            refine wpAnyH_take (i := 17) (oi := ?to17_21) (v := ?tv17_21) ?th17_21 (by kernel_rfl) (by kernel_rfl) (by kernel_rfl) ?tq17_21 (Or.inl ⟨?tw17_21, ?ty17_21⟩) (by assumption) ?tr17_21
                            case th17_21 => (simp only [List.getElem?_toArray, List.getElem?_cons_zero, List.getElem?_cons_succ]; rfl)
                            case tq17_21 => exact fun _ _ _ h => h
                            case tw17_21 => rfl
                            case ty17_21 => (intro w' hSw; (try dsimp only at hSw); go_simp <;> with_reducible rfl)
                            try simp only [Act.put, List.setIfInBounds_toArray, List.set_cons_zero, List.set_cons_succ]
                            refine wpAnyH_ready (rs := [13]) (by kernel_rfl) (by simp) ?_
                            refine AllReadyH.cons (o := ?cob13) ?chb13 (fun K hK => ?csb13) ?cmb13
                            case chb13 => (simp only [List.getElem?_toArray, List.getElem?_cons_zero, List.getElem?_cons_succ]; rfl)
                            case csb13 =>
                              go_simp
                              refine (tree_At (dropTo L q1) B F1 q2 _ hQ3.p w2).mono ?_
                              rintro e4 Y4 ⟨v4, rfl, o4, b4⟩
                              have hX4 := hX3.below b4
                              have hQ4 := hQ3.below b4
                              (try go_wp2_with fail)
                              refine hK.out _ _ hX4.2.2 (fun hHeld4 => ?_)
                              clear hK K
                              try simp only [Act.put, List.setIfInBounds_toArray, List.set_cons_zero, List.set_cons_succ]
                              refine wpAnyH_ready (rs := [18]) (by kernel_rfl) (by simp) ?_
                              refine AllReadyH.cons (o := ?cob18) ?chb18 (fun K hK => ?csb18) ?cmb18
                              case chb18 => (simp only [List.getElem?_toArray, List.getElem?_cons_zero, List.getElem?_cons_succ]; rfl)
                              case csb18 =>
                                go_simp
                                refine (hQ4.rat q2).mono ?_
                                rintro e5 Y5 ⟨v5, rfl, o5, b5⟩
                                have hX5 := hX4.below b5
                                have hQ5 := hQ4.below b5
                                have o4a := ownsRow_carry o4 b5
                                (try go_wp2_with fail)
                                refine hK.out _ _ hX5.2.2 (fun hHeld5 => ?_)
                                clear hK K
                                try simp only [Act.put, List.setIfInBounds_toArray, List.set_cons_zero, List.set_cons_succ]
                                refine wpAnyH_ready (rs := [19]) (by kernel_rfl) (by simp) ?_
                                refine AllReadyH.cons (o := ?cob19) ?chb19 (fun K hK => ?csb19) ?cmb19
                                case chb19 => (simp only [List.getElem?_toArray, List.getElem?_cons_zero, List.getElem?_cons_succ]; rfl)
                                case csb19 =>
                                  go_simp
                                  refine (same_own o4a o5 (by have := at_len' ((dropTo L q1)) q2; have := unhide HNL; rw [unhide HN] at *; omega)).mono ?_
                                  rintro e6 Y6 ⟨rfl, b6⟩
                                  have hX6 := hX5.below b6
                                  have hQ6 := hQ5.below b6
                                  (try go_wp2_with fail)
                                  refine hK.out _ _ hX6.2.2 (fun hHeld6 => ?_)
                                  clear hK K
                                  try simp only [Act.put, List.setIfInBounds_toArray, List.set_cons_zero, List.set_cons_succ]
                                  refine wpAnyH_take (i := 20) (oi := ?to20_22) (v := ?tv20_22) ?th20_22 (by kernel_rfl) (by kernel_rfl) (by kernel_rfl) ?tq20_22 (Or.inl ⟨?tw20_22, ?ty20_22⟩) (by assumption) ?tr20_22
                                  case th20_22 => (simp only [List.getElem?_toArray, List.getElem?_cons_zero, List.getElem?_cons_succ]; rfl)
                                  case tq20_22 => exact fun _ _ _ h => h
                                  case tw20_22 => rfl
                                  case ty20_22 => (intro w' hSw; (try dsimp only at hSw); go_simp <;> with_reducible rfl)
                                  try simp only [Act.put, List.setIfInBounds_toArray, List.set_cons_zero, List.set_cons_succ]
                                  refine wpAnyH_take (i := 21) (oi := ?to21_22) (v := ?tv21_22) ?th21_22 (by kernel_rfl) (by kernel_rfl) (by kernel_rfl) ?tq21_22 (Or.inl ⟨?tw21_22, ?ty21_22⟩) (by assumption) ?tr21_22
                                  case th21_22 => (simp only [List.getElem?_toArray, List.getElem?_cons_zero, List.getElem?_cons_succ]; rfl)
                                  case tq21_22 => exact fun _ _ _ h => h
                                  case tw21_22 => rfl
                                  case ty21_22 => (intro w' hSw; (try dsimp only at hSw); go_simp <;> with_reducible rfl)
                                  try simp only [Act.put, List.setIfInBounds_toArray, List.set_cons_zero, List.set_cons_succ]
                                  refine wpAnyH_take (i := 22) (oi := ?to22_22) (v := ?tv22_22) ?th22_22 (by kernel_rfl) (by kernel_rfl) (by kernel_rfl) ?tq22_22 (Or.inl ⟨?tw22_22, ?ty22_22⟩) (by assumption) ?tr22_22
                                  case th22_22 => (simp only [List.getElem?_toArray, List.getElem?_cons_zero, List.getElem?_cons_succ]; rfl)
                                  case tq22_22 => exact fun _ _ _ h => h
                                  case tw22_22 => rfl
                                  case ty22_22 => (intro w' hSw; (try dsimp only at hSw); go_simp <;> with_reducible rfl)
                                  try simp only [Act.put, List.setIfInBounds_toArray, List.set_cons_zero, List.set_cons_succ]
                                  refine wpAnyH_take (i := 24) (oi := ?to24_23) (v := ?tv24_23) ?th24_23 (by kernel_rfl) (by kernel_rfl) (by kernel_rfl) ?tq24_23 (Or.inl ⟨?tw24_23, ?ty24_23⟩) (by assumption) ?tr24_23
                                  case th24_23 => (simp only [List.getElem?_toArray, List.getElem?_cons_zero, List.getElem?_cons_succ]; rfl)
                                  case tq24_23 => exact fun _ _ _ h => h
                                  case tw24_23 => rfl
                                  case ty24_23 => (intro w' hSw; (try dsimp only at hSw); go_simp <;> with_reducible rfl)
                                  try simp only [Act.put, List.setIfInBounds_toArray, List.set_cons_zero, List.set_cons_succ]
                                  refine wpAnyH_ready (rs := [23]) (by kernel_rfl) (by simp) ?_
                                  refine AllReadyH.cons (o := ?cob23) ?chb23 (fun K hK => ?csb23) ?cmb23
                                  case chb23 => (simp only [List.getElem?_toArray, List.getElem?_cons_zero, List.getElem?_cons_succ]; rfl)
                                  case csb23 =>
                                    go_simp
                                    refine (unhide HMA _ hQ6.p).mono ?_
                                    rintro e7 Y7 ⟨rfl, hy7⟩
                                    have hX7 := hX6
                                    have hQ7 := hQ6
                                    rw [← hy7] at hX7 hQ7
                                    clear hy7
                                    (try go_wp2_with fail)
                                    refine hK.out _ _ hX7.2.2 (fun hHeld7 => ?_)
                                    clear hK K
                                    try simp only [Act.put, List.setIfInBounds_toArray, List.set_cons_zero, List.set_cons_succ]
                                    refine wpAnyH_take (i := 25) (oi := ?to25_24) (v := ?tv25_24) ?th25_24 (by kernel_rfl) (by kernel_rfl) (by kernel_rfl) ?tq25_24 (Or.inl ⟨?tw25_24, ?ty25_24⟩) (by assumption) ?tr25_24
                                    case th25_24 => (simp only [List.getElem?_toArray, List.getElem?_cons_zero, List.getElem?_cons_succ]; rfl)
                                    case tq25_24 => exact fun _ _ _ h => h
                                    case tw25_24 => rfl
                                    case ty25_24 => (intro w' hSw; (try dsimp only at hSw); go_simp <;> with_reducible rfl)
                                    try simp only [Act.put, List.setIfInBounds_toArray, List.set_cons_zero, List.set_cons_succ]
                                    refine wpAnyH_take (i := 26) (oi := ?to26_24) (v := ?tv26_24) ?th26_24 (by kernel_rfl) (by kernel_rfl) (by kernel_rfl) ?tq26_24 (Or.inl ⟨?tw26_24, ?ty26_24⟩) (by assumption) ?tr26_24
                                    case th26_24 => (simp only [List.getElem?_toArray, List.getElem?_cons_zero, List.getElem?_cons_succ]; rfl)
                                    case tq26_24 => exact fun _ _ _ h => h
                                    case tw26_24 => rfl
                                    case ty26_24 => (intro w' hSw; (try dsimp only at hSw); go_simp <;> with_reducible rfl)
                                    try simp only [Act.put, List.setIfInBounds_toArray, List.set_cons_zero, List.set_cons_succ]
                                    refine wpAnyH_take (i := 27) (oi := ?to27_24) (v := ?tv27_24) ?th27_24 (by kernel_rfl) (by kernel_rfl) (by kernel_rfl) ?tq27_24 (Or.inl ⟨?tw27_24, ?ty27_24⟩) (by assumption) ?tr27_24
                                    case th27_24 => (simp only [List.getElem?_toArray, List.getElem?_cons_zero, List.getElem?_cons_succ]; rfl)
                                    case tq27_24 => exact fun _ _ _ h => h
                                    case tw27_24 => rfl
                                    case ty27_24 => (intro w' hSw; (try dsimp only at hSw); go_simp <;> with_reducible rfl)
                                    try simp only [Act.put, List.setIfInBounds_toArray, List.set_cons_zero, List.set_cons_succ]
                                    refine wpAnyH_take (i := 29) (oi := ?to29_25) (v := ?tv29_25) ?th29_25 (by kernel_rfl) (by kernel_rfl) (by kernel_rfl) ?tq29_25 (Or.inl ⟨?tw29_25, ?ty29_25⟩) (by assumption) ?tr29_25
                                    case th29_25 => (simp only [List.getElem?_toArray, List.getElem?_cons_zero, List.getElem?_cons_succ]; rfl)
                                    case tq29_25 => exact fun _ _ _ h => h
                                    case tw29_25 => rfl
                                    case ty29_25 => (intro w' hSw; (try dsimp only at hSw); go_simp <;> with_reducible rfl)
                                    try simp only [Act.put, List.setIfInBounds_toArray, List.set_cons_zero, List.set_cons_succ]
                                    refine wpAnyH_ready (rs := [28]) (by kernel_rfl) (by simp) ?_
                                    refine AllReadyH.cons (o := ?cob28) ?chb28 (fun K hK => ?csb28) ?cmb28
                                    case chb28 => (simp only [List.getElem?_toArray, List.getElem?_cons_zero, List.getElem?_cons_succ]; rfl)
                                    case csb28 =>
                                      go_simp
                                      refine (unhide HHI _ hQ7.p).mono ?_
                                      rintro e8 Y8 ⟨rfl, b8⟩
                                      have hX8 := hX7.below b8
                                      have hQ8 := hQ7.below b8
                                      (try go_wp2_with fail)
                                      refine hK.out _ _ hX8.2.2 (fun hHeld8 => ?_)
                                      clear hK K
                                      try simp only [Act.put, List.setIfInBounds_toArray, List.set_cons_zero, List.set_cons_succ]
                                      refine wpAnyH_take (i := 30) (oi := ?to30_26) (v := ?tv30_26) ?th30_26 (by kernel_rfl) (by kernel_rfl) (by kernel_rfl) ?tq30_26 (Or.inl ⟨?tw30_26, ?ty30_26⟩) (by assumption) ?tr30_26
                                      case th30_26 => (simp only [List.getElem?_toArray, List.getElem?_cons_zero, List.getElem?_cons_succ]; rfl)
                                      case tq30_26 => exact fun _ _ _ h => h
                                      case tw30_26 => rfl
                                      case ty30_26 => (intro w' hSw; (try dsimp only at hSw); go_simp <;> with_reducible rfl)
                                      try simp only [Act.put, List.setIfInBounds_toArray, List.set_cons_zero, List.set_cons_succ]
                                      refine wpAnyH_take (i := 31) (oi := ?to31_26) (v := ?tv31_26) ?th31_26 (by kernel_rfl) (by kernel_rfl) (by kernel_rfl) ?tq31_26 (Or.inl ⟨?tw31_26, ?ty31_26⟩) (by assumption) ?tr31_26
                                      case th31_26 => (simp only [List.getElem?_toArray, List.getElem?_cons_zero, List.getElem?_cons_succ]; rfl)
                                      case tq31_26 => exact fun _ _ _ h => h
                                      case tw31_26 => rfl
                                      case ty31_26 => (intro w' hSw; (try dsimp only at hSw); go_simp <;> with_reducible rfl)
                                      try simp only [Act.put, List.setIfInBounds_toArray, List.set_cons_zero, List.set_cons_succ]
                                      refine wpAnyH_take (i := 32) (oi := ?to32_26) (v := ?tv32_26) ?th32_26 (by kernel_rfl) (by kernel_rfl) (by kernel_rfl) ?tq32_26 (Or.inl ⟨?tw32_26, ?ty32_26⟩) (by assumption) ?tr32_26
                                      case th32_26 => (simp only [List.getElem?_toArray, List.getElem?_cons_zero, List.getElem?_cons_succ]; rfl)
                                      case tq32_26 => exact fun _ _ _ h => h
                                      case tw32_26 => rfl
                                      case ty32_26 => (intro w' hSw; (try dsimp only at hSw); go_simp <;> with_reducible rfl)
                                      try simp only [Act.put, List.setIfInBounds_toArray, List.set_cons_zero, List.set_cons_succ]
                                      refine wpAnyH_take (i := 33) (oi := ?to33_27) (v := ?tv33_27) ?th33_27 (by kernel_rfl) (by kernel_rfl) (by kernel_rfl) ?tq33_27 (Or.inl ⟨?tw33_27, ?ty33_27⟩) (by assumption) ?tr33_27
                                      case th33_27 => (simp only [List.getElem?_toArray, List.getElem?_cons_zero, List.getElem?_cons_succ]; rfl)
                                      case tq33_27 => exact fun _ _ _ h => h
                                      case tw33_27 => rfl
                                      case ty33_27 => (intro w' hSw; (try dsimp only at hSw); go_simp <;> with_reducible rfl)
                                      try simp only [Act.put, List.setIfInBounds_toArray, List.set_cons_zero, List.set_cons_succ]
                                      refine wpAnyH_take (i := 34) (oi := ?to34_27) (v := ?tv34_27) ?th34_27 (by kernel_rfl) (by kernel_rfl) (by kernel_rfl) ?tq34_27 (Or.inl ⟨?tw34_27, ?ty34_27⟩) (by assumption) ?tr34_27
                                      case th34_27 => (simp only [List.getElem?_toArray, List.getElem?_cons_zero, List.getElem?_cons_succ]; rfl)
                                      case tq34_27 => exact fun _ _ _ h => h
                                      case tw34_27 => rfl
                                      case ty34_27 => (intro w' hSw; (try dsimp only at hSw); go_simp <;> with_reducible rfl)
                                      try simp only [Act.put, List.setIfInBounds_toArray, List.set_cons_zero, List.set_cons_succ]
                                      refine wpAnyH_take (i := 35) (oi := ?to35_27) (v := ?tv35_27) ?th35_27 (by kernel_rfl) (by kernel_rfl) (by kernel_rfl) ?tq35_27 (Or.inl ⟨?tw35_27, ?ty35_27⟩) (by assumption) ?tr35_27
                                      case th35_27 => (simp only [List.getElem?_toArray, List.getElem?_cons_zero, List.getElem?_cons_succ]; rfl)
                                      case tq35_27 => exact fun _ _ _ h => h
                                      case tw35_27 => rfl
                                      case ty35_27 => (intro w' hSw; (try dsimp only at hSw); go_simp <;> with_reducible rfl)
                                      try simp only [Act.put, List.setIfInBounds_toArray, List.set_cons_zero, List.set_cons_succ]
                                      refine wpAnyH_done (by kernel_rfl) ?_ _
                                      show wpList _ _ _ _ _ _
                                      have HQ := hide hQ8
                                      clear hQ8 hQ7 hQ6 hQ5 hQ4 hQ3 hQ2 hQ1 hX8 hX7 hX6 hX5 hX4 hX3 hX2 hX1 o1 o2 o4 o5 o1a o4a
                                      go_wp2
                                      go_roundw
                                      case rel => exact ⟨j + 1, by omega, by go_num, _, _, unhide HQ⟩
                                      case measure => simp [intOf]; omega
                                    exact AllReadyH.nil
                                  exact AllReadyH.nil
                                exact AllReadyH.nil
                              exact AllReadyH.nil
                            exact AllReadyH.nil
                          exact AllReadyH.nil
                        exact AllReadyH.nil
                      exact AllReadyH.nil
                    · have hNz' : ((N : Int) == 0) = false := by rw [beq_eq_false_iff_ne]; omega
                      have hNp : (0 : Int) < (N : Int) := by omega
                      have HMA : Hid (∀ x, PT x B ((dropTo L q1)) F1 → Calls Tryd.prog 49 #[.pointer (some ⟨B, 0, none⟩)] x fun e x' => e = .returned (.int .i64 N) ∧ x' = x) := fun x hx => by
                        have := tree_Many ((dropTo L q1)) B F1 x hx
                        rw [unhide HN] at this
                        exact this
                      obtain ⟨d, hd⟩ : ∃ d : Int, (bitsN N : Int) = d := ⟨_, rfl⟩
                      have hd1 : ¬ 2 * (a : Int) < d := by omega
                      have hd2 : ¬ d < 1 := by rw [← hd, bitsN_pos hNz]; omega
                      have hd3 : decide (2 * (a : Int) < d) = false := by simp; omega
                      have hd4 : decide (d < 1) = false := by simp; omega
                      have HHI : Hid (∀ x, PT x B ((dropTo L q1)) F1 → Calls Tryd.prog 50 #[.pointer (some ⟨B, 0, none⟩)] x fun e x' => e = .returned (.int .i64 d) ∧ Below x.heap.size x x') := fun x hx => by
                        have := tree_High ((dropTo L q1)) B F1 x hx
                        rw [unhide HN, hd] at this
                        exact this
                      clear hd
                      clear hab hbl hb2
                      go_wp2
                      refine wp_region_tail (fun x => x.cell? ⟨wr.heap.size, 2, none⟩ = some (.int .i64 q2) ∧ x.cell? ⟨wr.heap.size, 3, none⟩ = some (.int .i64 q3)) 36 (by kernel_rfl) (by kernel_rfl) (unhide HS0) (fun hHeld => ?_)
                      refine wpAnyH_take (i := 0) (oi := ?to0_28) (v := ?tv0_28) ?th0_28 (by kernel_rfl) (by kernel_rfl) (by kernel_rfl) ?tq0_28 (Or.inl ⟨?tw0_28, ?ty0_28⟩) (by assumption) ?tr0_28
                      case th0_28 => (simp only [List.getElem?_toArray, List.getElem?_cons_zero]; rfl)
                      case tq0_28 => exact fun _ _ _ h => h
                      case tw0_28 => rfl
                      case ty0_28 => (intro w' hSw; (try dsimp only at hSw); go_simp <;> with_reducible rfl)
                      try simp only [Act.put, List.setIfInBounds_toArray, List.set_cons_zero, List.set_cons_succ]
                      refine wpAnyH_take (i := 1) (oi := ?to1_28) (v := ?tv1_28) ?th1_28 (by kernel_rfl) (by kernel_rfl) (by kernel_rfl) ?tq1_28 (Or.inl ⟨?tw1_28, ?ty1_28⟩) (by assumption) ?tr1_28
                      case th1_28 => (simp only [List.getElem?_toArray, List.getElem?_cons_zero, List.getElem?_cons_succ]; rfl)
                      case tq1_28 => exact fun _ _ _ h => h
                      case tw1_28 => rfl
                      case ty1_28 => (intro w' hSw; (try dsimp only at hSw); go_simp <;> with_reducible rfl)
                      try simp only [Act.put, List.setIfInBounds_toArray, List.set_cons_zero, List.set_cons_succ]
                      refine wpAnyH_take (i := 3) (oi := ?to3_28) (v := ?tv3_28) ?th3_28 (by kernel_rfl) (by kernel_rfl) (by kernel_rfl) ?tq3_28 (Or.inl ⟨?tw3_28, ?ty3_28⟩) (by assumption) ?tr3_28
                      case th3_28 => (simp only [List.getElem?_toArray, List.getElem?_cons_zero, List.getElem?_cons_succ]; rfl)
                      case tq3_28 => exact fun _ _ _ h => h
                      case tw3_28 => rfl
                      case ty3_28 => (intro w' hSw; (try dsimp only at hSw); go_simp <;> with_reducible rfl)
                      try simp only [Act.put, List.setIfInBounds_toArray, List.set_cons_zero, List.set_cons_succ]
                      refine wpAnyH_take (i := 4) (oi := ?to4_28) (v := ?tv4_28) ?th4_28 (by kernel_rfl) (by kernel_rfl) (by kernel_rfl) ?tq4_28 (Or.inl ⟨?tw4_28, ?ty4_28⟩) (by assumption) ?tr4_28
                      case th4_28 => (simp only [List.getElem?_toArray, List.getElem?_cons_zero, List.getElem?_cons_succ]; rfl)
                      case tq4_28 => exact fun _ _ _ h => h
                      case tw4_28 => rfl
                      case ty4_28 => (intro w' hSw; (try dsimp only at hSw); go_simp <;> with_reducible rfl)
                      try simp only [Act.put, List.setIfInBounds_toArray, List.set_cons_zero, List.set_cons_succ]
                      refine wpAnyH_take (i := 5) (oi := ?to5_28) (v := ?tv5_28) ?th5_28 (by kernel_rfl) (by kernel_rfl) (by kernel_rfl) ?tq5_28 (Or.inl ⟨?tw5_28, ?ty5_28⟩) (by assumption) ?tr5_28
                      case th5_28 => (simp only [List.getElem?_toArray, List.getElem?_cons_zero, List.getElem?_cons_succ]; rfl)
                      case tq5_28 => exact fun _ _ _ h => h
                      case tw5_28 => rfl
                      case ty5_28 => (intro w' hSw; (try dsimp only at hSw); go_simp <;> with_reducible rfl)
                      try simp only [Act.put, List.setIfInBounds_toArray, List.set_cons_zero, List.set_cons_succ]
                      refine wpAnyH_ready (rs := [2]) (by kernel_rfl) (by simp) ?_
                      refine AllReadyH.cons (o := ?cobn2) ?chbn2 (fun K hK => ?csbn2) ?cmbn2
                      case chbn2 => (simp only [List.getElem?_toArray, List.getElem?_cons_zero, List.getElem?_cons_succ]; rfl)
                      case csbn2 =>
                        go_simp
                        refine (tree_Meets (dropTo L q1) B F1 q2 q3 _ (unhide HQ0).p).mono ?_
                        rintro e1 Y1 ⟨v1, rfl, o1, b1⟩
                        have hX1 := (unhide HX0).below b1
                        have hQ1 := (unhide HQ0).below b1
                        (try go_wp2_with fail)
                        refine hK.out _ _ hX1.2.2 (fun hHeld1 => ?_)
                        clear hK K
                        try simp only [Act.put, List.setIfInBounds_toArray, List.set_cons_zero, List.set_cons_succ]
                        refine wpAnyH_ready (rs := [6]) (by kernel_rfl) (by simp) ?_
                        refine AllReadyH.cons (o := ?cobn6) ?chbn6 (fun K hK => ?csbn6) ?cmbn6
                        case chbn6 => (simp only [List.getElem?_toArray, List.getElem?_cons_zero, List.getElem?_cons_succ]; rfl)
                        case csbn6 =>
                          go_simp
                          refine (hQ1.rmeets q2 q3).mono ?_
                          rintro e2 Y2 ⟨v2, rfl, o2, b2⟩
                          have hX2 := hX1.below b2
                          have hQ2 := hQ1.below b2
                          have o1a := ownsRow_carry o1 b2
                          (try go_wp2_with fail)
                          refine hK.out _ _ hX2.2.2 (fun hHeld2 => ?_)
                          clear hK K
                          try simp only [Act.put, List.setIfInBounds_toArray, List.set_cons_zero, List.set_cons_succ]
                          refine wpAnyH_ready (rs := [7]) (by kernel_rfl) (by simp) ?_
                          refine AllReadyH.cons (o := ?cobn7) ?chbn7 (fun K hK => ?csbn7) ?cmbn7
                          case chbn7 => (simp only [List.getElem?_toArray, List.getElem?_cons_zero, List.getElem?_cons_succ]; rfl)
                          case csbn7 =>
                            go_simp
                            refine (same_own o1a o2 (by have := meets_len ((dropTo L q1)) q2 q3; have := unhide HNL; rw [unhide HN] at *; omega)).mono ?_
                            rintro e3 Y3 ⟨rfl, b3⟩
                            have hX3 := hX2.below b3
                            have hQ3 := hQ2.below b3
                            (try go_wp2_with fail)
                            refine hK.out _ _ hX3.2.2 (fun hHeld3 => ?_)
                            clear hK K
                            try simp only [Act.put, List.setIfInBounds_toArray, List.set_cons_zero, List.set_cons_succ]
                            refine wpAnyH_take (i := 8) (oi := ?to8_29) (v := ?tv8_29) ?th8_29 (by kernel_rfl) (by kernel_rfl) (by kernel_rfl) ?tq8_29 (Or.inl ⟨?tw8_29, ?ty8_29⟩) (by assumption) ?tr8_29
                            case th8_29 => (simp only [List.getElem?_toArray, List.getElem?_cons_zero, List.getElem?_cons_succ]; rfl)
                            case tq8_29 => exact fun _ _ _ h => h
                            case tw8_29 => rfl
                            case ty8_29 => (intro w' hSw; (try dsimp only at hSw); go_simp <;> with_reducible rfl)
                            try simp only [Act.put, List.setIfInBounds_toArray, List.set_cons_zero, List.set_cons_succ]
                            refine wpAnyH_take (i := 9) (oi := ?to9_29) (v := ?tv9_29) ?th9_29 (by kernel_rfl) (by kernel_rfl) (by kernel_rfl) ?tq9_29 (Or.inl ⟨?tw9_29, ?ty9_29⟩) (by assumption) ?tr9_29
                            case th9_29 => (simp only [List.getElem?_toArray, List.getElem?_cons_zero, List.getElem?_cons_succ]; rfl)
                            case tq9_29 => exact fun _ _ _ h => h
                            case tw9_29 => rfl
                            case ty9_29 => (intro w' hSw; (try dsimp only at hSw); go_simp <;> with_reducible rfl)
                            try simp only [Act.put, List.setIfInBounds_toArray, List.set_cons_zero, List.set_cons_succ]
                            refine wpAnyH_take (i := 10) (oi := ?to10_30) (v := ?tv10_30) ?th10_30 (by kernel_rfl) (by kernel_rfl) (by kernel_rfl) ?tq10_30 (Or.inl ⟨?tw10_30, ?ty10_30⟩) (by assumption) ?tr10_30
                            case th10_30 => (simp only [List.getElem?_toArray, List.getElem?_cons_zero, List.getElem?_cons_succ]; rfl)
                            case tq10_30 => exact fun _ _ _ h => h
                            case tw10_30 => rfl
                            case ty10_30 => (intro w' hSw; (try dsimp only at hSw); go_simp <;> with_reducible rfl)
                            try simp only [Act.put, List.setIfInBounds_toArray, List.set_cons_zero, List.set_cons_succ]
                            refine wpAnyH_take (i := 11) (oi := ?to11_30) (v := ?tv11_30) ?th11_30 (by kernel_rfl) (by kernel_rfl) (by kernel_rfl) ?tq11_30 (Or.inl ⟨?tw11_30, ?ty11_30⟩) (by assumption) ?tr11_30
                            case th11_30 => (simp only [List.getElem?_toArray, List.getElem?_cons_zero, List.getElem?_cons_succ]; rfl)
                            case tq11_30 => exact fun _ _ _ h => h
                            case tw11_30 => rfl
                            case ty11_30 => (intro w' hSw; (try dsimp only at hSw); go_simp <;> with_reducible rfl)
                            try simp only [Act.put, List.setIfInBounds_toArray, List.set_cons_zero, List.set_cons_succ]
                            refine wpAnyH_take (i := 12) (oi := ?to12_30) (v := ?tv12_30) ?th12_30 (by kernel_rfl) (by kernel_rfl) (by kernel_rfl) ?tq12_30 (Or.inl ⟨?tw12_30, ?ty12_30⟩) (by assumption) ?tr12_30
                            case th12_30 => (simp only [List.getElem?_toArray, List.getElem?_cons_zero, List.getElem?_cons_succ]; rfl)
                            case tq12_30 => exact fun _ _ _ h => h
                            case tw12_30 => rfl
                            case ty12_30 => (intro w' hSw; (try dsimp only at hSw); go_simp <;> with_reducible rfl)
                            try simp only [Act.put, List.setIfInBounds_toArray, List.set_cons_zero, List.set_cons_succ]
                            refine wpAnyH_take (i := 14) (oi := ?to14_30) (v := ?tv14_30) ?th14_30 (by kernel_rfl) (by kernel_rfl) (by kernel_rfl) ?tq14_30 (Or.inl ⟨?tw14_30, ?ty14_30⟩) (by assumption) ?tr14_30
                            case th14_30 => (simp only [List.getElem?_toArray, List.getElem?_cons_zero, List.getElem?_cons_succ]; rfl)
                            case tq14_30 => exact fun _ _ _ h => h
                            case tw14_30 => rfl
                            case ty14_30 => (intro w' hSw; (try dsimp only at hSw); go_simp <;> with_reducible rfl)
                            try simp only [Act.put, List.setIfInBounds_toArray, List.set_cons_zero, List.set_cons_succ]
                            refine wpAnyH_take (i := 15) (oi := ?to15_30) (v := ?tv15_30) ?th15_30 (by kernel_rfl) (by kernel_rfl) (by kernel_rfl) ?tq15_30 (Or.inl ⟨?tw15_30, ?ty15_30⟩) (by assumption) ?tr15_30
                            case th15_30 => (simp only [List.getElem?_toArray, List.getElem?_cons_zero, List.getElem?_cons_succ]; rfl)
                            case tq15_30 => exact fun _ _ _ h => h
                            case tw15_30 => rfl
                            case ty15_30 => (intro w' hSw; (try dsimp only at hSw); go_simp <;> with_reducible rfl)
                            try simp only [Act.put, List.setIfInBounds_toArray, List.set_cons_zero, List.set_cons_succ]
                            refine wpAnyH_take (i := 16) (oi := ?to16_30) (v := ?tv16_30) ?th16_30 (by kernel_rfl) (by kernel_rfl) (by kernel_rfl) ?tq16_30 (Or.inl ⟨?tw16_30, ?ty16_30⟩) (by assumption) ?tr16_30
                            case th16_30 => (simp only [List.getElem?_toArray, List.getElem?_cons_zero, List.getElem?_cons_succ]; rfl)
                            case tq16_30 => exact fun _ _ _ h => h
                            case tw16_30 => rfl
                            case ty16_30 => (intro w' hSw; (try dsimp only at hSw); go_simp <;> with_reducible rfl)
                            try simp only [Act.put, List.setIfInBounds_toArray, List.set_cons_zero, List.set_cons_succ]
                            refine wpAnyH_take (i := 17) (oi := ?to17_30) (v := ?tv17_30) ?th17_30 (by kernel_rfl) (by kernel_rfl) (by kernel_rfl) ?tq17_30 (Or.inl ⟨?tw17_30, ?ty17_30⟩) (by assumption) ?tr17_30
                            case th17_30 => (simp only [List.getElem?_toArray, List.getElem?_cons_zero, List.getElem?_cons_succ]; rfl)
                            case tq17_30 => exact fun _ _ _ h => h
                            case tw17_30 => rfl
                            case ty17_30 => (intro w' hSw; (try dsimp only at hSw); go_simp <;> with_reducible rfl)
                            try simp only [Act.put, List.setIfInBounds_toArray, List.set_cons_zero, List.set_cons_succ]
                            refine wpAnyH_ready (rs := [13]) (by kernel_rfl) (by simp) ?_
                            refine AllReadyH.cons (o := ?cobn13) ?chbn13 (fun K hK => ?csbn13) ?cmbn13
                            case chbn13 => (simp only [List.getElem?_toArray, List.getElem?_cons_zero, List.getElem?_cons_succ]; rfl)
                            case csbn13 =>
                              go_simp
                              refine (tree_At (dropTo L q1) B F1 q2 _ hQ3.p w2).mono ?_
                              rintro e4 Y4 ⟨v4, rfl, o4, b4⟩
                              have hX4 := hX3.below b4
                              have hQ4 := hQ3.below b4
                              (try go_wp2_with fail)
                              refine hK.out _ _ hX4.2.2 (fun hHeld4 => ?_)
                              clear hK K
                              try simp only [Act.put, List.setIfInBounds_toArray, List.set_cons_zero, List.set_cons_succ]
                              refine wpAnyH_ready (rs := [18]) (by kernel_rfl) (by simp) ?_
                              refine AllReadyH.cons (o := ?cobn18) ?chbn18 (fun K hK => ?csbn18) ?cmbn18
                              case chbn18 => (simp only [List.getElem?_toArray, List.getElem?_cons_zero, List.getElem?_cons_succ]; rfl)
                              case csbn18 =>
                                go_simp
                                refine (hQ4.rat q2).mono ?_
                                rintro e5 Y5 ⟨v5, rfl, o5, b5⟩
                                have hX5 := hX4.below b5
                                have hQ5 := hQ4.below b5
                                have o4a := ownsRow_carry o4 b5
                                (try go_wp2_with fail)
                                refine hK.out _ _ hX5.2.2 (fun hHeld5 => ?_)
                                clear hK K
                                try simp only [Act.put, List.setIfInBounds_toArray, List.set_cons_zero, List.set_cons_succ]
                                refine wpAnyH_ready (rs := [19]) (by kernel_rfl) (by simp) ?_
                                refine AllReadyH.cons (o := ?cobn19) ?chbn19 (fun K hK => ?csbn19) ?cmbn19
                                case chbn19 => (simp only [List.getElem?_toArray, List.getElem?_cons_zero, List.getElem?_cons_succ]; rfl)
                                case csbn19 =>
                                  go_simp
                                  refine (same_own o4a o5 (by have := at_len' ((dropTo L q1)) q2; have := unhide HNL; rw [unhide HN] at *; omega)).mono ?_
                                  rintro e6 Y6 ⟨rfl, b6⟩
                                  have hX6 := hX5.below b6
                                  have hQ6 := hQ5.below b6
                                  (try go_wp2_with fail)
                                  refine hK.out _ _ hX6.2.2 (fun hHeld6 => ?_)
                                  clear hK K
                                  try simp only [Act.put, List.setIfInBounds_toArray, List.set_cons_zero, List.set_cons_succ]
                                  refine wpAnyH_take (i := 20) (oi := ?to20_31) (v := ?tv20_31) ?th20_31 (by kernel_rfl) (by kernel_rfl) (by kernel_rfl) ?tq20_31 (Or.inl ⟨?tw20_31, ?ty20_31⟩) (by assumption) ?tr20_31
                                  case th20_31 => (simp only [List.getElem?_toArray, List.getElem?_cons_zero, List.getElem?_cons_succ]; rfl)
                                  case tq20_31 => exact fun _ _ _ h => h
                                  case tw20_31 => rfl
                                  case ty20_31 => (intro w' hSw; (try dsimp only at hSw); go_simp <;> with_reducible rfl)
                                  try simp only [Act.put, List.setIfInBounds_toArray, List.set_cons_zero, List.set_cons_succ]
                                  refine wpAnyH_take (i := 21) (oi := ?to21_31) (v := ?tv21_31) ?th21_31 (by kernel_rfl) (by kernel_rfl) (by kernel_rfl) ?tq21_31 (Or.inl ⟨?tw21_31, ?ty21_31⟩) (by assumption) ?tr21_31
                                  case th21_31 => (simp only [List.getElem?_toArray, List.getElem?_cons_zero, List.getElem?_cons_succ]; rfl)
                                  case tq21_31 => exact fun _ _ _ h => h
                                  case tw21_31 => rfl
                                  case ty21_31 => (intro w' hSw; (try dsimp only at hSw); go_simp <;> with_reducible rfl)
                                  try simp only [Act.put, List.setIfInBounds_toArray, List.set_cons_zero, List.set_cons_succ]
                                  refine wpAnyH_take (i := 22) (oi := ?to22_31) (v := ?tv22_31) ?th22_31 (by kernel_rfl) (by kernel_rfl) (by kernel_rfl) ?tq22_31 (Or.inl ⟨?tw22_31, ?ty22_31⟩) (by assumption) ?tr22_31
                                  case th22_31 => (simp only [List.getElem?_toArray, List.getElem?_cons_zero, List.getElem?_cons_succ]; rfl)
                                  case tq22_31 => exact fun _ _ _ h => h
                                  case tw22_31 => rfl
                                  case ty22_31 => (intro w' hSw; (try dsimp only at hSw); go_simp <;> with_reducible rfl)
                                  try simp only [Act.put, List.setIfInBounds_toArray, List.set_cons_zero, List.set_cons_succ]
                                  refine wpAnyH_take (i := 24) (oi := ?to24_32) (v := ?tv24_32) ?th24_32 (by kernel_rfl) (by kernel_rfl) (by kernel_rfl) ?tq24_32 (Or.inl ⟨?tw24_32, ?ty24_32⟩) (by assumption) ?tr24_32
                                  case th24_32 => (simp only [List.getElem?_toArray, List.getElem?_cons_zero, List.getElem?_cons_succ]; rfl)
                                  case tq24_32 => exact fun _ _ _ h => h
                                  case tw24_32 => rfl
                                  case ty24_32 => (intro w' hSw; (try dsimp only at hSw); go_simp <;> with_reducible rfl)
                                  try simp only [Act.put, List.setIfInBounds_toArray, List.set_cons_zero, List.set_cons_succ]
                                  refine wpAnyH_ready (rs := [23]) (by kernel_rfl) (by simp) ?_
                                  refine AllReadyH.cons (o := ?cobn23) ?chbn23 (fun K hK => ?csbn23) ?cmbn23
                                  case chbn23 => (simp only [List.getElem?_toArray, List.getElem?_cons_zero, List.getElem?_cons_succ]; rfl)
                                  case csbn23 =>
                                    go_simp
                                    refine (unhide HMA _ hQ6.p).mono ?_
                                    rintro e7 Y7 ⟨rfl, hy7⟩
                                    have hX7 := hX6
                                    have hQ7 := hQ6
                                    rw [← hy7] at hX7 hQ7
                                    clear hy7
                                    (try go_wp2_with fail)
                                    refine hK.out _ _ hX7.2.2 (fun hHeld7 => ?_)
                                    clear hK K
                                    try simp only [Act.put, List.setIfInBounds_toArray, List.set_cons_zero, List.set_cons_succ]
                                    refine wpAnyH_take (i := 25) (oi := ?to25_33) (v := ?tv25_33) ?th25_33 (by kernel_rfl) (by kernel_rfl) (by kernel_rfl) ?tq25_33 (Or.inl ⟨?tw25_33, ?ty25_33⟩) (by assumption) ?tr25_33
                                    case th25_33 => (simp only [List.getElem?_toArray, List.getElem?_cons_zero, List.getElem?_cons_succ]; rfl)
                                    case tq25_33 => exact fun _ _ _ h => h
                                    case tw25_33 => rfl
                                    case ty25_33 => (intro w' hSw; (try dsimp only at hSw); go_simp <;> with_reducible rfl)
                                    try simp only [Act.put, List.setIfInBounds_toArray, List.set_cons_zero, List.set_cons_succ]
                                    refine wpAnyH_take (i := 26) (oi := ?to26_33) (v := ?tv26_33) ?th26_33 (by kernel_rfl) (by kernel_rfl) (by kernel_rfl) ?tq26_33 (Or.inl ⟨?tw26_33, ?ty26_33⟩) (by assumption) ?tr26_33
                                    case th26_33 => (simp only [List.getElem?_toArray, List.getElem?_cons_zero, List.getElem?_cons_succ]; rfl)
                                    case tq26_33 => exact fun _ _ _ h => h
                                    case tw26_33 => rfl
                                    case ty26_33 => (intro w' hSw; (try dsimp only at hSw); go_simp <;> with_reducible rfl)
                                    try simp only [Act.put, List.setIfInBounds_toArray, List.set_cons_zero, List.set_cons_succ]
                                    refine wpAnyH_take (i := 27) (oi := ?to27_33) (v := ?tv27_33) ?th27_33 (by kernel_rfl) (by kernel_rfl) (by kernel_rfl) ?tq27_33 (Or.inl ⟨?tw27_33, ?ty27_33⟩) (by assumption) ?tr27_33
                                    case th27_33 => (simp only [List.getElem?_toArray, List.getElem?_cons_zero, List.getElem?_cons_succ]; rfl)
                                    case tq27_33 => exact fun _ _ _ h => h
                                    case tw27_33 => rfl
                                    case ty27_33 => (intro w' hSw; (try dsimp only at hSw); go_simp <;> with_reducible rfl)
                                    try simp only [Act.put, List.setIfInBounds_toArray, List.set_cons_zero, List.set_cons_succ]
                                    refine wpAnyH_take (i := 29) (oi := ?to29_34) (v := ?tv29_34) ?th29_34 (by kernel_rfl) (by kernel_rfl) (by kernel_rfl) ?tq29_34 (Or.inl ⟨?tw29_34, ?ty29_34⟩) (by assumption) ?tr29_34
                                    case th29_34 => (simp only [List.getElem?_toArray, List.getElem?_cons_zero, List.getElem?_cons_succ]; rfl)
                                    case tq29_34 => exact fun _ _ _ h => h
                                    case tw29_34 => rfl
                                    case ty29_34 => (intro w' hSw; (try dsimp only at hSw); go_simp <;> with_reducible rfl)
                                    try simp only [Act.put, List.setIfInBounds_toArray, List.set_cons_zero, List.set_cons_succ]
                                    refine wpAnyH_ready (rs := [28]) (by kernel_rfl) (by simp) ?_
                                    refine AllReadyH.cons (o := ?cobn28) ?chbn28 (fun K hK => ?csbn28) ?cmbn28
                                    case chbn28 => (simp only [List.getElem?_toArray, List.getElem?_cons_zero, List.getElem?_cons_succ]; rfl)
                                    case csbn28 =>
                                      go_simp
                                      refine (unhide HHI _ hQ7.p).mono ?_
                                      rintro e8 Y8 ⟨rfl, b8⟩
                                      have hX8 := hX7.below b8
                                      have hQ8 := hQ7.below b8
                                      (try go_wp2_with fail)
                                      refine hK.out _ _ hX8.2.2 (fun hHeld8 => ?_)
                                      clear hK K
                                      try simp only [Act.put, List.setIfInBounds_toArray, List.set_cons_zero, List.set_cons_succ]
                                      refine wpAnyH_take (i := 30) (oi := ?to30_35) (v := ?tv30_35) ?th30_35 (by kernel_rfl) (by kernel_rfl) (by kernel_rfl) ?tq30_35 (Or.inl ⟨?tw30_35, ?ty30_35⟩) (by assumption) ?tr30_35
                                      case th30_35 => (simp only [List.getElem?_toArray, List.getElem?_cons_zero, List.getElem?_cons_succ]; rfl)
                                      case tq30_35 => exact fun _ _ _ h => h
                                      case tw30_35 => rfl
                                      case ty30_35 => (intro w' hSw; (try dsimp only at hSw); go_simp <;> with_reducible rfl)
                                      try simp only [Act.put, List.setIfInBounds_toArray, List.set_cons_zero, List.set_cons_succ]
                                      refine wpAnyH_take (i := 31) (oi := ?to31_35) (v := ?tv31_35) ?th31_35 (by kernel_rfl) (by kernel_rfl) (by kernel_rfl) ?tq31_35 (Or.inl ⟨?tw31_35, ?ty31_35⟩) (by assumption) ?tr31_35
                                      case th31_35 => (simp only [List.getElem?_toArray, List.getElem?_cons_zero, List.getElem?_cons_succ]; rfl)
                                      case tq31_35 => exact fun _ _ _ h => h
                                      case tw31_35 => rfl
                                      case ty31_35 => (intro w' hSw; (try dsimp only at hSw); go_simp <;> with_reducible rfl)
                                      try simp only [Act.put, List.setIfInBounds_toArray, List.set_cons_zero, List.set_cons_succ]
                                      refine wpAnyH_take (i := 32) (oi := ?to32_35) (v := ?tv32_35) ?th32_35 (by kernel_rfl) (by kernel_rfl) (by kernel_rfl) ?tq32_35 (Or.inl ⟨?tw32_35, ?ty32_35⟩) (by assumption) ?tr32_35
                                      case th32_35 => (simp only [List.getElem?_toArray, List.getElem?_cons_zero, List.getElem?_cons_succ]; rfl)
                                      case tq32_35 => exact fun _ _ _ h => h
                                      case tw32_35 => rfl
                                      case ty32_35 => (intro w' hSw; (try dsimp only at hSw); go_simp <;> with_reducible rfl)
                                      try simp only [Act.put, List.setIfInBounds_toArray, List.set_cons_zero, List.set_cons_succ]
                                      refine wpAnyH_take (i := 33) (oi := ?to33_36) (v := ?tv33_36) ?th33_36 (by kernel_rfl) (by kernel_rfl) (by kernel_rfl) ?tq33_36 (Or.inl ⟨?tw33_36, ?ty33_36⟩) (by assumption) ?tr33_36
                                      case th33_36 => (simp only [List.getElem?_toArray, List.getElem?_cons_zero, List.getElem?_cons_succ]; rfl)
                                      case tq33_36 => exact fun _ _ _ h => h
                                      case tw33_36 => rfl
                                      case ty33_36 => (intro w' hSw; (try dsimp only at hSw); go_simp <;> with_reducible rfl)
                                      try simp only [Act.put, List.setIfInBounds_toArray, List.set_cons_zero, List.set_cons_succ]
                                      refine wpAnyH_take (i := 34) (oi := ?to34_36) (v := ?tv34_36) ?th34_36 (by kernel_rfl) (by kernel_rfl) (by kernel_rfl) ?tq34_36 (Or.inl ⟨?tw34_36, ?ty34_36⟩) (by assumption) ?tr34_36
                                      case th34_36 => (simp only [List.getElem?_toArray, List.getElem?_cons_zero, List.getElem?_cons_succ]; rfl)
                                      case tq34_36 => exact fun _ _ _ h => h
                                      case tw34_36 => rfl
                                      case ty34_36 => (intro w' hSw; (try dsimp only at hSw); go_simp <;> with_reducible rfl)
                                      try simp only [Act.put, List.setIfInBounds_toArray, List.set_cons_zero, List.set_cons_succ]
                                      refine wpAnyH_take (i := 35) (oi := ?to35_36) (v := ?tv35_36) ?th35_36 (by kernel_rfl) (by kernel_rfl) (by kernel_rfl) ?tq35_36 (Or.inl ⟨?tw35_36, ?ty35_36⟩) (by assumption) ?tr35_36
                                      case th35_36 => (simp only [List.getElem?_toArray, List.getElem?_cons_zero, List.getElem?_cons_succ]; rfl)
                                      case tq35_36 => exact fun _ _ _ h => h
                                      case tw35_36 => rfl
                                      case ty35_36 => (intro w' hSw; (try dsimp only at hSw); go_simp <;> with_reducible rfl)
                                      try simp only [Act.put, List.setIfInBounds_toArray, List.set_cons_zero, List.set_cons_succ]
                                      refine wpAnyH_done (by kernel_rfl) ?_ _
                                      show wpList _ _ _ _ _ _
                                      have HQ := hide hQ8
                                      clear hQ8 hQ7 hQ6 hQ5 hQ4 hQ3 hQ2 hQ1 hX8 hX7 hX6 hX5 hX4 hX3 hX2 hX1 o1 o2 o4 o5 o1a o4a
                                      go_wp2_with (go_at_call 50; refine (unhide HHI _ (unhide HQ).p).mono ?_; rintro e9 Y9 ⟨rfl, b9⟩; have HQ9 := hide ((unhide HQ).below b9); clear b9)
                                      go_roundw
                                      case rel => exact ⟨j + 1, by omega, by go_num, _, _, unhide HQ9⟩
                                      case measure => simp [intOf]; omega
                                    exact AllReadyH.nil
                                  exact AllReadyH.nil
                                exact AllReadyH.nil
                              exact AllReadyH.nil
                            exact AllReadyH.nil
                          exact AllReadyH.nil
                        exact AllReadyH.nil
                      exact AllReadyH.nil
                  · have hm' : (0 : Int) < (m : Int) := by omega
                    obtain ⟨m2, hm2⟩ : ∃ m2, m / 2 = m2 := ⟨_, rfl⟩
                    have hq : (m : Int) / 2 = (m2 : Int) := by omega
                    have HE : Hid (a + 1 + bitsN m2 = bitsN (N + 1)) := by unfold Hid; rw [← hab, bitsN_pos hm, hm2]; omega
                    have ha : (a : Int) ≤ 4001 := by omega
                    clear hab hbl
                    go_wp2
                    go_roundw
                    case rel => exact ⟨a + 1, m2, by go_num, by first | rfl | go_num, unhide HE, by omega, by first | rfl | trivial⟩
                    case measure => simp [intOf]; omega
              · have ha0' : (q0 == 0) = false := by simp [ha0]
                have ha1' : (q0 == 1) = false := by simp [ha1]
                have HNL := hide (unhide HT).p.len
                obtain ⟨N, hN⟩ : ∃ N, L.length = N := ⟨_, rfl⟩
                rw [hN] at HNL
                have HN := hide hN
                have hN4 : (N : Int) ≤ 4000 := by have := unhide HNL; omega
                have hN0 : (0 : Int) ≤ (N : Int) := by omega
                clear hN
                go_wp2_with (first
                  | (go_at_call 40; refine (unhide HR1).mono ?_; rintro e1 X1 ⟨rfl, hB1⟩; have HT1 := hide (((unhide HT0).below hB1).below (below_box X1 (.cells #[.int .i64 s0, .int .i64 s1] 29))); have HX1 := hide (((unhide HP0).below hB1).below (below_box X1 (.cells #[.int .i64 s0, .int .i64 s1] 29))); have HY1 : Hid (BoxS X1.heap.size s0 s1 (X1.alloc (.cells #[.int .i64 s0, .int .i64 s1] 29))) := ⟨by simp, by simp⟩; have e11 := (unhide HX1).2.1; clear hB1)
                  | (go_at_call 41; refine (unhide HP1 _ (unhide HT1).p).mono ?_; rintro e2 X2 ⟨rfl, hB2⟩; have HT2 := hide (((unhide HT1).below hB2).below (below_box X2 (.cells #[.int .i64 s0, .int .i64 s1] 29))); have HX2 := hide (((unhide HX1).below hB2).below (below_box X2 (.cells #[.int .i64 s0, .int .i64 s1] 29))); have HY2 := hide (((unhide HY1).below hB2).below (below_box X2 (.cells #[.int .i64 s0, .int .i64 s1] 29))); have HZ2 : Hid (BoxS X2.heap.size s0 s1 (X2.alloc (.cells #[.int .i64 s0, .int .i64 s1] 29))) := ⟨by simp, by simp⟩; clear hB2 e11)
                  | (go_at_call 22; refine (bare_err _ _ ((unhide HG).carry (unhide HT2).b)).mono ?_; rintro e3 X3 ⟨rfl, hB3⟩; have HT3 := hide ((unhide HT2).below hB3); have HX3 := hide ((unhide HX2).below hB3); have y0 := ((unhide HY2).below hB3).1; have y1 := ((unhide HY2).below hB3).2; have z0 := ((unhide HZ2).below hB3).1; have z1 := ((unhide HZ2).below hB3).2; have e30 := (unhide HX3).1; obtain ⟨ai, ci, r0⟩ := (unhide HT3).ids; rw [unhide HN] at r0; clear hB3))
                go_loopw [16, 17] (fun u v x => ∃ a m : Nat, u = .int .i64 a ∧ v = .int .i64 m ∧ a + bitsN m = bitsN (N + 1) ∧ m ≤ N + 1 ∧ x = X3) (fun _ v _ => (intOf v).toNat)
                case atStart => exact ⟨0, N + 1, rfl, by go_num, by omega, Nat.le_refl _, rfl⟩
                case round =>
                  obtain ⟨a, m, rfl, rfl, hab, hmN, hwx⟩ := hrel
                  have hwx2 := hwx.symm
                  clear hwx
                  subst hwx2
                  have hbl := bitsN_le (N + 1)
                  by_cases hm : m = 0
                  · subst hm
                    rw [bitsN_zero, Nat.add_zero] at hab
                    have hm0 : ¬ (0 : Int) < ((0 : Nat) : Int) := by omega
                    have ha : (a : Int) ≤ 4001 := by omega
                    have HAB := hide hab
                    have HS0 := hide ((unhide HX3).below (below_drew X3)).2.2
                    have HQ0 := hide ((unhide HT3).below (below_drew X3))
                    have HX0 := hide ((unhide HX3).below (below_drew X3))
                    have hb2 : bitsN N ≤ a := by rw [hab]; exact bitsN_mono (N + 1) N (by omega)
                    by_cases hNz : N = 0
                    · subst hNz
                      have hNz' : (((0 : Nat) : Int) == 0) = true := by decide
                      have hbz := bitsN_zero
                      have HMA : Hid (∀ x, PT x B (L) F → Calls Tryd.prog 49 #[.pointer (some ⟨B, 0, none⟩)] x fun e x' => e = .returned (.int .i64 0) ∧ x' = x) := fun x hx => by
                        have := tree_Many (L) B F x hx
                        rw [unhide HN] at this
                        exact this
                      have HHI : Hid (∀ x, PT x B (L) F → Calls Tryd.prog 50 #[.pointer (some ⟨B, 0, none⟩)] x fun e x' => e = .returned (.int .i64 0) ∧ Below x.heap.size x x') := fun x hx => by
                        have := tree_High (L) B F x hx
                        rw [unhide HN, hbz] at this
                        exact this
                      clear hab hbl hb2
                      go_wp2
                      refine wp_region_tail (fun x => x.cell? ⟨wr.heap.size, 2, none⟩ = some (.int .i64 q2) ∧ x.cell? ⟨wr.heap.size, 3, none⟩ = some (.int .i64 q3)) 36 (by kernel_rfl) (by kernel_rfl) (unhide HS0) (fun hHeld => ?_)
                      refine wpAnyH_take (i := 0) (oi := ?to0_37) (v := ?tv0_37) ?th0_37 (by kernel_rfl) (by kernel_rfl) (by kernel_rfl) ?tq0_37 (Or.inl ⟨?tw0_37, ?ty0_37⟩) (by assumption) ?tr0_37
                      case th0_37 => (simp only [List.getElem?_toArray, List.getElem?_cons_zero]; rfl)
                      case tq0_37 => exact fun _ _ _ h => h
                      case tw0_37 => rfl
                      case ty0_37 => (intro w' hSw; (try dsimp only at hSw); go_simp <;> with_reducible rfl)
                      try simp only [Act.put, List.setIfInBounds_toArray, List.set_cons_zero, List.set_cons_succ]
                      refine wpAnyH_take (i := 1) (oi := ?to1_37) (v := ?tv1_37) ?th1_37 (by kernel_rfl) (by kernel_rfl) (by kernel_rfl) ?tq1_37 (Or.inl ⟨?tw1_37, ?ty1_37⟩) (by assumption) ?tr1_37
                      case th1_37 => (simp only [List.getElem?_toArray, List.getElem?_cons_zero, List.getElem?_cons_succ]; rfl)
                      case tq1_37 => exact fun _ _ _ h => h
                      case tw1_37 => rfl
                      case ty1_37 => (intro w' hSw; (try dsimp only at hSw); go_simp <;> with_reducible rfl)
                      try simp only [Act.put, List.setIfInBounds_toArray, List.set_cons_zero, List.set_cons_succ]
                      refine wpAnyH_take (i := 3) (oi := ?to3_37) (v := ?tv3_37) ?th3_37 (by kernel_rfl) (by kernel_rfl) (by kernel_rfl) ?tq3_37 (Or.inl ⟨?tw3_37, ?ty3_37⟩) (by assumption) ?tr3_37
                      case th3_37 => (simp only [List.getElem?_toArray, List.getElem?_cons_zero, List.getElem?_cons_succ]; rfl)
                      case tq3_37 => exact fun _ _ _ h => h
                      case tw3_37 => rfl
                      case ty3_37 => (intro w' hSw; (try dsimp only at hSw); go_simp <;> with_reducible rfl)
                      try simp only [Act.put, List.setIfInBounds_toArray, List.set_cons_zero, List.set_cons_succ]
                      refine wpAnyH_take (i := 4) (oi := ?to4_37) (v := ?tv4_37) ?th4_37 (by kernel_rfl) (by kernel_rfl) (by kernel_rfl) ?tq4_37 (Or.inl ⟨?tw4_37, ?ty4_37⟩) (by assumption) ?tr4_37
                      case th4_37 => (simp only [List.getElem?_toArray, List.getElem?_cons_zero, List.getElem?_cons_succ]; rfl)
                      case tq4_37 => exact fun _ _ _ h => h
                      case tw4_37 => rfl
                      case ty4_37 => (intro w' hSw; (try dsimp only at hSw); go_simp <;> with_reducible rfl)
                      try simp only [Act.put, List.setIfInBounds_toArray, List.set_cons_zero, List.set_cons_succ]
                      refine wpAnyH_take (i := 5) (oi := ?to5_37) (v := ?tv5_37) ?th5_37 (by kernel_rfl) (by kernel_rfl) (by kernel_rfl) ?tq5_37 (Or.inl ⟨?tw5_37, ?ty5_37⟩) (by assumption) ?tr5_37
                      case th5_37 => (simp only [List.getElem?_toArray, List.getElem?_cons_zero, List.getElem?_cons_succ]; rfl)
                      case tq5_37 => exact fun _ _ _ h => h
                      case tw5_37 => rfl
                      case ty5_37 => (intro w' hSw; (try dsimp only at hSw); go_simp <;> with_reducible rfl)
                      try simp only [Act.put, List.setIfInBounds_toArray, List.set_cons_zero, List.set_cons_succ]
                      refine wpAnyH_ready (rs := [2]) (by kernel_rfl) (by simp) ?_
                      refine AllReadyH.cons (o := ?coc2) ?chc2 (fun K hK => ?csc2) ?cmc2
                      case chc2 => (simp only [List.getElem?_toArray, List.getElem?_cons_zero, List.getElem?_cons_succ]; rfl)
                      case csc2 =>
                        go_simp
                        refine (tree_Meets L B F q2 q3 _ (unhide HQ0).p).mono ?_
                        rintro e1 Y1 ⟨v1, rfl, o1, b1⟩
                        have hX1 := (unhide HX0).below b1
                        have hQ1 := (unhide HQ0).below b1
                        (try go_wp2_with fail)
                        refine hK.out _ _ hX1.2.2 (fun hHeld1 => ?_)
                        clear hK K
                        try simp only [Act.put, List.setIfInBounds_toArray, List.set_cons_zero, List.set_cons_succ]
                        refine wpAnyH_ready (rs := [6]) (by kernel_rfl) (by simp) ?_
                        refine AllReadyH.cons (o := ?coc6) ?chc6 (fun K hK => ?csc6) ?cmc6
                        case chc6 => (simp only [List.getElem?_toArray, List.getElem?_cons_zero, List.getElem?_cons_succ]; rfl)
                        case csc6 =>
                          go_simp
                          refine (hQ1.rmeets q2 q3).mono ?_
                          rintro e2 Y2 ⟨v2, rfl, o2, b2⟩
                          have hX2 := hX1.below b2
                          have hQ2 := hQ1.below b2
                          have o1a := ownsRow_carry o1 b2
                          (try go_wp2_with fail)
                          refine hK.out _ _ hX2.2.2 (fun hHeld2 => ?_)
                          clear hK K
                          try simp only [Act.put, List.setIfInBounds_toArray, List.set_cons_zero, List.set_cons_succ]
                          refine wpAnyH_ready (rs := [7]) (by kernel_rfl) (by simp) ?_
                          refine AllReadyH.cons (o := ?coc7) ?chc7 (fun K hK => ?csc7) ?cmc7
                          case chc7 => (simp only [List.getElem?_toArray, List.getElem?_cons_zero, List.getElem?_cons_succ]; rfl)
                          case csc7 =>
                            go_simp
                            refine (same_own o1a o2 (by have := meets_len (L) q2 q3; have := unhide HNL; rw [unhide HN] at *; omega)).mono ?_
                            rintro e3 Y3 ⟨rfl, b3⟩
                            have hX3 := hX2.below b3
                            have hQ3 := hQ2.below b3
                            (try go_wp2_with fail)
                            refine hK.out _ _ hX3.2.2 (fun hHeld3 => ?_)
                            clear hK K
                            try simp only [Act.put, List.setIfInBounds_toArray, List.set_cons_zero, List.set_cons_succ]
                            refine wpAnyH_take (i := 8) (oi := ?to8_38) (v := ?tv8_38) ?th8_38 (by kernel_rfl) (by kernel_rfl) (by kernel_rfl) ?tq8_38 (Or.inl ⟨?tw8_38, ?ty8_38⟩) (by assumption) ?tr8_38
                            case th8_38 => (simp only [List.getElem?_toArray, List.getElem?_cons_zero, List.getElem?_cons_succ]; rfl)
                            case tq8_38 => exact fun _ _ _ h => h
                            case tw8_38 => rfl
                            case ty8_38 => (intro w' hSw; (try dsimp only at hSw); go_simp <;> with_reducible rfl)
                            try simp only [Act.put, List.setIfInBounds_toArray, List.set_cons_zero, List.set_cons_succ]
                            refine wpAnyH_take (i := 9) (oi := ?to9_38) (v := ?tv9_38) ?th9_38 (by kernel_rfl) (by kernel_rfl) (by kernel_rfl) ?tq9_38 (Or.inl ⟨?tw9_38, ?ty9_38⟩) (by assumption) ?tr9_38
                            case th9_38 => (simp only [List.getElem?_toArray, List.getElem?_cons_zero, List.getElem?_cons_succ]; rfl)
                            case tq9_38 => exact fun _ _ _ h => h
                            case tw9_38 => rfl
                            case ty9_38 => (intro w' hSw; (try dsimp only at hSw); go_simp <;> with_reducible rfl)
                            try simp only [Act.put, List.setIfInBounds_toArray, List.set_cons_zero, List.set_cons_succ]
                            refine wpAnyH_take (i := 10) (oi := ?to10_39) (v := ?tv10_39) ?th10_39 (by kernel_rfl) (by kernel_rfl) (by kernel_rfl) ?tq10_39 (Or.inl ⟨?tw10_39, ?ty10_39⟩) (by assumption) ?tr10_39
                            case th10_39 => (simp only [List.getElem?_toArray, List.getElem?_cons_zero, List.getElem?_cons_succ]; rfl)
                            case tq10_39 => exact fun _ _ _ h => h
                            case tw10_39 => rfl
                            case ty10_39 => (intro w' hSw; (try dsimp only at hSw); go_simp <;> with_reducible rfl)
                            try simp only [Act.put, List.setIfInBounds_toArray, List.set_cons_zero, List.set_cons_succ]
                            refine wpAnyH_take (i := 11) (oi := ?to11_39) (v := ?tv11_39) ?th11_39 (by kernel_rfl) (by kernel_rfl) (by kernel_rfl) ?tq11_39 (Or.inl ⟨?tw11_39, ?ty11_39⟩) (by assumption) ?tr11_39
                            case th11_39 => (simp only [List.getElem?_toArray, List.getElem?_cons_zero, List.getElem?_cons_succ]; rfl)
                            case tq11_39 => exact fun _ _ _ h => h
                            case tw11_39 => rfl
                            case ty11_39 => (intro w' hSw; (try dsimp only at hSw); go_simp <;> with_reducible rfl)
                            try simp only [Act.put, List.setIfInBounds_toArray, List.set_cons_zero, List.set_cons_succ]
                            refine wpAnyH_take (i := 12) (oi := ?to12_39) (v := ?tv12_39) ?th12_39 (by kernel_rfl) (by kernel_rfl) (by kernel_rfl) ?tq12_39 (Or.inl ⟨?tw12_39, ?ty12_39⟩) (by assumption) ?tr12_39
                            case th12_39 => (simp only [List.getElem?_toArray, List.getElem?_cons_zero, List.getElem?_cons_succ]; rfl)
                            case tq12_39 => exact fun _ _ _ h => h
                            case tw12_39 => rfl
                            case ty12_39 => (intro w' hSw; (try dsimp only at hSw); go_simp <;> with_reducible rfl)
                            try simp only [Act.put, List.setIfInBounds_toArray, List.set_cons_zero, List.set_cons_succ]
                            refine wpAnyH_take (i := 14) (oi := ?to14_39) (v := ?tv14_39) ?th14_39 (by kernel_rfl) (by kernel_rfl) (by kernel_rfl) ?tq14_39 (Or.inl ⟨?tw14_39, ?ty14_39⟩) (by assumption) ?tr14_39
                            case th14_39 => (simp only [List.getElem?_toArray, List.getElem?_cons_zero, List.getElem?_cons_succ]; rfl)
                            case tq14_39 => exact fun _ _ _ h => h
                            case tw14_39 => rfl
                            case ty14_39 => (intro w' hSw; (try dsimp only at hSw); go_simp <;> with_reducible rfl)
                            try simp only [Act.put, List.setIfInBounds_toArray, List.set_cons_zero, List.set_cons_succ]
                            refine wpAnyH_take (i := 15) (oi := ?to15_39) (v := ?tv15_39) ?th15_39 (by kernel_rfl) (by kernel_rfl) (by kernel_rfl) ?tq15_39 (Or.inl ⟨?tw15_39, ?ty15_39⟩) (by assumption) ?tr15_39
                            case th15_39 => (simp only [List.getElem?_toArray, List.getElem?_cons_zero, List.getElem?_cons_succ]; rfl)
                            case tq15_39 => exact fun _ _ _ h => h
                            case tw15_39 => rfl
                            case ty15_39 => (intro w' hSw; (try dsimp only at hSw); go_simp <;> with_reducible rfl)
                            try simp only [Act.put, List.setIfInBounds_toArray, List.set_cons_zero, List.set_cons_succ]
                            refine wpAnyH_take (i := 16) (oi := ?to16_39) (v := ?tv16_39) ?th16_39 (by kernel_rfl) (by kernel_rfl) (by kernel_rfl) ?tq16_39 (Or.inl ⟨?tw16_39, ?ty16_39⟩) (by assumption) ?tr16_39
                            case th16_39 => (simp only [List.getElem?_toArray, List.getElem?_cons_zero, List.getElem?_cons_succ]; rfl)
                            case tq16_39 => exact fun _ _ _ h => h
                            case tw16_39 => rfl
                            case ty16_39 => (intro w' hSw; (try dsimp only at hSw); go_simp <;> with_reducible rfl)
                            try simp only [Act.put, List.setIfInBounds_toArray, List.set_cons_zero, List.set_cons_succ]
                            refine wpAnyH_take (i := 17) (oi := ?to17_39) (v := ?tv17_39) ?th17_39 (by kernel_rfl) (by kernel_rfl) (by kernel_rfl) ?tq17_39 (Or.inl ⟨?tw17_39, ?ty17_39⟩) (by assumption) ?tr17_39
                            case th17_39 => (simp only [List.getElem?_toArray, List.getElem?_cons_zero, List.getElem?_cons_succ]; rfl)
                            case tq17_39 => exact fun _ _ _ h => h
                            case tw17_39 => rfl
                            case ty17_39 => (intro w' hSw; (try dsimp only at hSw); go_simp <;> with_reducible rfl)
                            try simp only [Act.put, List.setIfInBounds_toArray, List.set_cons_zero, List.set_cons_succ]
                            refine wpAnyH_ready (rs := [13]) (by kernel_rfl) (by simp) ?_
                            refine AllReadyH.cons (o := ?coc13) ?chc13 (fun K hK => ?csc13) ?cmc13
                            case chc13 => (simp only [List.getElem?_toArray, List.getElem?_cons_zero, List.getElem?_cons_succ]; rfl)
                            case csc13 =>
                              go_simp
                              refine (tree_At L B F q2 _ hQ3.p w2).mono ?_
                              rintro e4 Y4 ⟨v4, rfl, o4, b4⟩
                              have hX4 := hX3.below b4
                              have hQ4 := hQ3.below b4
                              (try go_wp2_with fail)
                              refine hK.out _ _ hX4.2.2 (fun hHeld4 => ?_)
                              clear hK K
                              try simp only [Act.put, List.setIfInBounds_toArray, List.set_cons_zero, List.set_cons_succ]
                              refine wpAnyH_ready (rs := [18]) (by kernel_rfl) (by simp) ?_
                              refine AllReadyH.cons (o := ?coc18) ?chc18 (fun K hK => ?csc18) ?cmc18
                              case chc18 => (simp only [List.getElem?_toArray, List.getElem?_cons_zero, List.getElem?_cons_succ]; rfl)
                              case csc18 =>
                                go_simp
                                refine (hQ4.rat q2).mono ?_
                                rintro e5 Y5 ⟨v5, rfl, o5, b5⟩
                                have hX5 := hX4.below b5
                                have hQ5 := hQ4.below b5
                                have o4a := ownsRow_carry o4 b5
                                (try go_wp2_with fail)
                                refine hK.out _ _ hX5.2.2 (fun hHeld5 => ?_)
                                clear hK K
                                try simp only [Act.put, List.setIfInBounds_toArray, List.set_cons_zero, List.set_cons_succ]
                                refine wpAnyH_ready (rs := [19]) (by kernel_rfl) (by simp) ?_
                                refine AllReadyH.cons (o := ?coc19) ?chc19 (fun K hK => ?csc19) ?cmc19
                                case chc19 => (simp only [List.getElem?_toArray, List.getElem?_cons_zero, List.getElem?_cons_succ]; rfl)
                                case csc19 =>
                                  go_simp
                                  refine (same_own o4a o5 (by have := at_len' (L) q2; have := unhide HNL; rw [unhide HN] at *; omega)).mono ?_
                                  rintro e6 Y6 ⟨rfl, b6⟩
                                  have hX6 := hX5.below b6
                                  have hQ6 := hQ5.below b6
                                  (try go_wp2_with fail)
                                  refine hK.out _ _ hX6.2.2 (fun hHeld6 => ?_)
                                  clear hK K
                                  try simp only [Act.put, List.setIfInBounds_toArray, List.set_cons_zero, List.set_cons_succ]
                                  refine wpAnyH_take (i := 20) (oi := ?to20_40) (v := ?tv20_40) ?th20_40 (by kernel_rfl) (by kernel_rfl) (by kernel_rfl) ?tq20_40 (Or.inl ⟨?tw20_40, ?ty20_40⟩) (by assumption) ?tr20_40
                                  case th20_40 => (simp only [List.getElem?_toArray, List.getElem?_cons_zero, List.getElem?_cons_succ]; rfl)
                                  case tq20_40 => exact fun _ _ _ h => h
                                  case tw20_40 => rfl
                                  case ty20_40 => (intro w' hSw; (try dsimp only at hSw); go_simp <;> with_reducible rfl)
                                  try simp only [Act.put, List.setIfInBounds_toArray, List.set_cons_zero, List.set_cons_succ]
                                  refine wpAnyH_take (i := 21) (oi := ?to21_40) (v := ?tv21_40) ?th21_40 (by kernel_rfl) (by kernel_rfl) (by kernel_rfl) ?tq21_40 (Or.inl ⟨?tw21_40, ?ty21_40⟩) (by assumption) ?tr21_40
                                  case th21_40 => (simp only [List.getElem?_toArray, List.getElem?_cons_zero, List.getElem?_cons_succ]; rfl)
                                  case tq21_40 => exact fun _ _ _ h => h
                                  case tw21_40 => rfl
                                  case ty21_40 => (intro w' hSw; (try dsimp only at hSw); go_simp <;> with_reducible rfl)
                                  try simp only [Act.put, List.setIfInBounds_toArray, List.set_cons_zero, List.set_cons_succ]
                                  refine wpAnyH_take (i := 22) (oi := ?to22_40) (v := ?tv22_40) ?th22_40 (by kernel_rfl) (by kernel_rfl) (by kernel_rfl) ?tq22_40 (Or.inl ⟨?tw22_40, ?ty22_40⟩) (by assumption) ?tr22_40
                                  case th22_40 => (simp only [List.getElem?_toArray, List.getElem?_cons_zero, List.getElem?_cons_succ]; rfl)
                                  case tq22_40 => exact fun _ _ _ h => h
                                  case tw22_40 => rfl
                                  case ty22_40 => (intro w' hSw; (try dsimp only at hSw); go_simp <;> with_reducible rfl)
                                  try simp only [Act.put, List.setIfInBounds_toArray, List.set_cons_zero, List.set_cons_succ]
                                  refine wpAnyH_take (i := 24) (oi := ?to24_41) (v := ?tv24_41) ?th24_41 (by kernel_rfl) (by kernel_rfl) (by kernel_rfl) ?tq24_41 (Or.inl ⟨?tw24_41, ?ty24_41⟩) (by assumption) ?tr24_41
                                  case th24_41 => (simp only [List.getElem?_toArray, List.getElem?_cons_zero, List.getElem?_cons_succ]; rfl)
                                  case tq24_41 => exact fun _ _ _ h => h
                                  case tw24_41 => rfl
                                  case ty24_41 => (intro w' hSw; (try dsimp only at hSw); go_simp <;> with_reducible rfl)
                                  try simp only [Act.put, List.setIfInBounds_toArray, List.set_cons_zero, List.set_cons_succ]
                                  refine wpAnyH_ready (rs := [23]) (by kernel_rfl) (by simp) ?_
                                  refine AllReadyH.cons (o := ?coc23) ?chc23 (fun K hK => ?csc23) ?cmc23
                                  case chc23 => (simp only [List.getElem?_toArray, List.getElem?_cons_zero, List.getElem?_cons_succ]; rfl)
                                  case csc23 =>
                                    go_simp
                                    refine (unhide HMA _ hQ6.p).mono ?_
                                    rintro e7 Y7 ⟨rfl, hy7⟩
                                    have hX7 := hX6
                                    have hQ7 := hQ6
                                    rw [← hy7] at hX7 hQ7
                                    clear hy7
                                    (try go_wp2_with fail)
                                    refine hK.out _ _ hX7.2.2 (fun hHeld7 => ?_)
                                    clear hK K
                                    try simp only [Act.put, List.setIfInBounds_toArray, List.set_cons_zero, List.set_cons_succ]
                                    refine wpAnyH_take (i := 25) (oi := ?to25_42) (v := ?tv25_42) ?th25_42 (by kernel_rfl) (by kernel_rfl) (by kernel_rfl) ?tq25_42 (Or.inl ⟨?tw25_42, ?ty25_42⟩) (by assumption) ?tr25_42
                                    case th25_42 => (simp only [List.getElem?_toArray, List.getElem?_cons_zero, List.getElem?_cons_succ]; rfl)
                                    case tq25_42 => exact fun _ _ _ h => h
                                    case tw25_42 => rfl
                                    case ty25_42 => (intro w' hSw; (try dsimp only at hSw); go_simp <;> with_reducible rfl)
                                    try simp only [Act.put, List.setIfInBounds_toArray, List.set_cons_zero, List.set_cons_succ]
                                    refine wpAnyH_take (i := 26) (oi := ?to26_42) (v := ?tv26_42) ?th26_42 (by kernel_rfl) (by kernel_rfl) (by kernel_rfl) ?tq26_42 (Or.inl ⟨?tw26_42, ?ty26_42⟩) (by assumption) ?tr26_42
                                    case th26_42 => (simp only [List.getElem?_toArray, List.getElem?_cons_zero, List.getElem?_cons_succ]; rfl)
                                    case tq26_42 => exact fun _ _ _ h => h
                                    case tw26_42 => rfl
                                    case ty26_42 => (intro w' hSw; (try dsimp only at hSw); go_simp <;> with_reducible rfl)
                                    try simp only [Act.put, List.setIfInBounds_toArray, List.set_cons_zero, List.set_cons_succ]
                                    refine wpAnyH_take (i := 27) (oi := ?to27_42) (v := ?tv27_42) ?th27_42 (by kernel_rfl) (by kernel_rfl) (by kernel_rfl) ?tq27_42 (Or.inl ⟨?tw27_42, ?ty27_42⟩) (by assumption) ?tr27_42
                                    case th27_42 => (simp only [List.getElem?_toArray, List.getElem?_cons_zero, List.getElem?_cons_succ]; rfl)
                                    case tq27_42 => exact fun _ _ _ h => h
                                    case tw27_42 => rfl
                                    case ty27_42 => (intro w' hSw; (try dsimp only at hSw); go_simp <;> with_reducible rfl)
                                    try simp only [Act.put, List.setIfInBounds_toArray, List.set_cons_zero, List.set_cons_succ]
                                    refine wpAnyH_take (i := 29) (oi := ?to29_43) (v := ?tv29_43) ?th29_43 (by kernel_rfl) (by kernel_rfl) (by kernel_rfl) ?tq29_43 (Or.inl ⟨?tw29_43, ?ty29_43⟩) (by assumption) ?tr29_43
                                    case th29_43 => (simp only [List.getElem?_toArray, List.getElem?_cons_zero, List.getElem?_cons_succ]; rfl)
                                    case tq29_43 => exact fun _ _ _ h => h
                                    case tw29_43 => rfl
                                    case ty29_43 => (intro w' hSw; (try dsimp only at hSw); go_simp <;> with_reducible rfl)
                                    try simp only [Act.put, List.setIfInBounds_toArray, List.set_cons_zero, List.set_cons_succ]
                                    refine wpAnyH_ready (rs := [28]) (by kernel_rfl) (by simp) ?_
                                    refine AllReadyH.cons (o := ?coc28) ?chc28 (fun K hK => ?csc28) ?cmc28
                                    case chc28 => (simp only [List.getElem?_toArray, List.getElem?_cons_zero, List.getElem?_cons_succ]; rfl)
                                    case csc28 =>
                                      go_simp
                                      refine (unhide HHI _ hQ7.p).mono ?_
                                      rintro e8 Y8 ⟨rfl, b8⟩
                                      have hX8 := hX7.below b8
                                      have hQ8 := hQ7.below b8
                                      (try go_wp2_with fail)
                                      refine hK.out _ _ hX8.2.2 (fun hHeld8 => ?_)
                                      clear hK K
                                      try simp only [Act.put, List.setIfInBounds_toArray, List.set_cons_zero, List.set_cons_succ]
                                      refine wpAnyH_take (i := 30) (oi := ?to30_44) (v := ?tv30_44) ?th30_44 (by kernel_rfl) (by kernel_rfl) (by kernel_rfl) ?tq30_44 (Or.inl ⟨?tw30_44, ?ty30_44⟩) (by assumption) ?tr30_44
                                      case th30_44 => (simp only [List.getElem?_toArray, List.getElem?_cons_zero, List.getElem?_cons_succ]; rfl)
                                      case tq30_44 => exact fun _ _ _ h => h
                                      case tw30_44 => rfl
                                      case ty30_44 => (intro w' hSw; (try dsimp only at hSw); go_simp <;> with_reducible rfl)
                                      try simp only [Act.put, List.setIfInBounds_toArray, List.set_cons_zero, List.set_cons_succ]
                                      refine wpAnyH_take (i := 31) (oi := ?to31_44) (v := ?tv31_44) ?th31_44 (by kernel_rfl) (by kernel_rfl) (by kernel_rfl) ?tq31_44 (Or.inl ⟨?tw31_44, ?ty31_44⟩) (by assumption) ?tr31_44
                                      case th31_44 => (simp only [List.getElem?_toArray, List.getElem?_cons_zero, List.getElem?_cons_succ]; rfl)
                                      case tq31_44 => exact fun _ _ _ h => h
                                      case tw31_44 => rfl
                                      case ty31_44 => (intro w' hSw; (try dsimp only at hSw); go_simp <;> with_reducible rfl)
                                      try simp only [Act.put, List.setIfInBounds_toArray, List.set_cons_zero, List.set_cons_succ]
                                      refine wpAnyH_take (i := 32) (oi := ?to32_44) (v := ?tv32_44) ?th32_44 (by kernel_rfl) (by kernel_rfl) (by kernel_rfl) ?tq32_44 (Or.inl ⟨?tw32_44, ?ty32_44⟩) (by assumption) ?tr32_44
                                      case th32_44 => (simp only [List.getElem?_toArray, List.getElem?_cons_zero, List.getElem?_cons_succ]; rfl)
                                      case tq32_44 => exact fun _ _ _ h => h
                                      case tw32_44 => rfl
                                      case ty32_44 => (intro w' hSw; (try dsimp only at hSw); go_simp <;> with_reducible rfl)
                                      try simp only [Act.put, List.setIfInBounds_toArray, List.set_cons_zero, List.set_cons_succ]
                                      refine wpAnyH_take (i := 33) (oi := ?to33_45) (v := ?tv33_45) ?th33_45 (by kernel_rfl) (by kernel_rfl) (by kernel_rfl) ?tq33_45 (Or.inl ⟨?tw33_45, ?ty33_45⟩) (by assumption) ?tr33_45
                                      case th33_45 => (simp only [List.getElem?_toArray, List.getElem?_cons_zero, List.getElem?_cons_succ]; rfl)
                                      case tq33_45 => exact fun _ _ _ h => h
                                      case tw33_45 => rfl
                                      case ty33_45 => (intro w' hSw; (try dsimp only at hSw); go_simp <;> with_reducible rfl)
                                      try simp only [Act.put, List.setIfInBounds_toArray, List.set_cons_zero, List.set_cons_succ]
                                      refine wpAnyH_take (i := 34) (oi := ?to34_45) (v := ?tv34_45) ?th34_45 (by kernel_rfl) (by kernel_rfl) (by kernel_rfl) ?tq34_45 (Or.inl ⟨?tw34_45, ?ty34_45⟩) (by assumption) ?tr34_45
                                      case th34_45 => (simp only [List.getElem?_toArray, List.getElem?_cons_zero, List.getElem?_cons_succ]; rfl)
                                      case tq34_45 => exact fun _ _ _ h => h
                                      case tw34_45 => rfl
                                      case ty34_45 => (intro w' hSw; (try dsimp only at hSw); go_simp <;> with_reducible rfl)
                                      try simp only [Act.put, List.setIfInBounds_toArray, List.set_cons_zero, List.set_cons_succ]
                                      refine wpAnyH_take (i := 35) (oi := ?to35_45) (v := ?tv35_45) ?th35_45 (by kernel_rfl) (by kernel_rfl) (by kernel_rfl) ?tq35_45 (Or.inl ⟨?tw35_45, ?ty35_45⟩) (by assumption) ?tr35_45
                                      case th35_45 => (simp only [List.getElem?_toArray, List.getElem?_cons_zero, List.getElem?_cons_succ]; rfl)
                                      case tq35_45 => exact fun _ _ _ h => h
                                      case tw35_45 => rfl
                                      case ty35_45 => (intro w' hSw; (try dsimp only at hSw); go_simp <;> with_reducible rfl)
                                      try simp only [Act.put, List.setIfInBounds_toArray, List.set_cons_zero, List.set_cons_succ]
                                      refine wpAnyH_done (by kernel_rfl) ?_ _
                                      show wpList _ _ _ _ _ _
                                      have HQ := hide hQ8
                                      clear hQ8 hQ7 hQ6 hQ5 hQ4 hQ3 hQ2 hQ1 hX8 hX7 hX6 hX5 hX4 hX3 hX2 hX1 o1 o2 o4 o5 o1a o4a
                                      go_wp2
                                      go_roundw
                                      case rel => exact ⟨j + 1, by omega, by go_num, _, _, unhide HQ⟩
                                      case measure => simp [intOf]; omega
                                    exact AllReadyH.nil
                                  exact AllReadyH.nil
                                exact AllReadyH.nil
                              exact AllReadyH.nil
                            exact AllReadyH.nil
                          exact AllReadyH.nil
                        exact AllReadyH.nil
                      exact AllReadyH.nil
                    · have hNz' : ((N : Int) == 0) = false := by rw [beq_eq_false_iff_ne]; omega
                      have hNp : (0 : Int) < (N : Int) := by omega
                      have HMA : Hid (∀ x, PT x B (L) F → Calls Tryd.prog 49 #[.pointer (some ⟨B, 0, none⟩)] x fun e x' => e = .returned (.int .i64 N) ∧ x' = x) := fun x hx => by
                        have := tree_Many (L) B F x hx
                        rw [unhide HN] at this
                        exact this
                      obtain ⟨d, hd⟩ : ∃ d : Int, (bitsN N : Int) = d := ⟨_, rfl⟩
                      have hd1 : ¬ 2 * (a : Int) < d := by omega
                      have hd2 : ¬ d < 1 := by rw [← hd, bitsN_pos hNz]; omega
                      have hd3 : decide (2 * (a : Int) < d) = false := by simp; omega
                      have hd4 : decide (d < 1) = false := by simp; omega
                      have HHI : Hid (∀ x, PT x B (L) F → Calls Tryd.prog 50 #[.pointer (some ⟨B, 0, none⟩)] x fun e x' => e = .returned (.int .i64 d) ∧ Below x.heap.size x x') := fun x hx => by
                        have := tree_High (L) B F x hx
                        rw [unhide HN, hd] at this
                        exact this
                      clear hd
                      clear hab hbl hb2
                      go_wp2
                      refine wp_region_tail (fun x => x.cell? ⟨wr.heap.size, 2, none⟩ = some (.int .i64 q2) ∧ x.cell? ⟨wr.heap.size, 3, none⟩ = some (.int .i64 q3)) 36 (by kernel_rfl) (by kernel_rfl) (unhide HS0) (fun hHeld => ?_)
                      refine wpAnyH_take (i := 0) (oi := ?to0_46) (v := ?tv0_46) ?th0_46 (by kernel_rfl) (by kernel_rfl) (by kernel_rfl) ?tq0_46 (Or.inl ⟨?tw0_46, ?ty0_46⟩) (by assumption) ?tr0_46
                      case th0_46 => (simp only [List.getElem?_toArray, List.getElem?_cons_zero]; rfl)
                      case tq0_46 => exact fun _ _ _ h => h
                      case tw0_46 => rfl
                      case ty0_46 => (intro w' hSw; (try dsimp only at hSw); go_simp <;> with_reducible rfl)
                      try simp only [Act.put, List.setIfInBounds_toArray, List.set_cons_zero, List.set_cons_succ]
                      refine wpAnyH_take (i := 1) (oi := ?to1_46) (v := ?tv1_46) ?th1_46 (by kernel_rfl) (by kernel_rfl) (by kernel_rfl) ?tq1_46 (Or.inl ⟨?tw1_46, ?ty1_46⟩) (by assumption) ?tr1_46
                      case th1_46 => (simp only [List.getElem?_toArray, List.getElem?_cons_zero, List.getElem?_cons_succ]; rfl)
                      case tq1_46 => exact fun _ _ _ h => h
                      case tw1_46 => rfl
                      case ty1_46 => (intro w' hSw; (try dsimp only at hSw); go_simp <;> with_reducible rfl)
                      try simp only [Act.put, List.setIfInBounds_toArray, List.set_cons_zero, List.set_cons_succ]
                      refine wpAnyH_take (i := 3) (oi := ?to3_46) (v := ?tv3_46) ?th3_46 (by kernel_rfl) (by kernel_rfl) (by kernel_rfl) ?tq3_46 (Or.inl ⟨?tw3_46, ?ty3_46⟩) (by assumption) ?tr3_46
                      case th3_46 => (simp only [List.getElem?_toArray, List.getElem?_cons_zero, List.getElem?_cons_succ]; rfl)
                      case tq3_46 => exact fun _ _ _ h => h
                      case tw3_46 => rfl
                      case ty3_46 => (intro w' hSw; (try dsimp only at hSw); go_simp <;> with_reducible rfl)
                      try simp only [Act.put, List.setIfInBounds_toArray, List.set_cons_zero, List.set_cons_succ]
                      refine wpAnyH_take (i := 4) (oi := ?to4_46) (v := ?tv4_46) ?th4_46 (by kernel_rfl) (by kernel_rfl) (by kernel_rfl) ?tq4_46 (Or.inl ⟨?tw4_46, ?ty4_46⟩) (by assumption) ?tr4_46
                      case th4_46 => (simp only [List.getElem?_toArray, List.getElem?_cons_zero, List.getElem?_cons_succ]; rfl)
                      case tq4_46 => exact fun _ _ _ h => h
                      case tw4_46 => rfl
                      case ty4_46 => (intro w' hSw; (try dsimp only at hSw); go_simp <;> with_reducible rfl)
                      try simp only [Act.put, List.setIfInBounds_toArray, List.set_cons_zero, List.set_cons_succ]
                      refine wpAnyH_take (i := 5) (oi := ?to5_46) (v := ?tv5_46) ?th5_46 (by kernel_rfl) (by kernel_rfl) (by kernel_rfl) ?tq5_46 (Or.inl ⟨?tw5_46, ?ty5_46⟩) (by assumption) ?tr5_46
                      case th5_46 => (simp only [List.getElem?_toArray, List.getElem?_cons_zero, List.getElem?_cons_succ]; rfl)
                      case tq5_46 => exact fun _ _ _ h => h
                      case tw5_46 => rfl
                      case ty5_46 => (intro w' hSw; (try dsimp only at hSw); go_simp <;> with_reducible rfl)
                      try simp only [Act.put, List.setIfInBounds_toArray, List.set_cons_zero, List.set_cons_succ]
                      refine wpAnyH_ready (rs := [2]) (by kernel_rfl) (by simp) ?_
                      refine AllReadyH.cons (o := ?cocn2) ?chcn2 (fun K hK => ?cscn2) ?cmcn2
                      case chcn2 => (simp only [List.getElem?_toArray, List.getElem?_cons_zero, List.getElem?_cons_succ]; rfl)
                      case cscn2 =>
                        go_simp
                        refine (tree_Meets L B F q2 q3 _ (unhide HQ0).p).mono ?_
                        rintro e1 Y1 ⟨v1, rfl, o1, b1⟩
                        have hX1 := (unhide HX0).below b1
                        have hQ1 := (unhide HQ0).below b1
                        (try go_wp2_with fail)
                        refine hK.out _ _ hX1.2.2 (fun hHeld1 => ?_)
                        clear hK K
                        try simp only [Act.put, List.setIfInBounds_toArray, List.set_cons_zero, List.set_cons_succ]
                        refine wpAnyH_ready (rs := [6]) (by kernel_rfl) (by simp) ?_
                        refine AllReadyH.cons (o := ?cocn6) ?chcn6 (fun K hK => ?cscn6) ?cmcn6
                        case chcn6 => (simp only [List.getElem?_toArray, List.getElem?_cons_zero, List.getElem?_cons_succ]; rfl)
                        case cscn6 =>
                          go_simp
                          refine (hQ1.rmeets q2 q3).mono ?_
                          rintro e2 Y2 ⟨v2, rfl, o2, b2⟩
                          have hX2 := hX1.below b2
                          have hQ2 := hQ1.below b2
                          have o1a := ownsRow_carry o1 b2
                          (try go_wp2_with fail)
                          refine hK.out _ _ hX2.2.2 (fun hHeld2 => ?_)
                          clear hK K
                          try simp only [Act.put, List.setIfInBounds_toArray, List.set_cons_zero, List.set_cons_succ]
                          refine wpAnyH_ready (rs := [7]) (by kernel_rfl) (by simp) ?_
                          refine AllReadyH.cons (o := ?cocn7) ?chcn7 (fun K hK => ?cscn7) ?cmcn7
                          case chcn7 => (simp only [List.getElem?_toArray, List.getElem?_cons_zero, List.getElem?_cons_succ]; rfl)
                          case cscn7 =>
                            go_simp
                            refine (same_own o1a o2 (by have := meets_len (L) q2 q3; have := unhide HNL; rw [unhide HN] at *; omega)).mono ?_
                            rintro e3 Y3 ⟨rfl, b3⟩
                            have hX3 := hX2.below b3
                            have hQ3 := hQ2.below b3
                            (try go_wp2_with fail)
                            refine hK.out _ _ hX3.2.2 (fun hHeld3 => ?_)
                            clear hK K
                            try simp only [Act.put, List.setIfInBounds_toArray, List.set_cons_zero, List.set_cons_succ]
                            refine wpAnyH_take (i := 8) (oi := ?to8_47) (v := ?tv8_47) ?th8_47 (by kernel_rfl) (by kernel_rfl) (by kernel_rfl) ?tq8_47 (Or.inl ⟨?tw8_47, ?ty8_47⟩) (by assumption) ?tr8_47
                            case th8_47 => (simp only [List.getElem?_toArray, List.getElem?_cons_zero, List.getElem?_cons_succ]; rfl)
                            case tq8_47 => exact fun _ _ _ h => h
                            case tw8_47 => rfl
                            case ty8_47 => (intro w' hSw; (try dsimp only at hSw); go_simp <;> with_reducible rfl)
                            try simp only [Act.put, List.setIfInBounds_toArray, List.set_cons_zero, List.set_cons_succ]
                            refine wpAnyH_take (i := 9) (oi := ?to9_47) (v := ?tv9_47) ?th9_47 (by kernel_rfl) (by kernel_rfl) (by kernel_rfl) ?tq9_47 (Or.inl ⟨?tw9_47, ?ty9_47⟩) (by assumption) ?tr9_47
                            case th9_47 => (simp only [List.getElem?_toArray, List.getElem?_cons_zero, List.getElem?_cons_succ]; rfl)
                            case tq9_47 => exact fun _ _ _ h => h
                            case tw9_47 => rfl
                            case ty9_47 => (intro w' hSw; (try dsimp only at hSw); go_simp <;> with_reducible rfl)
                            try simp only [Act.put, List.setIfInBounds_toArray, List.set_cons_zero, List.set_cons_succ]
                            refine wpAnyH_take (i := 10) (oi := ?to10_48) (v := ?tv10_48) ?th10_48 (by kernel_rfl) (by kernel_rfl) (by kernel_rfl) ?tq10_48 (Or.inl ⟨?tw10_48, ?ty10_48⟩) (by assumption) ?tr10_48
                            case th10_48 => (simp only [List.getElem?_toArray, List.getElem?_cons_zero, List.getElem?_cons_succ]; rfl)
                            case tq10_48 => exact fun _ _ _ h => h
                            case tw10_48 => rfl
                            case ty10_48 => (intro w' hSw; (try dsimp only at hSw); go_simp <;> with_reducible rfl)
                            try simp only [Act.put, List.setIfInBounds_toArray, List.set_cons_zero, List.set_cons_succ]
                            refine wpAnyH_take (i := 11) (oi := ?to11_48) (v := ?tv11_48) ?th11_48 (by kernel_rfl) (by kernel_rfl) (by kernel_rfl) ?tq11_48 (Or.inl ⟨?tw11_48, ?ty11_48⟩) (by assumption) ?tr11_48
                            case th11_48 => (simp only [List.getElem?_toArray, List.getElem?_cons_zero, List.getElem?_cons_succ]; rfl)
                            case tq11_48 => exact fun _ _ _ h => h
                            case tw11_48 => rfl
                            case ty11_48 => (intro w' hSw; (try dsimp only at hSw); go_simp <;> with_reducible rfl)
                            try simp only [Act.put, List.setIfInBounds_toArray, List.set_cons_zero, List.set_cons_succ]
                            refine wpAnyH_take (i := 12) (oi := ?to12_48) (v := ?tv12_48) ?th12_48 (by kernel_rfl) (by kernel_rfl) (by kernel_rfl) ?tq12_48 (Or.inl ⟨?tw12_48, ?ty12_48⟩) (by assumption) ?tr12_48
                            case th12_48 => (simp only [List.getElem?_toArray, List.getElem?_cons_zero, List.getElem?_cons_succ]; rfl)
                            case tq12_48 => exact fun _ _ _ h => h
                            case tw12_48 => rfl
                            case ty12_48 => (intro w' hSw; (try dsimp only at hSw); go_simp <;> with_reducible rfl)
                            try simp only [Act.put, List.setIfInBounds_toArray, List.set_cons_zero, List.set_cons_succ]
                            refine wpAnyH_take (i := 14) (oi := ?to14_48) (v := ?tv14_48) ?th14_48 (by kernel_rfl) (by kernel_rfl) (by kernel_rfl) ?tq14_48 (Or.inl ⟨?tw14_48, ?ty14_48⟩) (by assumption) ?tr14_48
                            case th14_48 => (simp only [List.getElem?_toArray, List.getElem?_cons_zero, List.getElem?_cons_succ]; rfl)
                            case tq14_48 => exact fun _ _ _ h => h
                            case tw14_48 => rfl
                            case ty14_48 => (intro w' hSw; (try dsimp only at hSw); go_simp <;> with_reducible rfl)
                            try simp only [Act.put, List.setIfInBounds_toArray, List.set_cons_zero, List.set_cons_succ]
                            refine wpAnyH_take (i := 15) (oi := ?to15_48) (v := ?tv15_48) ?th15_48 (by kernel_rfl) (by kernel_rfl) (by kernel_rfl) ?tq15_48 (Or.inl ⟨?tw15_48, ?ty15_48⟩) (by assumption) ?tr15_48
                            case th15_48 => (simp only [List.getElem?_toArray, List.getElem?_cons_zero, List.getElem?_cons_succ]; rfl)
                            case tq15_48 => exact fun _ _ _ h => h
                            case tw15_48 => rfl
                            case ty15_48 => (intro w' hSw; (try dsimp only at hSw); go_simp <;> with_reducible rfl)
                            try simp only [Act.put, List.setIfInBounds_toArray, List.set_cons_zero, List.set_cons_succ]
                            refine wpAnyH_take (i := 16) (oi := ?to16_48) (v := ?tv16_48) ?th16_48 (by kernel_rfl) (by kernel_rfl) (by kernel_rfl) ?tq16_48 (Or.inl ⟨?tw16_48, ?ty16_48⟩) (by assumption) ?tr16_48
                            case th16_48 => (simp only [List.getElem?_toArray, List.getElem?_cons_zero, List.getElem?_cons_succ]; rfl)
                            case tq16_48 => exact fun _ _ _ h => h
                            case tw16_48 => rfl
                            case ty16_48 => (intro w' hSw; (try dsimp only at hSw); go_simp <;> with_reducible rfl)
                            try simp only [Act.put, List.setIfInBounds_toArray, List.set_cons_zero, List.set_cons_succ]
                            refine wpAnyH_take (i := 17) (oi := ?to17_48) (v := ?tv17_48) ?th17_48 (by kernel_rfl) (by kernel_rfl) (by kernel_rfl) ?tq17_48 (Or.inl ⟨?tw17_48, ?ty17_48⟩) (by assumption) ?tr17_48
                            case th17_48 => (simp only [List.getElem?_toArray, List.getElem?_cons_zero, List.getElem?_cons_succ]; rfl)
                            case tq17_48 => exact fun _ _ _ h => h
                            case tw17_48 => rfl
                            case ty17_48 => (intro w' hSw; (try dsimp only at hSw); go_simp <;> with_reducible rfl)
                            try simp only [Act.put, List.setIfInBounds_toArray, List.set_cons_zero, List.set_cons_succ]
                            refine wpAnyH_ready (rs := [13]) (by kernel_rfl) (by simp) ?_
                            refine AllReadyH.cons (o := ?cocn13) ?chcn13 (fun K hK => ?cscn13) ?cmcn13
                            case chcn13 => (simp only [List.getElem?_toArray, List.getElem?_cons_zero, List.getElem?_cons_succ]; rfl)
                            case cscn13 =>
                              go_simp
                              refine (tree_At L B F q2 _ hQ3.p w2).mono ?_
                              rintro e4 Y4 ⟨v4, rfl, o4, b4⟩
                              have hX4 := hX3.below b4
                              have hQ4 := hQ3.below b4
                              (try go_wp2_with fail)
                              refine hK.out _ _ hX4.2.2 (fun hHeld4 => ?_)
                              clear hK K
                              try simp only [Act.put, List.setIfInBounds_toArray, List.set_cons_zero, List.set_cons_succ]
                              refine wpAnyH_ready (rs := [18]) (by kernel_rfl) (by simp) ?_
                              refine AllReadyH.cons (o := ?cocn18) ?chcn18 (fun K hK => ?cscn18) ?cmcn18
                              case chcn18 => (simp only [List.getElem?_toArray, List.getElem?_cons_zero, List.getElem?_cons_succ]; rfl)
                              case cscn18 =>
                                go_simp
                                refine (hQ4.rat q2).mono ?_
                                rintro e5 Y5 ⟨v5, rfl, o5, b5⟩
                                have hX5 := hX4.below b5
                                have hQ5 := hQ4.below b5
                                have o4a := ownsRow_carry o4 b5
                                (try go_wp2_with fail)
                                refine hK.out _ _ hX5.2.2 (fun hHeld5 => ?_)
                                clear hK K
                                try simp only [Act.put, List.setIfInBounds_toArray, List.set_cons_zero, List.set_cons_succ]
                                refine wpAnyH_ready (rs := [19]) (by kernel_rfl) (by simp) ?_
                                refine AllReadyH.cons (o := ?cocn19) ?chcn19 (fun K hK => ?cscn19) ?cmcn19
                                case chcn19 => (simp only [List.getElem?_toArray, List.getElem?_cons_zero, List.getElem?_cons_succ]; rfl)
                                case cscn19 =>
                                  go_simp
                                  refine (same_own o4a o5 (by have := at_len' (L) q2; have := unhide HNL; rw [unhide HN] at *; omega)).mono ?_
                                  rintro e6 Y6 ⟨rfl, b6⟩
                                  have hX6 := hX5.below b6
                                  have hQ6 := hQ5.below b6
                                  (try go_wp2_with fail)
                                  refine hK.out _ _ hX6.2.2 (fun hHeld6 => ?_)
                                  clear hK K
                                  try simp only [Act.put, List.setIfInBounds_toArray, List.set_cons_zero, List.set_cons_succ]
                                  refine wpAnyH_take (i := 20) (oi := ?to20_49) (v := ?tv20_49) ?th20_49 (by kernel_rfl) (by kernel_rfl) (by kernel_rfl) ?tq20_49 (Or.inl ⟨?tw20_49, ?ty20_49⟩) (by assumption) ?tr20_49
                                  case th20_49 => (simp only [List.getElem?_toArray, List.getElem?_cons_zero, List.getElem?_cons_succ]; rfl)
                                  case tq20_49 => exact fun _ _ _ h => h
                                  case tw20_49 => rfl
                                  case ty20_49 => (intro w' hSw; (try dsimp only at hSw); go_simp <;> with_reducible rfl)
                                  try simp only [Act.put, List.setIfInBounds_toArray, List.set_cons_zero, List.set_cons_succ]
                                  refine wpAnyH_take (i := 21) (oi := ?to21_49) (v := ?tv21_49) ?th21_49 (by kernel_rfl) (by kernel_rfl) (by kernel_rfl) ?tq21_49 (Or.inl ⟨?tw21_49, ?ty21_49⟩) (by assumption) ?tr21_49
                                  case th21_49 => (simp only [List.getElem?_toArray, List.getElem?_cons_zero, List.getElem?_cons_succ]; rfl)
                                  case tq21_49 => exact fun _ _ _ h => h
                                  case tw21_49 => rfl
                                  case ty21_49 => (intro w' hSw; (try dsimp only at hSw); go_simp <;> with_reducible rfl)
                                  try simp only [Act.put, List.setIfInBounds_toArray, List.set_cons_zero, List.set_cons_succ]
                                  refine wpAnyH_take (i := 22) (oi := ?to22_49) (v := ?tv22_49) ?th22_49 (by kernel_rfl) (by kernel_rfl) (by kernel_rfl) ?tq22_49 (Or.inl ⟨?tw22_49, ?ty22_49⟩) (by assumption) ?tr22_49
                                  case th22_49 => (simp only [List.getElem?_toArray, List.getElem?_cons_zero, List.getElem?_cons_succ]; rfl)
                                  case tq22_49 => exact fun _ _ _ h => h
                                  case tw22_49 => rfl
                                  case ty22_49 => (intro w' hSw; (try dsimp only at hSw); go_simp <;> with_reducible rfl)
                                  try simp only [Act.put, List.setIfInBounds_toArray, List.set_cons_zero, List.set_cons_succ]
                                  refine wpAnyH_take (i := 24) (oi := ?to24_50) (v := ?tv24_50) ?th24_50 (by kernel_rfl) (by kernel_rfl) (by kernel_rfl) ?tq24_50 (Or.inl ⟨?tw24_50, ?ty24_50⟩) (by assumption) ?tr24_50
                                  case th24_50 => (simp only [List.getElem?_toArray, List.getElem?_cons_zero, List.getElem?_cons_succ]; rfl)
                                  case tq24_50 => exact fun _ _ _ h => h
                                  case tw24_50 => rfl
                                  case ty24_50 => (intro w' hSw; (try dsimp only at hSw); go_simp <;> with_reducible rfl)
                                  try simp only [Act.put, List.setIfInBounds_toArray, List.set_cons_zero, List.set_cons_succ]
                                  refine wpAnyH_ready (rs := [23]) (by kernel_rfl) (by simp) ?_
                                  refine AllReadyH.cons (o := ?cocn23) ?chcn23 (fun K hK => ?cscn23) ?cmcn23
                                  case chcn23 => (simp only [List.getElem?_toArray, List.getElem?_cons_zero, List.getElem?_cons_succ]; rfl)
                                  case cscn23 =>
                                    go_simp
                                    refine (unhide HMA _ hQ6.p).mono ?_
                                    rintro e7 Y7 ⟨rfl, hy7⟩
                                    have hX7 := hX6
                                    have hQ7 := hQ6
                                    rw [← hy7] at hX7 hQ7
                                    clear hy7
                                    (try go_wp2_with fail)
                                    refine hK.out _ _ hX7.2.2 (fun hHeld7 => ?_)
                                    clear hK K
                                    try simp only [Act.put, List.setIfInBounds_toArray, List.set_cons_zero, List.set_cons_succ]
                                    refine wpAnyH_take (i := 25) (oi := ?to25_51) (v := ?tv25_51) ?th25_51 (by kernel_rfl) (by kernel_rfl) (by kernel_rfl) ?tq25_51 (Or.inl ⟨?tw25_51, ?ty25_51⟩) (by assumption) ?tr25_51
                                    case th25_51 => (simp only [List.getElem?_toArray, List.getElem?_cons_zero, List.getElem?_cons_succ]; rfl)
                                    case tq25_51 => exact fun _ _ _ h => h
                                    case tw25_51 => rfl
                                    case ty25_51 => (intro w' hSw; (try dsimp only at hSw); go_simp <;> with_reducible rfl)
                                    try simp only [Act.put, List.setIfInBounds_toArray, List.set_cons_zero, List.set_cons_succ]
                                    refine wpAnyH_take (i := 26) (oi := ?to26_51) (v := ?tv26_51) ?th26_51 (by kernel_rfl) (by kernel_rfl) (by kernel_rfl) ?tq26_51 (Or.inl ⟨?tw26_51, ?ty26_51⟩) (by assumption) ?tr26_51
                                    case th26_51 => (simp only [List.getElem?_toArray, List.getElem?_cons_zero, List.getElem?_cons_succ]; rfl)
                                    case tq26_51 => exact fun _ _ _ h => h
                                    case tw26_51 => rfl
                                    case ty26_51 => (intro w' hSw; (try dsimp only at hSw); go_simp <;> with_reducible rfl)
                                    try simp only [Act.put, List.setIfInBounds_toArray, List.set_cons_zero, List.set_cons_succ]
                                    refine wpAnyH_take (i := 27) (oi := ?to27_51) (v := ?tv27_51) ?th27_51 (by kernel_rfl) (by kernel_rfl) (by kernel_rfl) ?tq27_51 (Or.inl ⟨?tw27_51, ?ty27_51⟩) (by assumption) ?tr27_51
                                    case th27_51 => (simp only [List.getElem?_toArray, List.getElem?_cons_zero, List.getElem?_cons_succ]; rfl)
                                    case tq27_51 => exact fun _ _ _ h => h
                                    case tw27_51 => rfl
                                    case ty27_51 => (intro w' hSw; (try dsimp only at hSw); go_simp <;> with_reducible rfl)
                                    try simp only [Act.put, List.setIfInBounds_toArray, List.set_cons_zero, List.set_cons_succ]
                                    refine wpAnyH_take (i := 29) (oi := ?to29_52) (v := ?tv29_52) ?th29_52 (by kernel_rfl) (by kernel_rfl) (by kernel_rfl) ?tq29_52 (Or.inl ⟨?tw29_52, ?ty29_52⟩) (by assumption) ?tr29_52
                                    case th29_52 => (simp only [List.getElem?_toArray, List.getElem?_cons_zero, List.getElem?_cons_succ]; rfl)
                                    case tq29_52 => exact fun _ _ _ h => h
                                    case tw29_52 => rfl
                                    case ty29_52 => (intro w' hSw; (try dsimp only at hSw); go_simp <;> with_reducible rfl)
                                    try simp only [Act.put, List.setIfInBounds_toArray, List.set_cons_zero, List.set_cons_succ]
                                    refine wpAnyH_ready (rs := [28]) (by kernel_rfl) (by simp) ?_
                                    refine AllReadyH.cons (o := ?cocn28) ?chcn28 (fun K hK => ?cscn28) ?cmcn28
                                    case chcn28 => (simp only [List.getElem?_toArray, List.getElem?_cons_zero, List.getElem?_cons_succ]; rfl)
                                    case cscn28 =>
                                      go_simp
                                      refine (unhide HHI _ hQ7.p).mono ?_
                                      rintro e8 Y8 ⟨rfl, b8⟩
                                      have hX8 := hX7.below b8
                                      have hQ8 := hQ7.below b8
                                      (try go_wp2_with fail)
                                      refine hK.out _ _ hX8.2.2 (fun hHeld8 => ?_)
                                      clear hK K
                                      try simp only [Act.put, List.setIfInBounds_toArray, List.set_cons_zero, List.set_cons_succ]
                                      refine wpAnyH_take (i := 30) (oi := ?to30_53) (v := ?tv30_53) ?th30_53 (by kernel_rfl) (by kernel_rfl) (by kernel_rfl) ?tq30_53 (Or.inl ⟨?tw30_53, ?ty30_53⟩) (by assumption) ?tr30_53
                                      case th30_53 => (simp only [List.getElem?_toArray, List.getElem?_cons_zero, List.getElem?_cons_succ]; rfl)
                                      case tq30_53 => exact fun _ _ _ h => h
                                      case tw30_53 => rfl
                                      case ty30_53 => (intro w' hSw; (try dsimp only at hSw); go_simp <;> with_reducible rfl)
                                      try simp only [Act.put, List.setIfInBounds_toArray, List.set_cons_zero, List.set_cons_succ]
                                      refine wpAnyH_take (i := 31) (oi := ?to31_53) (v := ?tv31_53) ?th31_53 (by kernel_rfl) (by kernel_rfl) (by kernel_rfl) ?tq31_53 (Or.inl ⟨?tw31_53, ?ty31_53⟩) (by assumption) ?tr31_53
                                      case th31_53 => (simp only [List.getElem?_toArray, List.getElem?_cons_zero, List.getElem?_cons_succ]; rfl)
                                      case tq31_53 => exact fun _ _ _ h => h
                                      case tw31_53 => rfl
                                      case ty31_53 => (intro w' hSw; (try dsimp only at hSw); go_simp <;> with_reducible rfl)
                                      try simp only [Act.put, List.setIfInBounds_toArray, List.set_cons_zero, List.set_cons_succ]
                                      refine wpAnyH_take (i := 32) (oi := ?to32_53) (v := ?tv32_53) ?th32_53 (by kernel_rfl) (by kernel_rfl) (by kernel_rfl) ?tq32_53 (Or.inl ⟨?tw32_53, ?ty32_53⟩) (by assumption) ?tr32_53
                                      case th32_53 => (simp only [List.getElem?_toArray, List.getElem?_cons_zero, List.getElem?_cons_succ]; rfl)
                                      case tq32_53 => exact fun _ _ _ h => h
                                      case tw32_53 => rfl
                                      case ty32_53 => (intro w' hSw; (try dsimp only at hSw); go_simp <;> with_reducible rfl)
                                      try simp only [Act.put, List.setIfInBounds_toArray, List.set_cons_zero, List.set_cons_succ]
                                      refine wpAnyH_take (i := 33) (oi := ?to33_54) (v := ?tv33_54) ?th33_54 (by kernel_rfl) (by kernel_rfl) (by kernel_rfl) ?tq33_54 (Or.inl ⟨?tw33_54, ?ty33_54⟩) (by assumption) ?tr33_54
                                      case th33_54 => (simp only [List.getElem?_toArray, List.getElem?_cons_zero, List.getElem?_cons_succ]; rfl)
                                      case tq33_54 => exact fun _ _ _ h => h
                                      case tw33_54 => rfl
                                      case ty33_54 => (intro w' hSw; (try dsimp only at hSw); go_simp <;> with_reducible rfl)
                                      try simp only [Act.put, List.setIfInBounds_toArray, List.set_cons_zero, List.set_cons_succ]
                                      refine wpAnyH_take (i := 34) (oi := ?to34_54) (v := ?tv34_54) ?th34_54 (by kernel_rfl) (by kernel_rfl) (by kernel_rfl) ?tq34_54 (Or.inl ⟨?tw34_54, ?ty34_54⟩) (by assumption) ?tr34_54
                                      case th34_54 => (simp only [List.getElem?_toArray, List.getElem?_cons_zero, List.getElem?_cons_succ]; rfl)
                                      case tq34_54 => exact fun _ _ _ h => h
                                      case tw34_54 => rfl
                                      case ty34_54 => (intro w' hSw; (try dsimp only at hSw); go_simp <;> with_reducible rfl)
                                      try simp only [Act.put, List.setIfInBounds_toArray, List.set_cons_zero, List.set_cons_succ]
                                      refine wpAnyH_take (i := 35) (oi := ?to35_54) (v := ?tv35_54) ?th35_54 (by kernel_rfl) (by kernel_rfl) (by kernel_rfl) ?tq35_54 (Or.inl ⟨?tw35_54, ?ty35_54⟩) (by assumption) ?tr35_54
                                      case th35_54 => (simp only [List.getElem?_toArray, List.getElem?_cons_zero, List.getElem?_cons_succ]; rfl)
                                      case tq35_54 => exact fun _ _ _ h => h
                                      case tw35_54 => rfl
                                      case ty35_54 => (intro w' hSw; (try dsimp only at hSw); go_simp <;> with_reducible rfl)
                                      try simp only [Act.put, List.setIfInBounds_toArray, List.set_cons_zero, List.set_cons_succ]
                                      refine wpAnyH_done (by kernel_rfl) ?_ _
                                      show wpList _ _ _ _ _ _
                                      have HQ := hide hQ8
                                      clear hQ8 hQ7 hQ6 hQ5 hQ4 hQ3 hQ2 hQ1 hX8 hX7 hX6 hX5 hX4 hX3 hX2 hX1 o1 o2 o4 o5 o1a o4a
                                      go_wp2_with (go_at_call 50; refine (unhide HHI _ (unhide HQ).p).mono ?_; rintro e9 Y9 ⟨rfl, b9⟩; have HQ9 := hide ((unhide HQ).below b9); clear b9)
                                      go_roundw
                                      case rel => exact ⟨j + 1, by omega, by go_num, _, _, unhide HQ9⟩
                                      case measure => simp [intOf]; omega
                                    exact AllReadyH.nil
                                  exact AllReadyH.nil
                                exact AllReadyH.nil
                              exact AllReadyH.nil
                            exact AllReadyH.nil
                          exact AllReadyH.nil
                        exact AllReadyH.nil
                      exact AllReadyH.nil
                  · have hm' : (0 : Int) < (m : Int) := by omega
                    obtain ⟨m2, hm2⟩ : ∃ m2, m / 2 = m2 := ⟨_, rfl⟩
                    have hq : (m : Int) / 2 = (m2 : Int) := by omega
                    have HE : Hid (a + 1 + bitsN m2 = bitsN (N + 1)) := by unfold Hid; rw [← hab, bitsN_pos hm, hm2]; omega
                    have ha : (a : Int) ≤ 4001 := by omega
                    clear hab hbl
                    go_wp2
                    go_roundw
                    case rel => exact ⟨a + 1, m2, by go_num, by first | rfl | go_num, unhide HE, by omega, by first | rfl | trivial⟩
                    case measure => simp [intOf]; omega
          · have hjl' : ¬ (j : Int) < (l.length : Int) := by omega
            have HBF := hide (unhide HT).b
            clear HT HL
            go_wp2
            go_ret
            exact ⟨rfl, unhide HBF⟩

end Go.Proofs.YtfcmkaiocnelgaaDoor
