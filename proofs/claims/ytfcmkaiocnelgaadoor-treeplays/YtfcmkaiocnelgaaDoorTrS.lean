/- Who has a time of a span, in the document's tree; and the span of a number: walked. -/
import Derived.Test.YtfcmkaiocnelgaaDoorTrQ
namespace Go.Proofs.YtfcmkaiocnelgaaDoor
open Go.RowKit

def meetP (lo hi : Int) (e : Ent) : Bool := rightB lo hi && meetB lo hi e

theorem meetsT_is (L : List Ent) (lo hi : Int) : meetsT L lo hi = (L.filter (meetP lo hi)).map (·.id) := by
  unfold meetsT meetP
  cases h : rightB lo hi with
  | true => simp
  | false => simp

set_option maxRecDepth 100000 in
set_option maxHeartbeats 4000000 in
theorem ref_Meets (L : List Ent) (B bi bs : Nat) (lo hi : Int) (w : World) (hl : L.length ≤ 100000) (h : RefTree w B bi bs L) :
    Calls Tryd.prog 46 #[.pointer (some ⟨B, 0, none⟩), .agg #[.int .i64 lo, .int .i64 hi]] w (GivesI (meetsT L lo hi) w) := by
  rw [meetsT_is]
  have hB0 := below_box w (.cells #[.int .i64 lo, .int .i64 hi] 29)
  obtain ⟨vi, vs, c0, c1, _, _, hi', hs'⟩ := h.carry hB0
  obtain ⟨ai, ci, rfl, hI⟩ := hi'.form
  obtain ⟨az, cs, rfl, hS⟩ := hs'.form
  rw [List.length_map] at c0
  have e0 : (w.alloc (.cells #[.int .i64 lo, .int .i64 hi] 29)).cell? ⟨w.heap.size, 0, none⟩ = some (.int .i64 lo) := by simp
  have e1 : (w.alloc (.cells #[.int .i64 lo, .int .i64 hi] 29)).cell? ⟨w.heap.size, 1, none⟩ = some (.int .i64 hi) := by simp
  have hz0 : (w.alloc (.cells #[.int .i64 lo, .int .i64 hi] 29)).heap.size = w.heap.size + 1 := by simp
  clear h hi' hs'
  go_enter Tryd.func46, Tryd.ntmps46
  generalize hW0 : w.alloc (.cells #[.int .i64 lo, .int .i64 hi] 29) = W0 at *
  have HI : Hid (∀ j, (hj : j < L.length) → ai = some ⟨bi, 0, none⟩ ∧ W0.cell? ⟨bi, j, none⟩ = some (.int .i64 L[j].id)) := fun j hj => by
    have := hI j (by simpa using hj)
    simpa using this
  have HS := hide hS
  have HC := hide c0
  have HE := hide (And.intro e0 e1)
  have HZ := hide hz0
  have HB0 := hide hB0
  have hBl := lt_of_cell c0
  have hc1 := c1
  clear hI hS c0 e0 e1 hz0 hB0
  go_wp2
  clear hW0 hc1 c1
  go_loopw [5, 13] (fun v i x => ∃ k : Nat, k ≤ L.length ∧ i = .int .i64 k ∧ x.ownsRow W0.heap.size 3 1 v (((L.take k).filter (meetP lo hi)).map (·.id)).length ((((L.take k).filter (meetP lo hi)).map (·.id)).map (Value.int .i64)) ∧ Below W0.heap.size W0 x) (fun _ i _ => L.length - (intOf i).toNat)
  case atStart => exact ⟨0, Nat.zero_le _, rfl, by simpa using World.ownsRow_nil _ _ _ _, Below.refl _ _⟩
  case round =>
    obtain ⟨k, hk, rfl, hown, hb⟩ := hrel
    by_cases hlt : k < L.length
    · have hlt' : (k : Int) < (L.length : Int) := by omega
      obtain ⟨rfl, s0, s1⟩ := unhide HS k hlt
      obtain ⟨rfl, i0⟩ := unhide HI k hlt
      have t0 := (hb.cell (p := ⟨bs, k * 2, none⟩) (lt_of_cell s0)).trans s0
      have t1 := (hb.cell (p := ⟨bs, k * 2 + 1, none⟩) (lt_of_cell s1)).trans s1
      have hz := hb.size
      have hw0 : w.heap.size < W0.heap.size := by have := unhide HZ; omega
      have BX : Hid (Below W0.heap.size W0 (wr.alloc (.cells #[.int .i64 L[k].lo, .int .i64 L[k].hi] 29))) := hb.alloc hz _
      have f0 := ((unhide BX).cell (p := ⟨w.heap.size, 0, none⟩) hw0).trans (unhide HE).1
      have f1 := ((unhide BX).cell (p := ⟨w.heap.size, 1, none⟩) hw0).trans (unhide HE).2
      have HA := hide (fun W => ref_Right lo hi W)
      have HF := hide (filter_snoc (meetP lo hi) L k hlt)
      have hFl := filter_len (meetP lo hi) L k
      have HB := hide hb
      have HO := hide hown
      clear hb hown s0 s1
      have hF : ∃ F, F = ((L.take k).filter (meetP lo hi)).map (·.id) := ⟨_, rfl⟩
      obtain ⟨F, hF⟩ := hF
      rw [← hF] at HO HF hFl
      clear hF
      have hF3 : F.length < 1099511627776 := by omega
      have HT := hide i0
      clear i0
      have HM : Hid (meetP lo hi L[k] = (rightB lo hi && decide (max lo L[k].lo < min hi L[k].hi))) := rfl
      go_wp2_with fail
      refine (unhide HA _).mono ?_
      rintro e w2 ⟨rfl, hw2⟩
      have B2 : Hid (Below wr.heap.size wr w2) := by unfold Hid; rw [hw2]; exact (below_box _ _).trans ((below_box _ _).mono (by simp))
      have BY := hide ((unhide HB).trans ((unhide B2).mono hz))
      have c2 := ((unhide BY).cell (p := ⟨B, 0, none⟩) hBl).trans (unhide HC)
      have i2 := ((unhide BY).cell (p := ⟨bi, k, none⟩) (lt_of_cell (unhide HT))).trans (unhide HT)
      have g0 := ((unhide BY).cell (p := ⟨w.heap.size, 0, none⟩) hw0).trans (unhide HE).1
      have g1 := ((unhide BY).cell (p := ⟨w.heap.size, 1, none⟩) hw0).trans (unhide HE).2
      have x0 : w2.cell? ⟨wr.heap.size, 0, none⟩ = some (.int .i64 L[k].lo) := by rw [hw2, World.cell?_alloc_lt _ _ _ (by simp)]; simp
      have x1 : w2.cell? ⟨wr.heap.size, 1, none⟩ = some (.int .i64 L[k].hi) := by rw [hw2, World.cell?_alloc_lt _ _ _ (by simp)]; simp
      clear hw2 HA HT f0 f1 BX
      by_cases hr : rightB lo hi = true
      · rw [hr] at HM ⊢
        clear hr
        have HK : Hid (∃ a b, max lo L[k].lo = a ∧ min hi L[k].hi = b) := ⟨_, _, rfl, rfl⟩
        by_cases hm : max lo L[k].lo < min hi L[k].hi
        · have hmm : meetP lo hi L[k] = true := by rw [unhide HM]; simp only [Bool.true_and, decide_eq_true_eq]; exact hm
          have HF' : Hid (((L.take (k + 1)).filter (meetP lo hi)).map (·.id) = F ++ [L[k].id]) := by have := unhide HF; rw [hmm] at this; exact this
          clear HF HM hmm
          generalize L[k].id = y at *
          have O2 := hide (ownsRow_carry (unhide HO) (unhide B2))
          go_wp2_with (at_builtin; refine wpList_appI _ rfl (.tmp 33) (.tmp 41) rfl W0.heap.size _ F rfl ((unhide O2).alloc _) w2.heap.size y rfl ?d0 hF3 ?d3 ?_)
          case d0 => simp
          case d3 => have := (unhide B2).size; simp; omega
          intro v' wn k1 k2
          have HBN := hide (append_stepI hz (unhide HB) (unhide B2) hz (unhide HO) k2)
          have HON : Hid (wn.ownsRow W0.heap.size 3 1 v' (((L.take (k + 1)).filter (meetP lo hi)).map (·.id)).length ((((L.take (k + 1)).filter (meetP lo hi)).map (·.id)).map (Value.int .i64))) := by unfold Hid; rw [unhide HF']; simpa using k1
          clear k1 k2 HO O2 HB B2 c2 i2 HS HI HC HF' g0 g1 x0 x1
          go_wp2
          go_roundw
          case rel => exact ⟨k + 1, by omega, by go_num, unhide HON, unhide HBN⟩
          case measure => simp [intOf]; omega
        · have hmm : meetP lo hi L[k] = false := by rw [unhide HM]; simp only [Bool.true_and, decide_eq_false_iff_not]; exact hm
          have HF' : Hid (((L.take (k + 1)).filter (meetP lo hi)).map (·.id) = F) := by have := unhide HF; rw [hmm] at this; unfold Hid; simpa using this
          have HON : Hid (w2.ownsRow W0.heap.size 3 1 u5 (((L.take (k + 1)).filter (meetP lo hi)).map (·.id)).length ((((L.take (k + 1)).filter (meetP lo hi)).map (·.id)).map (Value.int .i64))) := by unfold Hid; rw [unhide HF']; exact ownsRow_carry (unhide HO) (unhide B2)
          clear HF HM hmm HO HB B2 c2 i2 HS HI HC HF'
          go_wp2
          go_roundw
          case rel => exact ⟨k + 1, by omega, by go_num, unhide HON, unhide BY⟩
          case measure => simp [intOf]; omega
      · have hr' : rightB lo hi = false := by simpa using hr
        rw [hr'] at HM ⊢
        have hmm : meetP lo hi L[k] = false := by rw [unhide HM]; rfl
        clear hr hr' g0 g1 x0 x1
        have HF' : Hid (((L.take (k + 1)).filter (meetP lo hi)).map (·.id) = F) := by have := unhide HF; rw [hmm] at this; unfold Hid; simpa using this
        have HON : Hid (w2.ownsRow W0.heap.size 3 1 u5 (((L.take (k + 1)).filter (meetP lo hi)).map (·.id)).length ((((L.take (k + 1)).filter (meetP lo hi)).map (·.id)).map (Value.int .i64))) := by unfold Hid; rw [unhide HF']; exact ownsRow_carry (unhide HO) (unhide B2)
        clear HF HM hmm HO HB B2 c2 i2 HS HI HC HF'
        go_wp2
        go_roundw
        case rel => exact ⟨k + 1, by omega, by go_num, unhide HON, unhide BY⟩
        case measure => simp [intOf]; omega
    · have hlt' : ¬ (k : Int) < (L.length : Int) := by omega
      obtain rfl : k = L.length := by omega
      rw [List.take_length] at hown
      have HO := hide (ownsRow_rebase hown (base' := w.heap.size) (by have := unhide HZ; omega))
      have HB := hide ((unhide HB0).trans (hb.mono (by have := unhide HZ; omega)))
      clear hown hb HS HI HC
      go_wp2
      go_ret
      exact ⟨_, rfl, unhide HO, unhide HB⟩

/-- The span of a number, as the document's tree tells it. -/
def SpanSays (L : List Ent) (id : Int) (w : World) (e : Ending) (w' : World) : Prop :=
  e = .returned (.tuple #[.agg #[.int .i64 (spanT L id).1, .int .i64 (spanT L id).2.1], .int .i64 (spanT L id).2.2]) ∧ Below w.heap.size w w'

set_option maxRecDepth 100000 in
set_option maxHeartbeats 2000000 in
theorem ref_Span (L : List Ent) (B bi bs : Nat) (id : Int) (w : World) (hr : Rising L) (hl : L.length ≤ 100000) (h : RefTree w B bi bs L) :
    Calls Tryd.prog 40 #[.pointer (some ⟨B, 0, none⟩), .int .i64 id] w (SpanSays L id w) := by
  have hB0 := below_box w (.cells #[.int .i64 0, .int .i64 0] 29)
  have HF := hide (ref_find L B bi bs id _ hr hl (h.carry hB0))
  have hk := posT_le L id
  obtain ⟨vi, vs, _, c1, _, _, _, hs'⟩ := h.carry hB0
  obtain ⟨az, cs, rfl, hS⟩ := hs'.form
  have HS := hide hS
  clear hS hs' h
  cases hf : foundT L id with
  | false =>
    have E : Hid (spanT L id = (0, 0, 7)) := by unfold Hid spanT; rw [dif_neg (by rw [hf]; decide)]
    rw [hf] at HF
    clear HS c1 hf
    go_enter Tryd.func40, Tryd.ntmps40
    go_wp2_with fail
    refine (unhide HF).mono ?_
    rintro e w1 ⟨rfl, b1⟩
    have p0 := (b1.cell (p := ⟨w.heap.size, 0, none⟩) (by simp)).trans (show (w.alloc (.cells #[.int .i64 0, .int .i64 0] 29)).cell? ⟨w.heap.size, 0, none⟩ = some (.int .i64 0) by simp)
    have p1 := (b1.cell (p := ⟨w.heap.size, 1, none⟩) (by simp)).trans (show (w.alloc (.cells #[.int .i64 0, .int .i64 0] 29)).cell? ⟨w.heap.size, 1, none⟩ = some (.int .i64 0) by simp)
    have f0 := (frozen_below (a := ⟨w.heap.size, 0, none⟩) b1 (by simp)).trans (show (w.alloc (.cells #[.int .i64 0, .int .i64 0] 29)).frozen? ⟨w.heap.size, 0, none⟩ = false by simp)
    have f1 := (frozen_below (a := ⟨w.heap.size, 1, none⟩) b1 (by simp)).trans (show (w.alloc (.cells #[.int .i64 0, .int .i64 0] 29)).frozen? ⟨w.heap.size, 1, none⟩ = false by simp)
    have HB1 := hide (hB0.trans (b1.mono hB0.size))
    clear HF b1 hB0
    have q := two_set w1 w.heap.size (.int .i64 0) (.int .i64 0) _ _ p0 p1
    go_wp2
    exact bodyPost_ret (v := .tuple #[.agg #[.int .i64 0, .int .i64 0], .int .i64 7]) (by simp [results, Tryd.results40, go_sem, q.1, q.2]) rfl ⟨by rw [unhide E], ((unhide HB1).setCell (Nat.le_refl _) _).setCell (Nat.le_refl _) _⟩
  | true =>
    obtain ⟨hlt, hid⟩ := found_at L id hf
    have E : Hid (spanT L id = (L[posT L id].lo, L[posT L id].hi, 0)) := by unfold Hid spanT; rw [dif_pos hf]
    rw [hf] at HF
    obtain ⟨rfl, s0, s1⟩ := unhide HS _ hlt
    have hlt' : (posT L id : Int) < (L.length : Int) := by omega
    clear HS hf hid hk
    generalize L[posT L id].lo = lo at *
    generalize L[posT L id].hi = hi at *
    generalize posT L id = k at *
    have hsl := lt_of_cell s0
    have hcl := lt_of_cell c1
    go_enter Tryd.func40, Tryd.ntmps40
    go_wp2_with fail
    refine (unhide HF).mono ?_
    rintro e w1 ⟨rfl, b1⟩
    have p0 := (b1.cell (p := ⟨w.heap.size, 0, none⟩) (by simp)).trans (show (w.alloc (.cells #[.int .i64 0, .int .i64 0] 29)).cell? ⟨w.heap.size, 0, none⟩ = some (.int .i64 0) by simp)
    have p1 := (b1.cell (p := ⟨w.heap.size, 1, none⟩) (by simp)).trans (show (w.alloc (.cells #[.int .i64 0, .int .i64 0] 29)).cell? ⟨w.heap.size, 1, none⟩ = some (.int .i64 0) by simp)
    have f0 := (frozen_below (a := ⟨w.heap.size, 0, none⟩) b1 (by simp)).trans (show (w.alloc (.cells #[.int .i64 0, .int .i64 0] 29)).frozen? ⟨w.heap.size, 0, none⟩ = false by simp)
    have f1 := (frozen_below (a := ⟨w.heap.size, 1, none⟩) b1 (by simp)).trans (show (w.alloc (.cells #[.int .i64 0, .int .i64 0] 29)).frozen? ⟨w.heap.size, 1, none⟩ = false by simp)
    have d1 := (b1.cell (p := ⟨B, 1, none⟩) hcl).trans c1
    have d2 := (b1.cell (p := ⟨bs, k * 2, none⟩) hsl).trans s0
    have d3 := (b1.cell (p := ⟨bs, k * 2 + 1, none⟩) hsl).trans s1
    have HB1 := hide (hB0.trans (b1.mono hB0.size))
    clear HF b1 hB0 s0 s1 c1 hsl hcl
    have q := two_set w1 w.heap.size (.int .i64 lo) (.int .i64 hi) _ _ p0 p1
    go_wp2
    exact bodyPost_ret (v := .tuple #[.agg #[.int .i64 lo, .int .i64 hi], .int .i64 0]) (by simp [results, Tryd.results40, go_sem, q.1, q.2]) rfl ⟨by rw [unhide E], ((unhide HB1).setCell (Nat.le_refl _) _).setCell (Nat.le_refl _) _⟩

end Go.Proofs.YtfcmkaiocnelgaaDoor
