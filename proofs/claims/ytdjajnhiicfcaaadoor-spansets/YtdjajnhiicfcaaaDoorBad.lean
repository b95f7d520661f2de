/- Of, of spans that came in: a set, or the first one that may not be. -/
import Derived.Test.YtdjajnhiicfcaaaDoorRef
namespace Go.Proofs.YtdjajnhiicfcaaaDoor
open Go.RowKit Palim

/-- Of, of spans that may be. -/
theorem of_reads (l : List (Int × Int)) (v : Value) (w : World) (hl : l.length < 1099511627) (hr : ∀ x, x ∈ l → rightB x.1 x.2 = true) (h : Reads w v l) : Calls Tryd.prog 7 #[v] w (OfGives w l) := by
  obtain ⟨ad, cap, rfl, h2⟩ := h
  rcases h2 with rfl | ⟨b, off, rfl, h4, h5⟩
  · exact of_none ad cap w
  · exact of_cells l b off cap w hl h4 hr h5

/-- The first one that may not be. -/
def FirstBad (l : List (Int × Int)) (i : Nat) : Prop := ∃ h : i < l.length, rightB l[i].1 l[i].2 = false ∧ ∀ j, (hj : j < i) → rightB l[j].1 l[j].2 = true

theorem first_bad : ∀ (l : List (Int × Int)), (∀ x, x ∈ l → rightB x.1 x.2 = true) ∨ ∃ i, FirstBad l i
  | [] => Or.inl (by simp)
  | x :: l => by
      cases hx : rightB x.1 x.2
      · exact Or.inr ⟨0, by simp, by simpa using hx, fun j hj => absurd hj (Nat.not_lt_zero _)⟩
      · rcases first_bad l with h | ⟨i, h1, h2, h3⟩
        · left
          intro y hy
          rcases List.mem_cons.1 hy with rfl | hy
          · exact hx
          · exact h y hy
        · refine Or.inr ⟨i + 1, by simpa using h1, by simpa using h2, fun j hj => ?_⟩
          cases j with
          | zero => simpa using hx
          | succ j => simpa using h3 j (by omega)

/-- What Of returns where one may not be: an error at its place. -/
def BadGives (w : World) (i : Nat) (e : Ending) (w' : World) : Prop :=
  ∃ b, e = .returned (.tuple #[.pointer none, .iface 51 (.pointer (some ⟨b, 0, none⟩))]) ∧ w'.cell? ⟨b, 0, none⟩ = some (.int .i64 1) ∧ w'.cell? ⟨b, 1, none⟩ = some (.int .i64 i) ∧ Below w.heap.size w w'

set_option maxHeartbeats 4000000 in
theorem of_bad_cells (l : List (Int × Int)) (i0 b off cap : Nat) (w : World) (hl : l.length < 1099511627) (hb0 : b < w.heap.size) (hbad : FirstBad l i0)
    (hc : ∀ k, (hk : k < l.length) → w.cell? ⟨b, off + k * 2, none⟩ = some (.int .i64 l[k].1) ∧ w.cell? ⟨b, off + k * 2 + 1, none⟩ = some (.int .i64 l[k].2)) :
    Calls Tryd.prog 7 #[.slice (some ⟨b, off, none⟩) l.length cap] w (BadGives w i0) := by
  obtain ⟨hi0, hb1, hb2⟩ := hbad
  have HC := hide hc
  have HB1 := hide hb1
  have HB2 := hide hb2
  clear hc hb1 hb2
  go_enter Tryd.func7, Tryd.ntmps7
  go_wp2_with (at_make; refine wpList_make58 _ rfl _ _ rfl w.heap.size l.length rfl rfl (by omega) (Nat.le_refl _) ?_)
  intro v0 w0 k1 k2
  have HO0 := hide k1
  have HB0 := hide (below_grown_none k2)
  clear k1 k2
  go_wp2
  go_loopw [4, 12] (fun v i wr => ∃ k : Nat, k ≤ i0 ∧ i = .int .i64 k ∧ wr.ownsRow w.heap.size 54 2 v (l.take k).length (encs (l.take k)) ∧ Below w.heap.size w wr) (fun _ i _ => l.length - (intOf i).toNat)
  case atStart => exact ⟨0, Nat.zero_le _, rfl, unhide HO0, unhide HB0⟩
  case round =>
    obtain ⟨k, hk, rfl, hown, hb⟩ := hrel
    have hlt : k < l.length := by omega
    have c0 := (hb.cell (p := ⟨b, off + k * 2, none⟩) hb0).trans (unhide HC k hlt).1
    have c1 := (hb.cell (p := ⟨b, off + k * 2 + 1, none⟩) hb0).trans (unhide HC k hlt).2
    have hz := hb.size
    by_cases hki : k = i0
    · subst hki
      have hR := fun W => span_Right l[k].1 l[k].2 W
      rw [unhide HB1] at hR
      have HRk := hide hR
      have HB := hide hb
      clear hR hown hb HC HB1 HB2
      generalize l[k].1 = x1 at c0 HRk
      generalize l[k].2 = x2 at c1 HRk
      go_wp2_with fail
      refine (unhide HRk _).mono ?_
      rintro e w1 ⟨rfl, hw1⟩
      subst hw1
      go_wp2
      go_ret2
      refine ⟨wr.heap.size + 1 + 1, rfl, ?_, ?_, ?_⟩
      · rw [World.cell?_alloc_at _ _ _ _ (by simp)]; rfl
      · rw [World.cell?_alloc_at _ _ _ _ (by simp)]; rfl
      · exact (((unhide HB).alloc (by omega) _).alloc (by simp; omega) _).alloc (by simp; omega) _
    · have hrk := unhide HB2 k (by omega)
      have hR := fun W => span_Right l[k].1 l[k].2 W
      rw [hrk] at hR
      have HRk := hide hR
      have htk : l.take (k + 1) = l.take k ++ [l[k]] := List.take_succ_eq_append_getElem hlt
      have HT : Hid (l.take (k + 1) = l.take k ++ [(l[k].1, l[k].2)]) := htk
      clear htk hrk hR
      generalize l[k].1 = x1 at c0 HT HRk
      generalize l[k].2 = x2 at c1 HT HRk
      have hlk : (l.take k).length < 1099511627776 := by simp; omega
      have HO := hide hown
      have HB := hide hb
      clear hown hb HC HB1 HB2
      have hF1 : ∃ F, F = l.take k := ⟨_, rfl⟩
      obtain ⟨F, hF⟩ := hF1
      rw [← hF] at HO HT hlk
      clear hF
      go_wp2_with fail
      refine (unhide HRk _).mono ?_
      rintro e w1 ⟨rfl, hw1⟩
      subst hw1
      go_wp2_with (at_builtin; refine wpList_app58 _ rfl (.tmp 24) (.tmp 30) rfl w.heap.size _ F rfl ((((unhide HO).alloc _).alloc _).alloc _) (wr.heap.size + 1 + 1) x1 x2 rfl ?d0 ?d1 hlk ?d3 ?_)
      case d0 => rw [World.cell?_alloc_at _ _ _ _ (by simp)]; rfl
      case d1 => rw [World.cell?_alloc_at _ _ _ _ (by simp)]; rfl
      case d3 => simp; omega
      intro v' wn k1 k2
      have HB2 := hide (of_step hz (unhide HB) (unhide HO) k2)
      have HO2 : Hid (wn.ownsRow w.heap.size 54 2 v' (l.take (k + 1)).length (encs (l.take (k + 1)))) := by unfold Hid; rw [HT.out]; simpa using k1
      clear k1 k2
      go_wp2
      go_roundw
      case rel => exact ⟨k + 1, by omega, by go_num, HO2.out, unhide HB2⟩
      case measure => simp [intOf]; omega

theorem of_bad (l : List (Int × Int)) (i0 : Nat) (v : Value) (w : World) (hl : l.length < 1099511627) (hbad : FirstBad l i0) (h : Reads w v l) : Calls Tryd.prog 7 #[v] w (BadGives w i0) := by
  obtain ⟨ad, cap, rfl, h2⟩ := h
  rcases h2 with rfl | ⟨b, off, rfl, h4, h5⟩
  · obtain ⟨h, _⟩ := hbad
    simp at h
  · exact of_bad_cells l i0 b off cap w hl h4 hbad h5

end Go.Proofs.YtdjajnhiicfcaaaDoor
