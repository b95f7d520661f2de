/- The set of all times that any of some spans has. -/
import Derived.Test.YtdjajnhiicfcaaaDoorSortS
namespace Go.Proofs.YtdjajnhiicfcaaaDoor
open Go.RowKit Palim

theorem wpList_make58 (w : World) {ops : Array Oper} {rest : List Oper} {o : Oper} {a : Act} {Q : Exit → Act → World → Prop}
    (hg : o.guard = none) (l c : Operand) (hop : o.op = Op.makeSlice 50 l c) (base n : Nat) (hl : a.eval l = .int .i64 0) (hc : a.eval c = .int .i64 n) (hn : n < 1099511627776) (b4 : base ≤ w.heap.size)
    (hK : ∀ v w', w'.ownsRow base 54 2 v ([] : List (Int × Int)).length (encs []) → w.grownBy w' none → wpList Tryd.prog ops Q rest (a.put o.dst v) w') :
    wpList Tryd.prog ops Q (o :: rest) a w := by
  obtain ⟨i0, hi0, hz0, hz1, hz2⟩ := info_parts info58
  exact wpList_make_own w hg l c 50 hop base 54 i0 (.agg #[.int .i64 0, .int .i64 0]) 2 Tryd.underlying50 hi0 hz0 hz1 .i64 .i64 n n hl hc rfl (by rw [hz2]; omega) (by unfold maxLen; omega) b4 (fun w' h1 h2 => hK _ w' h1 h2)

/-- What spans that come by their first times have together. -/
def Joins (l R : List (Int × Int)) : Prop := Canon R ∧ Bd R ∧ (∀ t, In R t ↔ In l t) ∧ R.length ≤ l.length

theorem joins_of {l l' R : List (Int × Int)} (hr : ∀ x, x ∈ l → rightB x.1 x.2 = true) (hp : l'.Perm l) (h : JInv l' l'.length R) : Joins l R := by
  obtain ⟨h1, h2, _, h4⟩ := h
  have hin : ∀ t, In R t ↔ In l t := by
    intro t
    rw [h2, List.take_length]
    unfold In
    constructor
    · rintro ⟨x, hx, k⟩; exact ⟨x, hp.mem_iff.1 hx, k⟩
    · rintro ⟨x, hx, k⟩; exact ⟨x, hp.mem_iff.2 hx, k⟩
  refine ⟨h1, bd_of h1 fun t ht => ?_, hin, by have := hp.length_eq; omega⟩
  obtain ⟨x, hx, k1, k2⟩ := (hin t).1 ht
  have := hr x hx
  simp [rightB] at this
  omega

theorem byFirst_of {l l' : List (Int × Int)} (hr : ∀ x, x ∈ l → rightB x.1 x.2 = true) (hp : l'.Perm l) (hs : ∀ i j, i < j → (hj : j < l'.length) → (hi : i < l'.length) → l'[i].1 ≤ l'[j].1) : ByFirst l' := by
  intro k hk
  refine ⟨?_, ?_⟩
  · have := hr _ (hp.mem_iff.1 (List.getElem_mem hk))
    simp [rightB] at this
    omega
  · intro x hx
    obtain ⟨i, hi, rfl⟩ := List.getElem_of_mem hx
    rw [List.getElem_drop]
    exact hs k (k + 1 + i) (by omega) (by simp at hi; omega) hk

/-- What Of returns, of spans that may be: a set, or that it would have too many spans. -/
def OfGives (w : World) (l : List (Int × Int)) (e : Ending) (w' : World) : Prop :=
  ∃ R, Joins l R ∧ Below w.heap.size w w' ∧
    ((R.length ≤ 60 ∧ ∃ s, e = .returned (.tuple #[s, .nilIface]) ∧ IsSet w' s R) ∨ (60 < R.length ∧ e = .returned (.tuple #[.pointer none, .iface 23 (.int .i64 4)])))

theorem of_step {w wr wn : World} {B : Nat} {v : Value} {l : List (Int × Int)} {x1 x2 : Int} (hB : B ≤ wr.heap.size) (hb : Below B w wr) (hown : wr.ownsRow B 54 2 v l.length (encs l))
    (hg : (((wr.alloc (.cells #[.int .i64 x1, .int .i64 x2] 29)).alloc (.cells #[.int .i64 x1, .int .i64 x2] 29)).alloc (.cells #[.int .i64 x1, .int .i64 x2] 54)).grownBy wn v.ownBlock) : Below B w wn :=
  (((hb.alloc hB _).alloc (by simp; omega) _).alloc (by simp; omega) _).grown hg (by simp; omega) (fun k hk => (hown.lt k hk).1)

set_option maxHeartbeats 4000000 in
theorem of_cells (l : List (Int × Int)) (b off cap : Nat) (w : World) (hl : l.length < 1099511627) (hb0 : b < w.heap.size) (hr : ∀ x, x ∈ l → rightB x.1 x.2 = true)
    (hc : ∀ k, (hk : k < l.length) → w.cell? ⟨b, off + k * 2, none⟩ = some (.int .i64 l[k].1) ∧ w.cell? ⟨b, off + k * 2 + 1, none⟩ = some (.int .i64 l[k].2)) :
    Calls Tryd.prog 7 #[.slice (some ⟨b, off, none⟩) l.length cap] w (OfGives w l) := by
  have HC := hide hc
  have HR := hide hr
  clear hc hr
  go_enter Tryd.func7, Tryd.ntmps7
  go_wp2_with (at_make; refine wpList_make58 _ rfl _ _ rfl w.heap.size l.length rfl rfl (by omega) (Nat.le_refl _) ?_)
  intro v0 w0 k1 k2
  have HO0 := hide k1
  have HB0 := hide (below_grown_none k2)
  clear k1 k2
  go_wp2
  go_loopw [4, 12] (fun v i wr => ∃ k : Nat, k ≤ l.length ∧ i = .int .i64 k ∧ wr.ownsRow w.heap.size 54 2 v (l.take k).length (encs (l.take k)) ∧ Below w.heap.size w wr) (fun _ i _ => l.length - (intOf i).toNat)
  case atStart => exact ⟨0, Nat.zero_le _, rfl, unhide HO0, unhide HB0⟩
  case round =>
    obtain ⟨k, hk, rfl, hown, hb⟩ := hrel
    by_cases hlt : k < l.length
    · have c0 := (hb.cell (p := ⟨b, off + k * 2, none⟩) hb0).trans (unhide HC k hlt).1
      have c1 := (hb.cell (p := ⟨b, off + k * 2 + 1, none⟩) hb0).trans (unhide HC k hlt).2
      have hrk := unhide HR l[k] (List.getElem_mem hlt)
      have htk : l.take (k + 1) = l.take k ++ [l[k]] := List.take_succ_eq_append_getElem hlt
      have HT : Hid (l.take (k + 1) = l.take k ++ [(l[k].1, l[k].2)]) := htk
      clear htk
      generalize l[k].1 = x1 at c0 HT hrk
      generalize l[k].2 = x2 at c1 HT hrk
      have hR := fun W => span_Right x1 x2 W
      rw [hrk] at hR
      have HRk := hide hR
      have hz := hb.size
      have hlk : (l.take k).length < 1099511627776 := by simp; omega
      have HO := hide hown
      have HB := hide hb
      clear hown hb hR hrk
      have hF1 : ∃ F, F = l.take k := ⟨_, rfl⟩
      obtain ⟨F, hF⟩ := hF1
      rw [← hF] at HO HT hlk
      clear hF
      go_wp2_with fail
      refine (unhide HRk _).mono ?_
      rintro e w1 ⟨rfl, hw1⟩
      subst hw1
      go_wp2_with (at_builtin; refine wpList_app58 _ rfl (.tmp 24) (.tmp 30) rfl w.heap.size _ F rfl ((((unhide HO).alloc _).alloc _).alloc _) (wr.heap.size + 1 + 1) x1 x2 rfl ?d0 ?d1 hlk ?d3 ?_)
      case d0 => rw [World.cell?_alloc_at _ _ _ _ (by simp)]; rfl
      case d1 => rw [World.cell?_alloc_at _ _ _ _ (by simp)]; rfl
      case d3 => simp; omega
      intro v' wn k1 k2
      have HB2 := hide (of_step hz (unhide HB) (unhide HO) k2)
      have HO2 : Hid (wn.ownsRow w.heap.size 54 2 v' (l.take (k + 1)).length (encs (l.take (k + 1)))) := by unfold Hid; rw [HT.out]; simpa using k1
      clear k1 k2
      go_wp2
      go_roundw
      case rel => exact ⟨k + 1, by omega, by go_num, HO2.out, unhide HB2⟩
      case measure => simp [intOf]; omega
    · have hkl : l.take k = l := List.take_of_length_le (by omega)
      rw [hkl] at hown
      have HS := hide (set_sort l _ wr _ (by omega) hown)
      have HB := hide hb
      have HO := hide hown
      clear hown hb hkl
      go_wp2_with fail
      refine (unhide HS).mono ?_
      rintro e w1 ⟨rfl, l', hp, hs, ho1, hg1⟩
      have hl' : l'.length < 1099511627 := by have := hp.length_eq; omega
      have HJ := hide (set_join l' _ _ w1 hl' (byFirst_of (unhide HR) hp hs) ho1)
      have HB1 := hide ((unhide HB).grown hg1 (unhide HB).size (fun k hk => ((unhide HO).lt k hk).1))
      have HP := hide hp
      clear hp hs ho1 hg1 HS HB HO
      go_wp2_with fail
      refine (unhide HJ).mono ?_
      rintro e w2 ⟨R, hj, v2, rfl, ho2, hb2⟩
      have HJR := hide (joins_of (unhide HR) (unhide HP) hj)
      have HB2 := hide ((unhide HB1).trans (hb2.mono (unhide HB1).size))
      have HO2 := hide ho2
      clear hj ho2 hb2 HJ HP HB1
      by_cases hl60 : R.length ≤ 60
      · go_wp2_with fail
        refine (set_bounded v2 R w2 _ (unhide HO2) hl60).mono ?_
        rintro e w4 ⟨s, rfl, hs, b4⟩
        have H4 := hide (And.intro hs ((unhide HB2).trans (b4.mono (unhide HB2).size)))
        clear hs b4
        go_wp2
        go_ret2
        exact ⟨R, unhide HJR, (unhide H4).2, Or.inl ⟨hl60, _, rfl, (unhide H4).1⟩⟩
      · go_wp2_with fail
        refine (set_bounded_no v2 R w2 _ (unhide HO2) (by omega)).mono ?_
        rintro e w4 ⟨rfl, rfl⟩
        go_wp2
        go_ret2
        exact ⟨R, unhide HJR, unhide HB2, Or.inr ⟨by omega, rfl⟩⟩

set_option maxHeartbeats 2000000 in
theorem of_none (ad : Option Addr) (cap : Nat) (w : World) : Calls Tryd.prog 7 #[.slice ad 0 cap] w (OfGives w []) := by
  go_enter Tryd.func7, Tryd.ntmps7
  go_wp2_with (at_make; refine wpList_make58 _ rfl _ _ rfl w.heap.size 0 rfl rfl (by omega) (Nat.le_refl _) ?_)
  intro v0 w0 k1 k2
  have HB := hide (below_grown_none k2)
  have HO := hide k1
  have HS := hide (set_sort [] v0 w0 _ (by simp) k1)
  clear k1 k2
  go_wp2
  refine wp_loop_rounds 1 ?_
  rw [rounds_succ]
  go_wp2_with fail
  refine (unhide HS).mono ?_
  rintro e w1 ⟨rfl, l', hp, hs, ho1, hg1⟩
  have hl' : l'.length < 1099511627 := by rw [hp.length_eq]; simp
  have HJ := hide (set_join l' _ _ w1 hl' (byFirst_of (l := []) (by simp) hp hs) ho1)
  have HB1 := hide ((unhide HB).grown hg1 (unhide HB).size (fun k hk => ((unhide HO).lt k hk).1))
  have HP := hide hp
  clear hp hs ho1 hg1 HS HB HO
  go_wp2_with fail
  refine (unhide HJ).mono ?_
  rintro e w2 ⟨R, hj, v2, rfl, ho2, hb2⟩
  have HJR := hide (joins_of (l := []) (by simp) (unhide HP) hj)
  have HB2 := hide ((unhide HB1).trans (hb2.mono (unhide HB1).size))
  have HO2 := hide ho2
  clear hj ho2 hb2 HJ HP HB1
  have hl60 : R.length ≤ 60 := Nat.le_trans (unhide HJR).2.2.2 (by simp)
  go_wp2_with fail
  refine (set_bounded v2 R w2 _ (unhide HO2) hl60).mono ?_
  rintro e w4 ⟨s, rfl, hs, b4⟩
  have H4 := hide (And.intro hs ((unhide HB2).trans (b4.mono (unhide HB2).size)))
  clear hs b4
  go_wp2
  go_ret2
  exact ⟨R, unhide HJR, (unhide H4).2, Or.inl ⟨hl60, _, rfl, (unhide H4).1⟩⟩

/-- Of, of a slice of spans that is the program's own. -/
theorem set_Of (l : List (Int × Int)) (v : Value) (base : Nat) (w : World) (hl : l.length < 1099511627) (hr : ∀ x, x ∈ l → rightB x.1 x.2 = true) (hown : w.ownsRow base 29 2 v l.length (encs l)) :
    Calls Tryd.prog 7 #[v] w (OfGives w l) := by
  rcases ownsRow_view hown with ⟨rfl, rfl⟩ | ⟨g, cap, rfl, hg, _, _, hc⟩
  · exact of_none _ _ w
  · exact of_cells l g 0 cap w hl hg hr (fun k hk => by simpa using hc k hk)

end Go.Proofs.YtdjajnhiicfcaaaDoor
