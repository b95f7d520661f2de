/- What the statement on sums makes of its arguments: sets of small times; and that two sets are the same. -/
import Derived.Test.YtdjajnhiicfcaaaOf
import Derived.Test.YtdjajnhiicfcaaaHas
namespace Go.Proofs.Ytdjajnhiicfcaaa
open Go.RowKit Palim

def pickI (a n : Int) : Int := wrap64 ((a % 18446744073709551616).tmod n)

theorem pick_200 (a : Int) : 0 ≤ pickI a 200 ∧ pickI a 200 < 200 := by
  unfold pickI wrap64
  have h : 0 ≤ a % 18446744073709551616 := by omega
  rw [Int.tmod_eq_emod_of_nonneg h]
  omega
theorem pick_30 (a : Int) : 0 ≤ pickI a 30 ∧ pickI a 30 < 30 := by
  unfold pickI wrap64
  have h : 0 ≤ a % 18446744073709551616 := by omega
  rw [Int.tmod_eq_emod_of_nonneg h]
  omega

set_option maxHeartbeats 400000 in
theorem keep_pick (a : Int) (n : Int) (w : World) (h : n = 200 ∨ n = 30) : Calls Try.prog 27 #[.int .i64 a, .int .i64 n] w fun e w' => e = .returned (.int .i64 (pickI a n)) ∧ w' = w := by
  have hw := IntKind.wrap_u64 a
  unfold pickI
  rw [← hw]
  clear hw
  rcases h with rfl | rfl
  · go_enter Try.func27, Try.ntmps27
    go_wp2
    go_ret
    exact ⟨rfl, rfl⟩
  · go_enter Try.func27, Try.ntmps27
    go_wp2
    go_ret
    exact ⟨rfl, rfl⟩

/-- A span of small times. -/
def mk (s : Int × Int) : Int × Int := (pickI s.1 200 - 100, pickI s.1 200 - 100 + 1 + pickI s.2 30)
def mkL (l : List (Int × Int)) : List (Int × Int) := (l.take 20).map mk

theorem mkL_right (l : List (Int × Int)) : ∀ x, x ∈ mkL l → rightB x.1 x.2 = true := by
  intro x hx
  obtain ⟨y, _, rfl⟩ := List.mem_map.1 hx
  have h1 := pick_200 y.1
  have h2 := pick_30 y.2
  unfold rightB
  refine decide_eq_true ?_
  simp only [mk]
  omega
theorem mkL_length (l : List (Int × Int)) : (mkL l).length ≤ 20 := by simp [mkL]; omega

/-- What a slice of spans holds that came in. -/
def Reads (w : World) (v : Value) (l : List (Int × Int)) : Prop :=
  ∃ ad cap, v = .slice ad l.length cap ∧ (l = [] ∨ ∃ b off, ad = some ⟨b, off, none⟩ ∧ b < w.heap.size ∧ ∀ k, (hk : k < l.length) → w.cell? ⟨b, off + k * 2, none⟩ = some (.int .i64 l[k].1) ∧ w.cell? ⟨b, off + k * 2 + 1, none⟩ = some (.int .i64 l[k].2))

theorem Reads.carry {w w' : World} {v : Value} {l : List (Int × Int)} (h : Reads w v l) (hb : Below w.heap.size w w') : Reads w' v l := by
  obtain ⟨ad, cap, h1, h2⟩ := h
  refine ⟨ad, cap, h1, ?_⟩
  rcases h2 with h2 | ⟨b, off, h3, h4, h5⟩
  · exact Or.inl h2
  · exact Or.inr ⟨b, off, h3, Nat.lt_of_lt_of_le h4 hb.size, fun k hk => ⟨(hb.cell (p := ⟨b, off + k * 2, none⟩) h4).trans (h5 k hk).1, (hb.cell (p := ⟨b, off + k * 2 + 1, none⟩) h4).trans (h5 k hk).2⟩⟩

theorem made_step {w wr wn : World} {B : Nat} {v : Value} {l : List (Int × Int)} {o : Obj} (hB : B ≤ wr.heap.size) (hb : Below B w wr) (hown : wr.ownsRow B 23 2 v l.length (encs l))
    (hg : (wr.alloc o).grownBy wn v.ownBlock) : Below B w wn :=
  (hb.alloc hB _).grown hg (by simp; omega) (fun k hk => (hown.lt k hk).1)

/-- What made returns: a set that has just the times of its small spans. -/
def MadeGives (w : World) (l : List (Int × Int)) (e : Ending) (w' : World) : Prop :=
  ∃ R s, e = .returned s ∧ Joins (mkL l) R ∧ IsSet w' s R ∧ Below w.heap.size w w'

theorem isSet_ptr {w : World} {v : Value} {l : List (Int × Int)} (h : IsSet w v l) : ∃ s, v = .pointer (some ⟨s, 0, none⟩) := by
  obtain ⟨s, _, _, h, _⟩ := h
  exact ⟨s, h⟩

set_option maxHeartbeats 4000000 in
theorem made_cells (l : List (Int × Int)) (b off cap : Nat) (w : World) (hl : l.length < 1099511627) (hb0 : b < w.heap.size)
    (hc : ∀ k, (hk : k < l.length) → w.cell? ⟨b, off + k * 2, none⟩ = some (.int .i64 l[k].1) ∧ w.cell? ⟨b, off + k * 2 + 1, none⟩ = some (.int .i64 l[k].2)) :
    Calls Try.prog 17 #[.slice (some ⟨b, off, none⟩) l.length cap] w (MadeGives w l) := by
  have HC := hide hc
  clear hc
  go_enter Try.func17, Try.ntmps17
  go_wp2
  go_loopw [3, 4] (fun v i wr => ∃ k : Nat, k ≤ l.length ∧ k ≤ 20 ∧ i = .int .i64 k ∧ wr.ownsRow w.heap.size 23 2 v ((l.take k).map mk).length (encs ((l.take k).map mk)) ∧ Below w.heap.size w wr) (fun _ i _ => 20 - (intOf i).toNat)
  case atStart => exact ⟨0, Nat.zero_le _, Nat.zero_le _, rfl, World.ownsRow_nil _ _ _ _, Below.refl _ _⟩
  case round =>
    obtain ⟨k, hk, hk20, rfl, hown, hb⟩ := hrel
    by_cases hlt : k < l.length ∧ k < 20
    · obtain ⟨hlt, hlt2⟩ := hlt
      have c0 := (hb.cell (p := ⟨b, off + k * 2, none⟩) hb0).trans (unhide HC k hlt).1
      have c1 := (hb.cell (p := ⟨b, off + k * 2 + 1, none⟩) hb0).trans (unhide HC k hlt).2
      have htk : (l.take (k + 1)).map mk = (l.take k).map mk ++ [mk l[k]] := by rw [List.take_succ_eq_append_getElem hlt, List.map_append]; rfl
      have HT : Hid ((l.take (k + 1)).map mk = (l.take k).map mk ++ [(pickI l[k].1 200 - 100, pickI l[k].1 200 - 100 + 1 + pickI l[k].2 30)]) := htk
      clear htk
      generalize l[k].1 = x1 at c0 HT
      generalize l[k].2 = x2 at c1 HT
      have P1 := hide (fun W => keep_pick x1 200 W (Or.inl rfl))
      have P2 := hide (fun W => keep_pick x2 30 W (Or.inr rfl))
      have hp1 := pick_200 x1
      have hp2 := pick_30 x2
      generalize pickI x1 200 = p1 at P1 HT hp1
      generalize pickI x2 30 = p2 at P2 HT hp2
      obtain ⟨hp11, hp12⟩ := hp1
      obtain ⟨hp21, hp22⟩ := hp2
      have hz := hb.size
      have hlk : ((l.take k).map mk).length < 1099511627776 := by simp; omega
      have HO := hide hown
      have HB := hide hb
      clear hown hb HC
      have hF1 : ∃ F, F = (l.take k).map mk := ⟨_, rfl⟩
      obtain ⟨F, hF⟩ := hF1
      rw [← hF] at HO HT hlk
      clear hF
      go_wp2_with fail
      refine (unhide P1 _).mono ?_
      rintro e w1 ⟨rfl, hw1⟩
      subst hw1
      go_wp2_with fail
      refine (unhide P2 _).mono ?_
      rintro e w2 ⟨rfl, hw2⟩
      subst hw2
      clear P1 P2
      go_wp2_with (at_builtin; refine wpList_app23 _ rfl (.tmp 25) (.tmp 37) rfl w.heap.size _ F rfl ((unhide HO).alloc _) w2.heap.size (p1 - 100) (p1 - 100 + 1 + p2) rfl ?d0 ?d1 hlk ?d3 ?_)
      case d0 => simp
      case d1 => simp
      case d3 => simp; omega
      intro v' wn k1 k2
      have HB2 := hide (made_step hz (unhide HB) (unhide HO) k2)
      have HO2 : Hid (wn.ownsRow w.heap.size 23 2 v' ((l.take (k + 1)).map mk).length (encs ((l.take (k + 1)).map mk))) := by unfold Hid; rw [HT.out]; simpa using k1
      clear k1 k2
      go_wp2
      go_roundw
      case rel => exact ⟨k + 1, by omega, by omega, by go_num, HO2.out, unhide HB2⟩
      case measure => simp [intOf]; omega
    · have hkl : (l.take k).map mk = mkL l := by
        unfold mkL
        congr 1
        by_cases h20 : k = 20
        · rw [h20]
        · rw [List.take_of_length_le (by omega), List.take_of_length_le (by omega)]
      rw [hkl] at hown
      have HS := hide (set_Of (mkL l) _ _ wr (by have := mkL_length l; omega) (mkL_right l) hown)
      have HB := hide hb
      clear hown hb hkl HC
      by_cases hk2 : k < l.length
      all_goals
        go_wp2_with fail
        refine (unhide HS).mono ?_
        rintro e w1 ⟨R, hj, hb1, hres⟩
        rcases hres with ⟨_, s, rfl, hs⟩ | ⟨hbig, _⟩
        · obtain ⟨s, rfl⟩ := isSet_ptr hs
          have H1 := hide (And.intro hj (And.intro hs ((unhide HB).trans (hb1.mono (unhide HB).size))))
          clear hj hs hb1 HS HB
          go_wp2
          go_ret
          exact ⟨R, _, rfl, (unhide H1).1, (unhide H1).2.1, (unhide H1).2.2⟩
        · exfalso
          have h1 := hj.2.2.2
          have h2 := mkL_length l
          omega

set_option maxHeartbeats 2000000 in
theorem made_none (ad : Option Addr) (cap : Nat) (w : World) : Calls Try.prog 17 #[.slice ad 0 cap] w (MadeGives w []) := by
  have HS := hide (fun v hown => set_Of [] v w.heap.size w (by simp) (by simp) hown)
  go_enter Try.func17, Try.ntmps17
  go_wp2
  refine wp_loop_rounds 1 ?_
  rw [rounds_succ]
  go_wp2_with fail
  refine (unhide HS _ (World.ownsRow_nil _ _ _ _)).mono ?_
  rintro e w1 ⟨R, hj, hb1, hres⟩
  rcases hres with ⟨_, s, rfl, hs⟩ | ⟨hbig, _⟩
  · obtain ⟨s, rfl⟩ := isSet_ptr hs
    have H1 := hide (And.intro hj (And.intro hs hb1))
    clear hj hs hb1 HS
    go_wp2
    go_ret
    exact ⟨R, _, rfl, (unhide H1).1, (unhide H1).2.1, (unhide H1).2.2⟩
  · exfalso
    have h1 := hj.2.2.2
    simp at h1
    rw [h1] at hbig
    simp at hbig

/-- made, of a slice of spans that came in. -/
theorem keep_made (l : List (Int × Int)) (v : Value) (w : World) (hl : l.length < 1099511627) (h : Reads w v l) : Calls Try.prog 17 #[v] w (MadeGives w l) := by
  obtain ⟨ad, cap, rfl, h2⟩ := h
  rcases h2 with rfl | ⟨b, off, rfl, h4, h5⟩
  · exact made_none ad cap w
  · exact made_cells l b off cap w hl h4 h5


end Go.Proofs.Ytdjajnhiicfcaaa
