/- Texts of one proof, one behind the other. -/
import Derived.Test.YtfoojmflbifkpaaGreatDoorDh
import Derived.Test.YtfoojmflbifkpaaGreatDoorCp
import Derived.Deep.CutBlock
import Derived.Deep.RegionHeld3

/- The law of walks, walked. -/
namespace Go.Proofs.YtfoojmflbifkpaaGreatDoor
open Go.RowKit Go.Maps
def laterO (n : Int) : Fop := ⟨1, n, ⟨#[]⟩, 0, -1099511627776, 1099511627776, ⟨#[108, 97, 116, 101, 114]⟩⟩
abbrev laterB (n : Int) : Obj := .cells #[.int .i64 1, .int .i64 n, .string ⟨#[]⟩, .int .i64 0, .int .i64 (-1099511627776), .int .i64 1099511627776, .string ⟨#[108, 97, 116, 101, 114]⟩] 36
theorem later_ops (w : World) (n : Int) : OpsAt (w.alloc (laterB n)) w.heap.size 0 [laterO n] := by
  refine ⟨by simp, fun k hk => ?_⟩
  obtain rfl : k = 0 := by have : k < 1 := hk; omega
  simp [laterO]
theorem later_says {w y z : World} {B P R g m gr : Nat} {txs : List (List Fop)} {known : Int} {F G : Nat → Prop} {V : Ky → ByteArray} {L : List Ky} {X : List (Int × Nat)} {Nd : Nat → Gn} {Fs : Nat → Nat → Prop} (h : PqI w z P R txs known F G) (hB : ∀ i, F i → i < B) (hzy : Below z.heap.size z y) (hG : GrT B y g m gr V L X Nd Fs) (hg : ∀ i, graphF g m X Fs i → B ≤ i) (ht : Tab w) (n : Int) :
    Calls Tryz.prog 7 #[.pointer (some ⟨P, 0, none⟩), .slice (some ⟨y.heap.size, 0, none⟩) 1 1] (y.alloc (laterB n)) fun e y1 => ∃ u, e = .returned u ∧ GrT B y1 g m gr V L X Nd Fs ∧ Below w.heap.size w y1 := by
  have hb := below_box y (laterB n)
  have hz := (h.below hzy).below hb
  refine (commit_one hz.two.p h.k1 (ht.carry hz.low) [laterO n] _ (by show (1 : Nat) < 1099511627776; decide) (fun x hx => ?_) ⟨_, 1, rfl, .inr ⟨_, _, rfl, later_ops y n⟩⟩ (fun _ b o k c e => ?_)).mono ?_
  · obtain rfl := List.mem_singleton.1 hx
    exact ⟨by unfold maxLen; show (0 : Nat) ≤ _; decide, by unfold maxLen; show (5 : Nat) ≤ _; decide⟩
  · injection e with e1
    cases e1
    intro q
    have := PastW.lt h.two.p _ q
    have := hzy.size
    omega
  · rintro e y1 ⟨u, rfl, hk⟩
    exact ⟨u, rfl, (hG.below hb).keeps hk hB hg, hz.low.trans (keeps_below hk hz.fge hz.low.size)⟩
set_option maxRecDepth 100000 in
set_option maxHeartbeats 8000000 in
theorem law_walk (w : World) (L : List TxN) (at_ t n m hops : Int) (word : ByteArray) (ad : Option Addr) (cl : Nat) (hL : TxsHere w ad L) (hl : L.length ≤ 12) (hwd : word.size ≤ 60) (ht : Tab w) (hg : ErrorType w) (hwn : (Lit.int .i64 n).wf = true) (hwm : (Lit.int .i64 m).wf = true) (t0 : -9223372036854775808 ≤ t) (t1 : t ≤ 9223372036854775807) :
    Calls Tryz.prog 4 #[.slice ad L.length cl, .int .i64 at_, .int .i64 t, .int .i64 n, .int .i64 m, .int .i64 hops, .string word] w fun e w' => e = .returned (.bool true) ∧ Below w.heap.size w w' := by
  have HS := hide (pq_start w)
  have HL := hide hL
  have HT := hide ht
  have HG := hide hg
  have HWn := hide hwn
  have HWm := hide hwm
  have HT0 := hide t0
  have HT1 := hide t1
  have hlz : ¬ (12 : Int) < (L.length : Int) := by omega
  have hwz : ¬ (60 : Int) < (word.size : Int) := by omega
  clear hL ht hg hwn hwm t0 t1 hwd
  obtain ⟨nL, hnL⟩ : ∃ n, n = L.length := ⟨_, rfl⟩
  rw [← hnL] at hlz hl ⊢
  have HNL := hide hnL
  clear hnL
  go_enter Tryz.func4, Tryz.ntmps4
  go_wp2_with fail
  have HE0 : Hid (PqE w ((w.alloc (.cells #[.int .i64 0, .int .i64 0, .map none] 26)).alloc (.cells #[.slice none 0 0, .int .i64 0] 30)) w.heap.size (w.heap.size + 1)) := ⟨_, _, _, _, unhide HS⟩
  clear HS
  generalize (w.alloc (.cells #[.int .i64 0, .int .i64 0, .map none] 26)).alloc (.cells #[.slice none 0 0, .int .i64 0] 30) = W0 at *
  go_loopw [17] (fun i y => ∃ k : Nat, k ≤ nL ∧ i = .int .i64 k ∧ PqE w y w.heap.size (w.heap.size + 1)) (fun i _ => nL - (intOf i).toNat)
  case atStart => exact ⟨0, Nat.zero_le _, rfl, unhide HE0⟩
  case round =>
    obtain ⟨k, hk, rfl, hE⟩ := hrel
    have HE1 := hide hE
    clear hE HE0
    by_cases hlt : k < nL
    · have hlt' : (k : Int) < (nL : Int) := by omega
      have hk0 : (0 : Int) ≤ (k : Int) := by omega
      have HN1 : Hid (k < L.length) := by rw [← unhide HNL]; exact hlt
      obtain ⟨b, o, rfl, x0, hR, hn, hs⟩ := unhide HL k (unhide HN1)
      have q0 := ((unhide HE1).low.cell (p := _) (lt_of_cell x0)).trans x0
      have hbw : b < w.heap.size := lt_of_cell x0
      have HR := hide hR
      have HNm := hide hn
      have HSm := hide hs
      clear x0 hR hn hs
      generalize L[k] = z at *
      obtain ⟨v, l⟩ := z
      dsimp only at *
      obtain ⟨ad', cap', hv, _⟩ := unhide HR
      subst hv
      obtain ⟨txs, known, F, G, hI⟩ := unhide HE1
      have HI := hide hI
      have HFx : Hid (¬ F b) := fun q => by have := hI.fge _ q; omega
      have HRx : Hid (¬ b = w.heap.size + 1) := by unfold Hid; omega
      have HSh := hide (law_short l _ wr (unhide HNm) (unhide HSm) ((unhide HR).carry hI.low))
      have HX0 := hide q0
      clear hI hbw
      go_wp2_with fail
      refine (unhide HSh).mono ?_
      rintro e W2 ⟨r, rfl, hsh, hW2⟩
      obtain rfl : wr = W2 := hW2.symm
      clear hW2 HSh
      cases r with
      | false =>
        clear hsh q0
        go_wp2
        go_roundw
        case rel => exact ⟨k + 1, by omega, by go_num, unhide HE1⟩
        case measure => simp [intOf]; omega
      | true =>
        have HSo := hide (hsh rfl)
        clear hsh
        have HD := hide (below_drew wr)
        have C3 := hide (there_yet q0 (unhide HD))
        have hCo := commit_two_in ((unhide HI).below (unhide HD)) (unhide HT) (unhide HG) l _ (Nat.lt_of_le_of_lt (unhide HSo).1 (by decide)) (unhide HSm) (unhide HR)
        unfold CommitQ at hCo
        have HCo := hide hCo
        clear hCo
        go_upto_region 9 with fail
        refine wp_region_held_drew (S := fun x => x.cell? ⟨b, o + k, none⟩ = some (.slice ad' l.length cap')) (by kernel_rfl) (unhide C3) (fun hHeld => ?_)
        refine wpAnyH_take (i := 0) (oi := ?to0_1) (v := ?tv0_1) ?th0_1 (by kernel_rfl) (by kernel_rfl) (by kernel_rfl) ?tq0_1 (Or.inl ⟨?tw0_1, ?ty0_1⟩) (by assumption) ?tr0_1
        case th0_1 => (simp only [List.getElem?_toArray, List.getElem?_cons_zero]; rfl)
        case tq0_1 => exact fun _ _ _ h => h
        case tw0_1 => rfl
        case ty0_1 => (intro w' hSw; (try dsimp only at hSw); go_simp <;> with_reducible rfl)
        try simp only [Act.put, List.setIfInBounds_toArray, List.set_cons_zero, List.set_cons_succ]
        refine wpAnyH_take (i := 1) (oi := ?to1_1) (v := ?tv1_1) ?th1_1 (by kernel_rfl) (by kernel_rfl) (by kernel_rfl) ?tq1_1 (Or.inl ⟨?tw1_1, ?ty1_1⟩) (by assumption) ?tr1_1
        case th1_1 => (simp only [List.getElem?_toArray, List.getElem?_cons_zero, List.getElem?_cons_succ]; rfl)
        case tq1_1 => exact fun _ _ _ h => h
        case tw1_1 => rfl
        case ty1_1 => (intro w' hSw; (try dsimp only at hSw); go_simp <;> with_reducible rfl)
        try simp only [Act.put, List.setIfInBounds_toArray, List.set_cons_zero, List.set_cons_succ]
        refine wpAnyH_take (i := 2) (oi := ?to2_1) (v := ?tv2_1) ?th2_1 (by kernel_rfl) (by kernel_rfl) (by kernel_rfl) ?tq2_1 (Or.inl ⟨?tw2_1, ?ty2_1⟩) (by assumption) ?tr2_1
        case th2_1 => (simp only [List.getElem?_toArray, List.getElem?_cons_zero, List.getElem?_cons_succ]; rfl)
        case tq2_1 => exact fun _ _ _ h => h
        case tw2_1 => rfl
        case ty2_1 => (intro w' hSw; (try dsimp only at hSw); go_simp <;> with_reducible rfl)
        try simp only [Act.put, List.setIfInBounds_toArray, List.set_cons_zero, List.set_cons_succ]
        refine wpAnyH_take (i := 3) (oi := ?to3_1) (v := ?tv3_1) ?th3_1 (by kernel_rfl) (by kernel_rfl) (by kernel_rfl) ?tq3_1 (Or.inl ⟨?tw3_1, ?ty3_1⟩) (by assumption) ?tr3_1
        case th3_1 => (simp only [List.getElem?_toArray, List.getElem?_cons_zero, List.getElem?_cons_succ]; rfl)
        case tq3_1 => exact fun _ _ _ h => h
        case tw3_1 => rfl
        case ty3_1 => (intro w' hSw; (try dsimp only at hSw); go_simp <;> with_reducible rfl)
        try simp only [Act.put, List.setIfInBounds_toArray, List.set_cons_zero, List.set_cons_succ]
        refine wpAnyH_take (i := 5) (oi := ?to5_1) (v := ?tv5_1) ?th5_1 (by kernel_rfl) (by kernel_rfl) (by kernel_rfl) ?tq5_1 (Or.inl ⟨?tw5_1, ?ty5_1⟩) (by assumption) ?tr5_1
        case th5_1 => (simp only [List.getElem?_toArray, List.getElem?_cons_zero, List.getElem?_cons_succ]; rfl)
        case tq5_1 => exact fun _ _ _ h => h
        case tw5_1 => rfl
        case ty5_1 => (intro w' hSw; (try dsimp only at hSw); go_simp <;> with_reducible rfl)
        try simp only [Act.put, List.setIfInBounds_toArray, List.set_cons_zero, List.set_cons_succ]
        refine wpAnyH_take (i := 6) (oi := ?to6_1) (v := ?tv6_1) ?th6_1 (by kernel_rfl) (by kernel_rfl) (by kernel_rfl) ?tq6_1 (Or.inl ⟨?tw6_1, ?ty6_1⟩) (by assumption) ?tr6_1
        case th6_1 => (simp only [List.getElem?_toArray, List.getElem?_cons_zero, List.getElem?_cons_succ]; rfl)
        case tq6_1 => exact fun _ _ _ h => h
        case tw6_1 => rfl
        case ty6_1 => (intro w' hSw; (try dsimp only at hSw); go_simp <;> with_reducible rfl)
        try simp only [Act.put, List.setIfInBounds_toArray, List.set_cons_zero, List.set_cons_succ]
        refine wpAnyH_take (i := 7) (oi := ?to7_1) (v := ?tv7_1) ?th7_1 (by kernel_rfl) (by kernel_rfl) (by kernel_rfl) ?tq7_1 (Or.inl ⟨?tw7_1, ?ty7_1⟩) (by assumption) ?tr7_1
        case th7_1 => (simp only [List.getElem?_toArray, List.getElem?_cons_zero, List.getElem?_cons_succ]; rfl)
        case tq7_1 => exact fun _ _ _ h => h
        case tw7_1 => rfl
        case ty7_1 => (intro w' hSw; (try dsimp only at hSw); go_simp <;> with_reducible rfl)
        try simp only [Act.put, List.setIfInBounds_toArray, List.set_cons_zero, List.set_cons_succ]
        refine wpAnyH_take (i := 8) (oi := ?to8_1) (v := ?tv8_1) ?th8_1 (by kernel_rfl) (by kernel_rfl) (by kernel_rfl) ?tq8_1 (Or.inl ⟨?tw8_1, ?ty8_1⟩) (by assumption) ?tr8_1
        case th8_1 => (simp only [List.getElem?_toArray, List.getElem?_cons_zero, List.getElem?_cons_succ]; rfl)
        case tq8_1 => exact fun _ _ _ h => h
        case tw8_1 => rfl
        case ty8_1 => (intro w' hSw; (try dsimp only at hSw); go_simp <;> with_reducible rfl)
        try simp only [Act.put, List.setIfInBounds_toArray, List.set_cons_zero, List.set_cons_succ]
        refine wpAnyH_take (i := 9) (oi := ?to9_1) (v := ?tv9_1) ?th9_1 (by kernel_rfl) (by kernel_rfl) (by kernel_rfl) ?tq9_1 (Or.inl ⟨?tw9_1, ?ty9_1⟩) (by assumption) ?tr9_1
        case th9_1 => (simp only [List.getElem?_toArray, List.getElem?_cons_zero, List.getElem?_cons_succ]; rfl)
        case tq9_1 => exact fun _ _ _ h => h
        case tw9_1 => rfl
        case ty9_1 => (intro w' hSw; (try dsimp only at hSw); go_simp <;> with_reducible rfl)
        try simp only [Act.put, List.setIfInBounds_toArray, List.set_cons_zero, List.set_cons_succ]
        refine wpAnyH_ready (rs := [4]) (by kernel_rfl) (by simp) ?_
        refine AllReadyH.cons (o := ?co2) ?ch2 (fun K hK => ?cs2) ?cm2
        case ch2 => (simp only [List.getElem?_toArray, List.getElem?_cons_zero, List.getElem?_cons_succ]; rfl)
        case cm2 => exact AllReadyH.nil
        case cs2 =>
          go_simp
          refine (unhide HCo).mono ?_
          rintro e y1 ⟨u, rfl, hk1, hC1⟩
          have HX1 : Hid (y1.cell? ⟨b, o + k, none⟩ = some (.slice ad' l.length cap')) := (hk1.cell (p := ⟨b, o + k, none⟩) (lt_of_cell (unhide C3)) (unhide HFx)).trans (unhide C3)
          have HC1 := hide hC1
          clear hk1 hC1
          refine hK.out _ _ (unhide HX1) (fun hHeld => ?_)
          clear hK K
          try simp only [Act.put, List.setIfInBounds_toArray, List.set_cons_zero, List.set_cons_succ]
          refine wpAnyH_ready (rs := [10]) (by kernel_rfl) (by simp) ?_
          refine AllReadyH.cons (o := ?co6) ?ch6 (fun K hK => ?cs6) ?cm6
          case ch6 => (simp only [List.getElem?_toArray, List.getElem?_cons_zero, List.getElem?_cons_succ]; rfl)
          case cm6 => exact AllReadyH.nil
          case cs6 =>
            go_simp
            refine (unhide HC1).mono ?_
            rintro e y2 ⟨n', i', rfl, hk2, hE2, hC2⟩
            have HX2 : Hid (y2.cell? ⟨b, o + k, none⟩ = some (.slice ad' l.length cap')) := (hk2.cell (p := ⟨b, o + k, none⟩) (lt_of_cell (unhide HX1)) (unhide HRx)).trans (unhide HX1)
            have HE2 := hide hE2
            have HC2 := hide hC2
            clear hk2 hE2 hC2
            refine hK.out _ _ (unhide HX2) (fun hHeld => ?_)
            clear hK K
            try simp only [Act.put, List.setIfInBounds_toArray, List.set_cons_zero, List.set_cons_succ]
            refine wpAnyH_ready (rs := [11]) (by kernel_rfl) (by simp) ?_
            refine AllReadyH.cons (o := ?co7) ?ch7 (fun K hK => ?cs7) ?cm7
            case ch7 => (simp only [List.getElem?_toArray, List.getElem?_cons_zero, List.getElem?_cons_succ]; rfl)
            case cm7 => exact AllReadyH.nil
            case cs7 =>
              go_simp
              refine (unhide HC2).mono ?_
              rintro e y3 ⟨rfl, b3⟩
              have HE3 := hide ((unhide HE2).below b3)
              have HX3 := hide (there_yet (unhide HX2) b3)
              clear b3
              refine hK.out _ _ (unhide HX3) (fun hHeld => ?_)
              clear hK K
              try simp only [Act.put, List.setIfInBounds_toArray, List.set_cons_zero, List.set_cons_succ]
              refine wpAnyH_take (i := 12) (oi := ?to12_2) (v := ?tv12_2) ?th12_2 (by kernel_rfl) (by kernel_rfl) (by kernel_rfl) ?tq12_2 (Or.inl ⟨?tw12_2, ?ty12_2⟩) (by assumption) ?tr12_2
              case th12_2 => (simp only [List.getElem?_toArray, List.getElem?_cons_zero, List.getElem?_cons_succ]; rfl)
              case tq12_2 => exact fun _ _ _ h => h
              case tw12_2 => rfl
              case ty12_2 => (intro w' hSw; (try dsimp only at hSw); go_simp <;> with_reducible rfl)
              try simp only [Act.put, List.setIfInBounds_toArray, List.set_cons_zero, List.set_cons_succ]
              refine wpAnyH_done (by kernel_rfl) ?_ _
              clear hHeld
              go_wp2
              go_roundw
              case rel => exact ⟨k + 1, by omega, by go_num, unhide HE3⟩
              case measure => simp [intOf]; omega
    · have hlt' : ¬ (k : Int) < (nL : Int) := by omega
      clear hlt hk
      obtain ⟨txs, known, F, G, hI⟩ := unhide HE1
      have HI := hide hI
      by_cases he : keysE txs.length known at_ t = 0
      · have HRa := hide (r_at_ok hI.two at_ t he)
        have HOk : Hid (∀ k, refS txs k at_.toNat t ≠ ByteArray.empty → KyOk k ∧ keyB k.kind k.a k.word k.b = true) := fun k hk => refS_key hI.two.ok hk
        have HPa := hide (fun W (hb : Below wr.heap.size wr W) => q_at_ok (hI.two.below hb) at_ t he)
        have HFb : Hid (∀ i, F i → i < wr.heap.size) := fun i hi => PastW.lt hI.two.p i hi
        clear hI he
        generalize hVV : (fun k => refS txs k at_.toNat t) = V at HRa HPa
        have HOk2 : Hid (∀ k, V k ≠ ByteArray.empty → KyOk k ∧ keyB k.kind k.a k.word k.b = true) := by rw [← hVV]; exact unhide HOk
        clear hVV HOk
        go_wp2_with fail
        refine (unhide HRa).mono ?_
        rintro e W1 ⟨gr, Lk, rfl, hq, ho, hge, b1⟩
        have HPa1 := hide (unhide HPa W1 b1)
        have HB1 := hide b1
        have HQ := hide hq
        have HO := hide ho
        clear hq ho hge b1 HRa HPa
        go_wp2_with fail
        refine (unhide HPa1).mono ?_
        rintro e W2 ⟨g, mm, L', X, Nd, Fs, rfl, hp, ho', hall, hlen, hfg, b2⟩
        have HGr := hide (gr_two ((unhide HQ).below b2) (unhide HO) hp ho' hall (unhide HOk2))
        have HFg : Hid (∀ i, graphF g mm X Fs i → wr.heap.size ≤ i) := fun i hi => Nat.le_trans (unhide HB1).size (hfg i hi)
        have HB2 := hide ((unhide HB1).trans (b2.mono (unhide HB1).size))
        clear hp ho' hall hlen hfg b2 HPa1 HQ HO HOk2 HB1
        go_wp2_with fail
        refine (law_bare_no W2).mono ?_
        rintro e W3 ⟨rfl, b3⟩
        have HGr3 := hide ((unhide HGr).below b3)
        have HB3 := hide ((unhide HB2).trans (b3.mono (unhide HB2).size))
        have HLt := hide (later_says (unhide HI) (unhide HFb) (unhide HB3) (unhide HGr3) (unhide HFg) (unhide HT) n)
        clear b3 HGr HB2 HGr3 HB3 HFg HFb HI HE1
        go_wp2_with fail
        refine (unhide HLt).mono ?_
        rintro e y1 ⟨u, rfl, hGr1, hl1⟩
        have HGr := hide hGr1
        have HLo := hide hl1
        obtain ⟨e3, lw, htw⟩ := two_way hGr1 n m (unhide HWn) (unhide HWm) word
        have HTw := hide htw
        have HEd := hide (fun W (hb : Below y1.heap.size y1 W) => hGr1.below hb)
        have HP1 := hide (rg_Prop hGr1.q n word)
        clear hGr1 hl1 htw HLt
        go_wp2_with fail
        refine (unhide HP1).mono ?_
        rintro e y2 ⟨rfl, b2⟩
        have HB2 := hide b2
        have HP2 := hide (q_prop (unhide HEd y2 b2) n (unhide HWn) word)
        clear b2 HP1
        go_wp2_with fail
        refine (unhide HP2).mono ?_
        rintro e y3 ⟨rfl, b3⟩
        have HB3 := hide ((unhide HB2).trans (b3.mono (unhide HB2).size))
        generalize propV V n word = pv at *
        generalize propE V n word = pe at *
        have HP3 := hide (r_hops (unhide HEd y3 (unhide HB3)) n (unhide HWn) word hops)
        have HP4 := hide (fun W (hb : Below y1.heap.size y1 W) => q_hops (unhide HEd W hb) n (unhide HWn) word hops)
        clear b3 HP2 HB2
        generalize hopsL V Lk word n hops = hl at *
        generalize hopsE V n hops = he at *
        go_wp2_with fail
        refine (unhide HP3).mono ?_
        rintro e y4 ⟨h1, rfl, r4, b4⟩
        have HB4 := hide ((unhide HB3).trans (b4.mono (unhide HB3).size))
        have HR4 := hide r4
        have HP5 := hide (unhide HP4 y4 (unhide HB4))
        clear b4 r4 HP3 HB3 HP4
        go_wp2_with fail
        refine (unhide HP5).mono ?_
        rintro e y5 ⟨h2, rfl, r5, b5⟩
        have HB5 := hide ((unhide HB4).trans (b5.mono (unhide HB4).size))
        have HR5 := hide ((unhide HR4).carry b5)
        have HR5' := hide r5
        have HP6 := hide (unhide HTw y5 (unhide HB5)).2
        clear b5 r5 HP5 HB4 HR4
        go_wp2_with fail
        refine (unhide HP6).mono ?_
        rintro e y6 ⟨w1, rfl, r6, b6⟩
        have HB6 := hide ((unhide HB5).trans (b6.mono (unhide HB5).size))
        have HR6 := hide ((unhide HR5).carry b6)
        have HR6' := hide ((unhide HR5').carry b6)
        have HS6 := hide r6
        have HP7 := hide (unhide HTw y6 (unhide HB6)).1
        clear b6 r6 HP6 HB5 HR5 HR5' HTw
        go_wp2_with fail
        refine (unhide HP7).mono ?_
        rintro e y7 ⟨w2, rfl, r7, b7⟩
        have HB7 := hide ((unhide HB6).trans (b7.mono (unhide HB6).size))
        have HLo7 := hide ((unhide HLo).trans ((unhide HB7).mono (unhide HLo).size))
        have HR7 := hide ((unhide HR6).carry b7)
        have HR7' := hide ((unhide HR6').carry b7)
        have HS7 := hide ((unhide HS6).carry b7)
        have HS7' := hide r7
        have HX1 := hide (bare_err pe y7 ((unhide HG).carry (unhide HLo7)))
        clear b7 r7 HP7 HB6 HR6 HR6' HS6
        go_wp2_with fail
        refine (unhide HX1).mono ?_
        rintro e y8 ⟨rfl, b8⟩
        have HL8 := hide ((unhide HLo7).trans (b8.mono (unhide HLo7).size))
        have HV8 := hide b8
        have HX2 := hide (bare_err he y8 ((unhide HG).carry (unhide HL8)))
        clear b8 HX1
        go_wp2_with fail
        refine (unhide HX2).mono ?_
        rintro e y9 ⟨rfl, b9⟩
        have HL9 := hide ((unhide HL8).trans (b9.mono (unhide HL8).size))
        have HV9 := hide ((unhide HV8).trans (b9.mono (unhide HV8).size))
        have HX3 := hide (bare_err e3 y9 ((unhide HG).carry (unhide HL9)))
        clear b9 HX2 HV8 HL8
        go_wp2_with fail
        refine (unhide HX3).mono ?_
        rintro e z1 ⟨rfl, c1⟩
        have HV1 := hide ((unhide HV9).trans (c1.mono (unhide HV9).size))
        have HY1 := hide (same_ints_own ((unhide HR7').carry (unhide HV1)) ((unhide HR7).carry (unhide HV1)))
        clear c1 HX3 HV9 HL9
        go_wp2_with fail
        refine (unhide HY1).mono ?_
        rintro e z2 ⟨rfl, c2⟩
        have HV2 := hide ((unhide HV1).trans (c2.mono (unhide HV1).size))
        have HY2 := hide (same_ints_own ((unhide HS7').carry (unhide HV2)) ((unhide HS7).carry (unhide HV2)))
        clear c2 HY1 HV1
        go_wp2_with fail
        refine (unhide HY2).mono ?_
        rintro e z3 ⟨rfl, c3⟩
        have HV3 := hide ((unhide HV2).trans (c3.mono (unhide HV2).size))
        have HB3 := hide ((unhide HB7).trans ((unhide HV3).mono (unhide HB7).size))
        have HL3 := hide ((unhide HLo7).trans ((unhide HV3).mono (unhide HLo7).size))
        have HN1 := hide (q_nodes (unhide HEd z3 (unhide HB3)) ⟨#[]⟩)
        clear c3 HY2 HV2 HV3 HR7 HR7' HS7 HS7' HB7 HLo7 HLo
        go_wp2_with fail
        refine (unhide HN1).mono ?_
        rintro e z4 ⟨v4, rfl, r4, c4⟩
        have HB4 := hide ((unhide HB3).trans (c4.mono (unhide HB3).size))
        have HL4 := hide ((unhide HL3).trans (c4.mono (unhide HL3).size))
        have HR4 := hide r4
        have HN2 := hide (r_nodes (unhide HEd z4 (unhide HB4)) ⟨#[]⟩)
        clear c4 r4 HN1 HB3 HL3
        go_wp2_with fail
        refine (unhide HN2).mono ?_
        rintro e z5 ⟨v5, rfl, r5, c5⟩
        have HB5 := hide ((unhide HB4).trans (c5.mono (unhide HB4).size))
        have HL5 := hide ((unhide HL4).trans (c5.mono (unhide HL4).size))
        have HN3 := hide (same_ints_own ((unhide HR4).carry c5) r5)
        clear c5 r5 HN2 HB4 HL4 HR4
        go_wp2_with fail
        refine (unhide HN3).mono ?_
        rintro e z6 ⟨rfl, c6⟩
        have HB6 := hide ((unhide HB5).trans (c6.mono (unhide HB5).size))
        have HL6 := hide ((unhide HL5).trans (c6.mono (unhide HL5).size))
        have HN4 := hide (q_nodes (unhide HEd z6 (unhide HB6)) word)
        clear c6 HN3 HB5 HL5
        go_wp2_with fail
        refine (unhide HN4).mono ?_
        rintro e z7 ⟨v7, rfl, r7, c7⟩
        have HB7 := hide ((unhide HB6).trans (c7.mono (unhide HB6).size))
        have HL7 := hide ((unhide HL6).trans (c7.mono (unhide HL6).size))
        have HR7 := hide r7
        have HN5 := hide (r_nodes (unhide HEd z7 (unhide HB7)) word)
        clear c7 r7 HN4 HB6 HL6
        go_wp2_with fail
        refine (unhide HN5).mono ?_
        rintro e z8 ⟨v8, rfl, r8, c8⟩
        have HB8 := hide ((unhide HB7).trans (c8.mono (unhide HB7).size))
        have HL8 := hide ((unhide HL7).trans (c8.mono (unhide HL7).size))
        have HN6 := hide (same_ints_own ((unhide HR7).carry c8) r8)
        clear c8 r8 HN5 HB7 HL7 HR7
        go_wp2_with fail
        refine (unhide HN6).mono ?_
        rintro e z9 ⟨rfl, c9⟩
        have HB9 := hide ((unhide HB8).trans (c9.mono (unhide HB8).size))
        have HL9 := hide ((unhide HL8).trans (c9.mono (unhide HL8).size))
        have HN7 := hide (q_edges (unhide HEd z9 (unhide HB9)))
        clear c9 HN6 HB8 HL8
        go_wp2_with fail
        refine (unhide HN7).mono ?_
        rintro e x1 ⟨v1, rfl, r1, d1⟩
        have HB1 := hide ((unhide HB9).trans (d1.mono (unhide HB9).size))
        have HL1 := hide ((unhide HL9).trans (d1.mono (unhide HL9).size))
        have HR1 := hide r1
        have HN8 := hide (rg_Edges (unhide HEd x1 (unhide HB1)).q)
        clear d1 r1 HN7 HB9 HL9
        go_wp2_with fail
        refine (unhide HN8).mono ?_
        rintro e x2 ⟨v2, rfl, r2, d2⟩
        have HL2 := hide ((unhide HL1).trans (d2.mono (unhide HL1).size))
        have HN9 := hide (same_keys_own ((unhide HR1).carry d2) r2)
        clear d2 r2 HN8 HB1 HL1 HR1
        go_wp2_with fail
        refine (unhide HN9).mono ?_
        rintro e x3 ⟨rfl, d3⟩
        have HL3 := hide ((unhide HL2).trans (d3.mono (unhide HL2).size))
        clear d3 HN9 HL2
        go_wp2
        go_ret
        exact ⟨rfl, unhide HL3⟩
      · have HRa := hide (r_at_bad hI.two at_ t he)
        have HPa := hide (fun W (hb : Below wr.heap.size wr W) => q_at_bad (hI.two.below hb) at_ t (unhide HT0) (unhide HT1) he)
        have hne : ((keysE txs.length known at_ t) == 0) = false := by simp [he]
        clear hI
        generalize keysE txs.length known at_ t = e0 at *
        go_wp2_with fail
        refine (unhide HRa).mono ?_
        rintro e W1 ⟨rfl, b1⟩
        have HB1 := hide b1
        have HPa1 := hide (unhide HPa W1 b1)
        clear b1 HRa HPa
        go_wp2_with fail
        refine (unhide HPa1).mono ?_
        rintro e W2 ⟨rfl, b2⟩
        have HB2 := hide ((unhide HB1).trans (b2.mono (unhide HB1).size))
        have HL2 := hide ((unhide HI).low.trans ((unhide HB2).mono (unhide HI).low.size))
        have HX := hide (bare_err e0 W2 ((unhide HG).carry (unhide HL2)))
        clear b2 HPa1 HB1 HB2
        go_wp2_with fail
        refine (unhide HX).mono ?_
        rintro e W3 ⟨rfl, b3⟩
        have HL3 := hide ((unhide HL2).trans (b3.mono (unhide HL2).size))
        clear b3 HX HL2
        go_wp2
        go_ret
        exact ⟨rfl, unhide HL3⟩
end Go.Proofs.YtfoojmflbifkpaaGreatDoor

/- The law of walks at rows and words that are too long; at all. -/
namespace Go.Proofs.YtfoojmflbifkpaaGreatDoor
open Go.RowKit Go.Maps
set_option maxRecDepth 100000 in
set_option maxHeartbeats 1000000 in
theorem law_walk_long (w : World) (nL : Nat) (at_ t n m hops : Int) (word : ByteArray) (ad : Option Addr) (cl : Nat) (h : 12 < nL ∨ 60 < word.size) :
    Calls Tryz.prog 4 #[.slice ad nL cl, .int .i64 at_, .int .i64 t, .int .i64 n, .int .i64 m, .int .i64 hops, .string word] w fun e w' => e = .returned (.bool true) ∧ Below w.heap.size w w' := by
  by_cases h1 : (12 : Int) < (nL : Int)
  · clear h
    go_enter Tryz.func4, Tryz.ntmps4
    go_wp2
    go_ret
    exact ⟨rfl, Below.refl _ _⟩
  · have h2 : (60 : Int) < (word.size : Int) := by omega
    clear h
    go_enter Tryz.func4, Tryz.ntmps4
    go_wp2
    go_ret
    exact ⟨rfl, Below.refl _ _⟩
theorem law_walk_any (w : World) (L : List TxN) (at_ t n m hops : Int) (word : ByteArray) (ad : Option Addr) (cl : Nat) (hL : TxsHere w ad L) (ht : Tab w) (hg : ErrorType w) (hwn : (Lit.int .i64 n).wf = true) (hwm : (Lit.int .i64 m).wf = true) (hwt : (Lit.int .i64 t).wf = true) :
    Calls Tryz.prog 4 #[.slice ad L.length cl, .int .i64 at_, .int .i64 t, .int .i64 n, .int .i64 m, .int .i64 hops, .string word] w fun e w' => e = .returned (.bool true) ∧ Below w.heap.size w w' := by
  by_cases h : 12 < L.length ∨ 60 < word.size
  · exact law_walk_long w L.length at_ t n m hops word ad cl h
  · have h' : (decide ((-9223372036854775808 : Int) ≤ t) && decide (t ≤ 9223372036854775807)) = true := hwt
    simp only [Bool.and_eq_true, decide_eq_true_eq] at h'
    exact law_walk w L at_ t n m hops word ad cl hL (by omega) (by omega) ht hg hwn hwm h'.1 h'.2
end Go.Proofs.YtfoojmflbifkpaaGreatDoor
