/- Texts of one proof, one behind the other. -/
import Derived.Test.YtbloahcmakjchabGreatDoorDf
import Derived.Test.YtbloahcmakjchabGreatDoorBw
import Derived.Test.YtbloahcmakjchabGreatDoorBv
import Derived.Test.YtbloahcmakjchabGreatDoorBl
import Derived.Deep.DeepCutAuto

/- BaseCrashes: walked. -/
namespace Go.Proofs.YtbloahcmakjchabGreatDoor
open Go.RowKit Go.Maps

theorem CrI.begin {w0 W0 W1 W2 W3 W4 : World} {D B np bx base : Nat} {F : Nat → Prop} (k : Ky) {u14 : Value} {ts : List Value} (hD : DiskW W0 D (fun _ => ⟨#[]⟩) false 0) (hw0 : Below w0.heap.size w0 W0) (hD0 : w0.heap.size ≤ D)
    (hB : BaseW W1 B D 0 false [] 0 F) (hF : ∀ i, F i → W0.heap.size ≤ i) (b1 : Below W0.heap.size W0 W1)
    (hnp : np = W1.heap.size) (b2 : Below (np + 1) (W1.alloc (.cells #[.int .i64 0, .int .i64 0, .map none] 26)) W2) (hbx : bx = W2.heap.size)
    (e3 : W3 = W2.alloc (.cells #[.int .i64 k.kind, .int .i64 k.a, .string k.word, .int .i64 k.b] 43)) (hbase : base = W3.heap.size) (b4 : Below W3.heap.size W3 W4)
    (q1 : RowL W4 base u14 ts) (q3 : ∀ x, x ∈ ts → ∃ l, okL l ∧ RowO W4 base x l) :
    CrI w0 B D np bx base k false [] [] (fun _ => ⟨#[]⟩) false 0 F (pastF (pl0 np) none [] (fun _ _ => False)) u14 ts W4 := by
  subst hnp hbx e3 hbase
  have a1 := below_box W1 (.cells #[.int .i64 0, .int .i64 0, .map none] 26)
  have z1 : (W1.alloc (.cells #[.int .i64 0, .int .i64 0, .map none] 26)).heap.size = W1.heap.size + 1 := by simp
  rw [← z1] at b2
  have a3 := below_box W2 (.cells #[.int .i64 k.kind, .int .i64 k.a, .string k.word, .int .i64 k.b] 43)
  have z3 : (W2.alloc (.cells #[.int .i64 k.kind, .int .i64 k.a, .string k.word, .int .i64 k.b] 43)).heap.size = W2.heap.size + 1 := by simp
  have c12 := a1.trans (b2.mono a1.size)
  have c13 := c12.trans (a3.mono c12.size)
  have c14 := c13.trans (b4.mono c13.size)
  have c24 := a3.trans (b4.mono a3.size)
  have s0 := hw0.size
  have s1 := b1.size
  have s2 := b2.size
  have s4 := b4.size
  have hDl := hD.lt
  have hBl := BaseW.lt hB
  have hFp : ∀ i, pastF (pl0 W1.heap.size) none [] (fun _ _ => False) i → i = W1.heap.size := fun i q => by
    rcases q with q | q | ⟨x, hx, _⟩
    · exact q
    · cases q
    · cases hx
  have hrow : ∀ v, v = u14 ∨ v ∈ ts → ∀ g, v.ownBlock = some g → (W2.alloc (.cells #[.int .i64 k.kind, .int .i64 k.a, .string k.word, .int .i64 k.b] 43)).heap.size ≤ g := fun v hv g hg => by
    rcases hv with rfl | hv
    · exact (World.ownsRow.lt q1 g hg).1
    · obtain ⟨l, _, b⟩ := q3 v hv
      exact (World.ownsRow.lt b g hg).1
  refine ⟨⟨hB.below c14, (hD.below b1).below c14, holds_nil, fun q => ?_, by decide⟩, ?_, fun i hi q => ?_, fun q => ?_, fun i hi => ?_, fun i hi => ?_, ⟨hD0, by omega⟩, (boxK_new W2 k).below b4, ?_, q1, fun v hv g hg => ⟨fun q => ?_, fun q => ?_, ?_⟩, q3, by omega⟩
  · have := hF D q
    omega
  · have := (past_new W1).below (b2.trans (c24.mono b2.size))
    refine PastW.congr (S := noneS) this (fun k c _ _ t => ?_)
    unfold refI refS noneS
    simp
    rfl
  · have := hFp i q
    have := hBl i hi
    omega
  · have := hFp D q
    omega
  · have := hF i hi
    have := hBl i hi
    exact ⟨by omega, by omega⟩
  · have := hFp i hi
    exact ⟨by omega, by omega⟩
  · have d1 := hw0.trans (b1.mono s0)
    exact d1.trans (c14.mono d1.size)
  · have := hrow v hv g hg
    have := hBl g q
    omega
  · have := hrow v hv g hg
    have := hFp g q
    omega
  · have := hrow v hv g hg
    omega

set_option maxRecDepth 100000 in
set_option maxHeartbeats 16000000 in
theorem base_crashes (l : List SayN) (ad : Option Addr) (cap : Nat) (cs : List Int) (ad1 : Option Addr) (m1 cap1 : Nat) (hm1 : cs.length = m1) (tr : List Int) (ad2 : Option Addr) (m2 cap2 : Nat) (hm2 : tr.length = m2) (key : Int) (w : World) (hS : SaysAt w ad l) (hN : NumsAt w ad1 cs) (hN2 : NumsAt w ad2 tr) (ht : Tab w) (hb : Libs w) (he : ErrorType w) :
    Calls Tryz.prog 5 #[.slice ad l.length cap, .slice ad1 m1 cap1, .slice ad2 m2 cap2, .int .i64 key] w fun e w' => e = .returned (.bool true) ∧ Below w.heap.size w w' := by
  by_cases hl : l.length ≤ 60
  · have hl' : ¬ (60 : Int) < (l.length : Int) := by omega
    by_cases ha : m1 ≤ 60
    · have ha' : ¬ (60 : Int) < (m1 : Int) := by omega
      by_cases hc : m2 ≤ 60
      · have hc' : ¬ (60 : Int) < (m2 : Int) := by omega
        have HS := hide hS
        have HN := hide hN
        have HN2 := hide hN2
        have HM1 := hide hm1
        have HM2 := hide hm2
        have HKp := hide (kept_ok w ht hb)
        have HT := hide ht
        have HL := hide hb
        have HEr := hide he
        have HKy := hide (fun W => keep_keyOf key W)
        obtain ⟨hko, hkb⟩ := kyN_ok key
        have HKo := hide hko
        have HKb := hide hkb
        clear hS ht hb hko hkb he hN hN2 hm1 hm2
        generalize kyN key = k at *
        go_enter Tryz.func5, Tryz.ntmps5
        go_wp2_with fail
        refine (unhide HKp).mono ?_
        rintro e W0 ⟨rfl, b0⟩
        have HB0 := hide b0
        have HBd := hide ((unhide HB0).trans ((below_box W0 (.cells Tryz.zeroCells59 59)).mono (unhide HB0).size))
        have HD := hide (disk_new W0)
        have HO := hide (base_Open (es := []) (unhide HD) holds_nil (by decide) ((unhide HT).carry (unhide HBd)) ((unhide HL).carry (unhide HBd)))
        clear b0 HKp
        go_wp2_with fail
        generalize hWd : W0.alloc (.cells Tryz.zeroCells59 59) = Wd at *
        refine (unhide HO).mono ?_
        rintro e W1 ⟨B, F, rfl, hB, hF, b1⟩
        have HBs := hide hB
        have HFs := hide hF
        have HB1 := hide b1
        clear hB hF b1 HO
        go_wp2_with fail
        refine (unhide HKy _).mono ?_
        rintro e W2 ⟨rfl, b2⟩
        have HB2 := hide b2
        have hB3 : Below w.heap.size w (W2.alloc (.cells #[.int .i64 k.kind, .int .i64 k.a, .string k.word, .int .i64 k.b] 43)) := by
          have c1 := (unhide HBd).trans ((unhide HB1).mono (unhide HBd).size)
          have c2 := c1.trans ((below_box W1 (.cells #[.int .i64 0, .int .i64 0, .map none] 26)).mono c1.size)
          have c3 := c2.trans (b2.mono c2.size)
          exact c3.trans ((below_box _ _).mono c3.size)
        have HOp := hide (keep_ops l ad cap _ hl ((unhide HS).carry hB3))
        clear b2 hB3
        go_wp2_with fail
        refine (unhide HOp).mono ?_
        rintro e W5 ⟨v14, ts, rfl, q1, q2, q3, q4⟩
        obtain ⟨ad14, cap14, rfl⟩ := row_slice (show World.ownsRow _ _ _ _ _ _ _ from q1)
        have hts : ts.length ≤ 60 := by omega
        have hWl : W0.heap.size < Wd.heap.size := by rw [← hWd]; simp
        have HI0 := hide (CrI.begin (D := W0.heap.size) k (unhide HD) ((below_box W0 (.cells Tryz.zeroCells59 59)) |> fun q => by rw [← hWd]; exact q) (Nat.le_refl _) (unhide HBs) (unhide HFs) (unhide HB1) rfl (by rw [show W1.heap.size + 1 = (W1.alloc (.cells #[.int .i64 0, .int .i64 0, .map none] 26)).heap.size by simp]; exact unhide HB2) rfl rfl rfl q4 q1 q3)
        clear q1 q2 q3 q4 HOp HB2 HKy HS HBs HFs HB1 HD
        generalize hD : W0.heap.size = D at *
        generalize hnp : W1.heap.size = np at *
        generalize hbx : W2.heap.size = bx at *
        generalize hbs : (W2.alloc (.cells #[.int .i64 k.kind, .int .i64 k.a, .string k.word, .int .i64 k.b] 43)).heap.size = base at *
        clear hbx hbs hnp hWd hWl
        go_wp2
        go_loopw [10, 15] (fun b i y => ∃ (j B : Nat) (C : List (List Fop)) (ps : Nat → ByteArray) (cut : Bool) (left : Int) (F Fp : Nat → Prop), b = .pointer (some ⟨B, 0, none⟩) ∧ i = .int .i64 j ∧ j ≤ ts.length ∧ C.length ≤ j ∧ CrI W0 B D np bx base k false C C ps cut left F Fp (.slice ad14 ts.length cap14) ts y) (fun _ i _ => ts.length - (intOf i).toNat)
        case atStart => exact ⟨0, B, [], _, _, _, _, _, rfl, rfl, Nat.zero_le _, Nat.le_refl _, unhide HI0⟩
        case round =>
          clear HI0
          obtain ⟨j, B, C, ps, cut, left, F, Fp, rfl, rfl, hj, hC, hI⟩ := hrel
          have HI := hide hI
          clear hI
          by_cases hlt : j < ts.length
          · have hlt' : (j : Int) < (ts.length : Int) := by omega
            have hj0 : (0 : Int) ≤ (j : Int) := by omega
            obtain ⟨q, hq⟩ : ∃ q, q = cs.getD (j % m1) 0 := ⟨_, rfl⟩
            have HQ := hide hq
            have HW := hide ((unhide HB0).trans ((unhide HI).low.mono (unhide HB0).size))
            clear hq
            go_upto_region 16 with fail
            go_cut [77] (fun s77 wx => s77 = .bool (decide (0 < m1 ∧ pickI q 3 = 0)) ∧ wx = wr)
            case first =>
              as_aux_lemma =>
                by_cases e0 : m1 = 0
                · have e0' : ¬ (0 : Int) < (m1 : Int) := by omega
                  have HDc : Hid (decide (0 < m1 ∧ pickI q 3 = 0) = false) := decide_eq_false (fun h => by omega)
                  clear e0
                  go_wp2
                  go_meet
                  case rel => exact ⟨by rw [unhide HDc], rfl⟩
                · have e0' : (0 : Int) < (m1 : Int) := by omega
                  have e0n : ¬ (m1 : Int) = 0 := by omega
                  have hjm : j % m1 < m1 := Nat.mod_lt _ (by omega)
                  have hrem : Int.tmod (j : Int) (m1 : Int) = ((j % m1 : Nat) : Int) := by
                    rw [Int.tmod_eq_emod_of_nonneg (by omega)]
                    omega
                  obtain ⟨bb, oo, rfl, c1⟩ := unhide HN (j % m1) (by rw [unhide HM1]; exact hjm)
                  have hqe : cs[j % m1]'(by rw [unhide HM1]; exact hjm) = q := by
                    rw [unhide HQ]
                    simp [unhide HM1, hjm]
                  rw [hqe] at c1
                  have c2 := there_at c1 (unhide HW)
                  have HP := hide (fun W => keep_pick q 3 W (by decide) (by decide))
                  have HDc : Hid (decide (0 < m1 ∧ pickI q 3 = 0) = (pickI q 3 == 0)) := by
                    unfold Hid
                    by_cases z : pickI q 3 = 0
                    · rw [decide_eq_true ⟨by omega, z⟩, z]; rfl
                    · rw [decide_eq_false (fun h => z h.2)]; simp [z]
                  clear c1 hqe e0
                  generalize hjm2 : j % m1 = jm at *
                  clear hjm2
                  have hjm' : (jm : Int) < (m1 : Int) := by omega
                  go_wp2_with fail
                  refine (unhide HP _).mono ?_
                  rintro e Wp ⟨rfl, hWp⟩
                  obtain rfl : wr = Wp := hWp.symm
                  clear hWp
                  go_wp2
                  go_meet
                  case rel => exact ⟨by rw [unhide HDc], rfl⟩
            case rest =>
              obtain ⟨rfl, hwc⟩ := hcut
              obtain rfl : wr = wc := hwc.symm
              clear hwc
              go_upto_if 77 with fail
              go_cut [] (fun wx => ∃ (cut' : Bool) (left' : Int), CrI W0 B D np bx base k false C C ps cut' left' F Fp (.slice ad14 ts.length cap14) ts wx)
              case first =>
                as_aux_lemma =>
                  by_cases hcq : 0 < m1 ∧ pickI q 3 = 0
                  · rw [decide_eq_true hcq]
                    have e0' : (0 : Int) < (m1 : Int) := by omega
                    have e0n : ¬ (m1 : Int) = 0 := by omega
                    have e0N : ¬ m1 = 0 := by omega
                    have hjm : j % m1 < m1 := Nat.mod_lt _ (by omega)
                    have hrem : Int.tmod (j : Int) (m1 : Int) = ((j % m1 : Nat) : Int) := by
                      rw [Int.tmod_eq_emod_of_nonneg (by omega)]
                      omega
                    obtain ⟨bb, oo, rfl, c1⟩ := unhide HN (j % m1) (by rw [unhide HM1]; exact hjm)
                    have hqe : cs[j % m1]'(by rw [unhide HM1]; exact hjm) = q := by
                      rw [unhide HQ]
                      simp [unhide HM1, hjm]
                    rw [hqe] at c1
                    have c2 := there_at c1 (unhide HW)
                    clear c1 hqe hcq
                    generalize hjm2 : j % m1 = jm at *
                    clear hjm2
                    have hjm' : (jm : Int) < (m1 : Int) := by omega
                    have HP : Hid (∀ a W, Calls Tryz.prog 14 #[.int .i64 a, .int .i64 3] W fun e w' => ∃ pk, e = .returned (.int .i64 pk) ∧ pk ≤ 9223372036854775807 ∧ w' = W) := fun a W => (keep_pick a 3 W (by decide) (by decide)).mono (fun e w' h => ⟨_, h.1, by have := pickI_lt a 3 (by decide); omega, h.2⟩)
                    have HCt := hide (fun n (hn : n ≤ 9223372036854775807) => disk_Cut (unhide HI).bd.disk n hn)
                    go_wp2_with fail
                    refine (unhide HP _ _).mono ?_
                    rintro e Wp ⟨pk, rfl, hpk', hWp⟩
                    obtain rfl : wr = Wp := hWp.symm
                    clear hWp HP
                    go_wp2_with fail
                    refine (unhide HCt pk hpk').mono ?_
                    rintro e Wq ⟨rfl, hD', hk'⟩
                    have HI' := hide ((unhide HI).disk hD' hk')
                    clear hD' hk' HCt
                    go_wp2
                    go_meet
                    case rel => exact ⟨_, _, unhide HI'⟩
                  · rw [decide_eq_false hcq]
                    clear hcq
                    go_wp2
                    go_meet
                    case rel => exact ⟨cut, left, unhide HI⟩
              case rest =>
                obtain ⟨cut', left', hI'⟩ := hcut
                have HI' := hide hI'
                clear hI' HI HW HQ
                obtain ⟨V0, rfl⟩ : ∃ V0, V0 = wc := ⟨_, rfl⟩
                have HV0 := hide ((unhide HB0).trans ((unhide HI').low.mono (unhide HB0).size))
                go_upto_if 92 with fail
                go_cut [17] (fun s17 wx => (∃ t, s17 = .int .i64 t) ∧ wx = V0)
                case first =>
                  as_aux_lemma =>
                    by_cases e0 : m2 = 0
                    · have e0' : ¬ (0 : Int) < (m2 : Int) := by omega
                      clear e0
                      go_wp2
                      go_meet
                      case rel => exact ⟨⟨_, rfl⟩, rfl⟩
                    · have e0' : (0 : Int) < (m2 : Int) := by omega
                      have e0n : ¬ (m2 : Int) = 0 := by omega
                      have hjm : j % m2 < m2 := Nat.mod_lt _ (by omega)
                      have hrem : Int.tmod (j : Int) (m2 : Int) = ((j % m2 : Nat) : Int) := by
                        rw [Int.tmod_eq_emod_of_nonneg (by omega)]
                        omega
                      obtain ⟨bb, oo, rfl, c1⟩ := unhide HN2 (j % m2) (by rw [unhide HM2]; exact hjm)
                      have c2 := there_at c1 (unhide HV0)
                      have HP : Hid (∀ a W, Calls Tryz.prog 14 #[.int .i64 a, .int .i64 200] W fun e w' => ∃ pk, e = .returned (.int .i64 pk) ∧ w' = W) := fun a W => (keep_pick a 200 W (by decide) (by decide)).mono (fun e w' h => ⟨_, h.1, h.2⟩)
                      generalize tr[j % m2]'(by rw [unhide HM2]; exact hjm) = q at c2
                      clear c1 e0
                      generalize hjm2 : j % m2 = jm at *
                      clear hjm2
                      have hjm' : (jm : Int) < (m2 : Int) := by omega
                      go_wp2_with fail
                      refine (unhide HP _ _).mono ?_
                      rintro e Wp ⟨pk, rfl, hWp⟩
                      obtain rfl : V0 = Wp := hWp.symm
                      clear hWp HP
                      go_wp2
                      go_meet
                      case rel => exact ⟨⟨_, rfl⟩, rfl⟩
                case rest =>
                  obtain ⟨⟨tn, rfl⟩, hwc⟩ := hcut
                  obtain rfl : V0 = wc := hwc.symm
                  clear hwc
                  have hmem := List.getElem_mem hlt
                  obtain ⟨lo, hlo, hro⟩ := (unhide HI').ops _ hmem
                  have hlne : lo ≠ [] := fun e => by
                    have := hlo.1
                    rw [e] at this
                    simp at this
                  obtain ⟨g1, cp1, ev, hat, _⟩ := hro.at hlne
                  obtain ⟨g14, _, _, e14, hf14⟩ := own1_at (unhide HI').txs
                  injection e14 with e14 e14b e14c
                  subst e14 e14c
                  clear e14b
                  obtain ⟨rfl, t14⟩ := hf14 j hlt
                  rw [List.getElem?_eq_getElem hlt, ev] at t14
                  have hgF := (unhide HI').tg _ (.inr hmem) g1 (by rw [ev]; rfl)
                  have HAt := hide hat
                  have HOk := hide hlo
                  have hC60 : C.length < 150 := by omega
                  have hes : (C.map Sum.inl : List (List Fop ⊕ Int)).length < 150 := by rw [List.length_map]; exact hC60
                  clear hf14 hat hlo hro hlne hmem
                  go_upto_region 21 with fail
                  go_cut [18] (fun s18 wx => (s18 = .nilIface ∧ ∃ F' ps' left'', CrI W0 B D np bx base k false (C ++ [lo]) C ps' cut' left'' F' Fp (.slice (some ⟨g14, 0, none⟩) ts.length cap14) ts wx ∧ OpsAt wx g1 0 lo) ∨ (s18 = .iface 51 (.int .i64 14) ∧ ∃ ps', CrI W0 B D np bx base k true C C ps' true 0 F Fp (.slice (some ⟨g14, 0, none⟩) ts.length cap14) ts wx))
                  case first =>
                    as_aux_lemma =>
                      by_cases hpo : cut' = false ∨ left' ≠ 0
                      · have HCm := hide (base_Commit_on (unhide HI').bd hes lo (.slice (some ⟨g1, 0, none⟩) lo.length cp1) (unhide HOk) ⟨_, _, rfl, .inr ⟨_, 0, rfl, unhide HAt⟩⟩ (small_of (unhide HOk)) tn hpo (w0 := W0) (unhide HI').low (Nat.le_of_eq hD) ((unhide HT).carry (unhide HB0)) ((unhide HL).carry (unhide HB0)))
                        go_wp2_with fail
                        refine (unhide HCm).mono ?_
                        rintro e V1 ⟨rfl, hwr⟩
                        have HI1 : Hid (∃ F' ps' left'', CrI W0 B D np bx base k false (C ++ [lo]) C ps' cut' left'' F' Fp (.slice (some ⟨g14, 0, none⟩) ts.length cap14) ts V1 ∧ OpsAt V1 g1 0 lo) := by
                          obtain ⟨F', ps', l', hI1⟩ := (unhide HI').wrote hwr
                          obtain ⟨_, _, _, _, _, wk⟩ := hwr
                          exact ⟨F', ps', l', hI1, (unhide HAt).keeps wk (fun q => by
                            rcases q with q | q
                            · exact hgF.1 q
                            · exact hgF.2.2 q)⟩
                        clear hwr HCm
                        go_wp2
                        go_meet
                        case rel => exact .inl ⟨rfl, unhide HI1⟩
                      · have hc1 : cut' = true := by
                          cases cut'
                          · exact absurd (.inl rfl) hpo
                          · rfl
                        have hc2 : left' = 0 := by
                          rcases Classical.em (left' = 0) with q | q
                          · exact q
                          · exact absurd (.inr q) hpo
                        subst hc1 hc2
                        have HCm := hide (base_Commit_off (unhide HI').bd hes lo (.slice (some ⟨g1, 0, none⟩) lo.length cp1) (unhide HOk) ⟨_, _, rfl, .inr ⟨_, 0, rfl, unhide HAt⟩⟩ (small_of (unhide HOk)) tn ((unhide HT).carry (unhide HV0)))
                        clear hpo
                        go_wp2_with fail
                        refine (unhide HCm).mono ?_
                        rintro e V1 ⟨rfl, hwr⟩
                        have HI1 := hide ((unhide HI').off hwr)
                        clear hwr HCm
                        go_wp2
                        go_meet
                        case rel => exact .inr ⟨rfl, unhide HI1⟩
                  case rest =>
                    obtain ⟨V1, rfl⟩ : ∃ V1, V1 = wc := ⟨_, rfl⟩
                    rename_i hKc
                    refine hKc _ _ ?_
                    clear hKc
                    go_step
                    have HCut := hide hcut
                    clear hcut t14
                    go_cut [10, 18] (fun s10 s18 wx => ∃ (B' : Nat) (C' : List (List Fop)) (ps' : Nat → ByteArray) (cut'' : Bool) (left'' : Int) (F' Fp' : Nat → Prop), s10 = .pointer (some ⟨B', 0, none⟩) ∧ C'.length ≤ j + 1 ∧ CrI W0 B' D np bx base k false C' C' ps' cut'' left'' F' Fp' (.slice (some ⟨g14, 0, none⟩) ts.length cap14) ts wx)
                    case first =>
                      as_aux_lemma =>
                        rcases unhide HCut with ⟨rfl, F', ps', left'', hI1, hat1⟩ | ⟨rfl, ps', hI1⟩
                        · have HI1 := hide hI1
                          have HTl := hide (Tell_nil V1)
                          have HCm := hide (commit_txs (P := pl0 np) (unhide HI1).pw lo g1 0 cp1 (unhide HOk) hat1 hgF.2.1 ((unhide HT).carry ((unhide HB0).trans ((unhide HI1).low.mono (unhide HB0).size))) hC60 (by omega))
                          obtain ⟨g14', _, _, e14, hf14⟩ := own1_at (unhide HI1).txs
                          injection e14 with e14 e14b e14c
                          clear e14b e14c
                          obtain ⟨e12, t14⟩ := hf14 j hlt
                          rw [e12] at e14
                          injection e14 with e14
                          injection e14 with e14
                          subst e14
                          rw [List.getElem?_eq_getElem hlt, ev] at t14
                          clear hI1 hat1 hf14 e12 HCut HI' HAt HV0
                          go_wp2_with fail
                          refine (unhide HTl).mono ?_
                          rintro e V2 ⟨rfl, hV2⟩
                          obtain rfl : V1 = V2 := hV2.symm
                          clear hV2 HTl
                          go_wp2_with fail
                          refine (unhide HCm).mono ?_
                          rintro e V2 ⟨rfl, hch⟩
                          obtain ⟨Fp', hI2⟩ := (unhide HI1).said hch
                          have HI2 := hide hI2
                          clear hch hI2 HI1 HCm t14
                          go_wp2
                          go_meet
                          case rel => exact ⟨B, C ++ [lo], ps', cut', left'', F', Fp', rfl, by simp; omega, unhide HI2⟩
                        · have HI1 := hide hI1
                          have hbV1 := (unhide HB0).trans ((unhide HI1).low.mono (unhide HB0).size)
                          have HTl := hide (Tell_errno 14 V1 (there_at (unhide HEr) hbV1))
                          clear hI1 HCut HI' HAt HV0 hbV1
                          go_wp2_with fail
                          refine (unhide HTl).mono ?_
                          rintro e V2 ⟨rfl, b2⟩
                          have HI2 := hide ((unhide HI1).below b2)
                          have HDn := hide (base_Down (unhide HI2).bd.base)
                          have HCt := hide (disk_Cut (unhide HI2).bd.disk (-1) (by decide))
                          clear b2 HTl HI1
                          go_wp2_with fail
                          refine (unhide HDn).mono ?_
                          rintro e V3 ⟨rfl, hV3⟩
                          obtain rfl : V2 = V3 := hV3.symm
                          clear hV3 HDn
                          go_wp2_with fail
                          refine (unhide HCt).mono ?_
                          rintro e V3 ⟨rfl, hD3, hk3⟩
                          have HI3 := hide ((unhide HI2).disk hD3 hk3)
                          have hbV3 := (unhide HB0).trans ((unhide HI3).low.mono (unhide HB0).size)
                          have HO := hide (base_Open (unhide HI3).bd.disk (unhide HI3).bd.holds (unhide HI3).bd.most ((unhide HT).carry hbV3) ((unhide HL).carry hbV3))
                          clear hD3 hk3 HCt HI2 hbV3
                          go_wp2_with fail
                          refine (unhide HO).mono ?_
                          rintro e V4 ⟨B', F', rfl, hB', hF', b4⟩
                          have HI4 := hide ((unhide HI3).again hB' hF' b4)
                          clear hB' hF' b4 HO HI3
                          go_wp2
                          go_meet
                          case rel => exact ⟨B', C, ps', _, _, F', Fp, rfl, by omega, unhide HI4⟩
                    case rest =>
                      obtain ⟨B', C', ps', cut'', left'', F', Fp', rfl, hC', hI2⟩ := hcut
                      have HI2 := hide hI2
                      clear hI2 HCut HI' HAt HV0 hC60 hes hgF HOk
                      obtain ⟨V2, rfl⟩ : ∃ V2, V2 = wc := ⟨_, rfl⟩
                      have hbV2 := (unhide HB0).trans ((unhide HI2).low.mono (unhide HB0).size)
                      have HO := hide (base_Open (unhide HI2).bd.disk (unhide HI2).bd.holds (unhide HI2).bd.most ((unhide HT).carry hbV2) ((unhide HL).carry hbV2))
                      clear hbV2
                      go_wp2_with fail
                      refine (unhide HO).mono ?_
                      rintro e V3 ⟨Bc, Fc, rfl, hBc, hFc, b3⟩
                      rw [stE_inl, List.length_map] at hBc
                      have HBc := hide hBc
                      have HI3 := hide ((unhide HI2).below b3)
                      have hBb := (unhide HI3).bd.base
                      rw [stE_inl, List.length_map] at hBb
                      have HNc := hide (past_Now (PastW.cells hBc).1)
                      have HNb := hide (past_Now (PastW.cells hBb).1)
                      have HNp := hide (past_Now (PastW.cells (unhide HI3).pw).1)
                      have HUs := hide (base_Used hBc)
                      have HPst := hide (fun W B => base_Past W B)
                      clear hBc hFc b3 HO HI2 hBb
                      go_wp2_with (first
                        | (go_at_call 35; refine (unhide HPst _ _).mono ?_; rintro e V ⟨rfl, hV⟩; obtain rfl : V3 = V := hV.symm; clear hV)
                        | (go_at_call 33; refine (unhide HUs).mono ?_; rintro e V ⟨rfl, hV⟩; obtain rfl : V3 = V := hV.symm; clear hV)
                        | (go_at_call 15; first
                          | (refine (unhide HNc).mono ?_; rintro e V ⟨rfl, hV⟩; obtain rfl : V3 = V := hV.symm; clear hV)
                          | (refine (unhide HNb).mono ?_; rintro e V ⟨rfl, hV⟩; obtain rfl : V3 = V := hV.symm; clear hV)
                          | (refine (unhide HNp).mono ?_; rintro e V ⟨rfl, hV⟩; obtain rfl : V3 = V := hV.symm; clear hV)))
                      clear HNc HNb HNp HUs
                      go_loopw [20] (fun i y => ∃ m : Nat, m ≤ C'.length + 1 ∧ i = .int .i64 m ∧ Below V3.heap.size V3 y) (fun i _ => C'.length + 1 - (intOf i).toNat)
                      case atStart => exact ⟨0, Nat.zero_le _, rfl, Below.refl _ _⟩
                      case round =>
                        as_aux_lemma =>
                          obtain ⟨m, hm, rfl, hb⟩ := hrel
                          have HBm := hide hb
                          have HIm := hide ((unhide HI3).below hb)
                          have HNw := hide (past_Now (PastW.cells (unhide HIm).pw).1)
                          clear hb
                          go_wp2_with fail
                          refine (unhide HNw).mono ?_
                          rintro e V4 ⟨rfl, hV4⟩
                          obtain rfl : wr = V4 := hV4.symm
                          clear hV4 HNw
                          by_cases hmj : m ≤ C'.length
                          · have hmj' : (m : Int) ≤ (C'.length : Int) := by omega
                            have k0 := (unhide HIm).box.c0
                            have k1 := (unhide HIm).box.c1
                            have k2 := (unhide HIm).box.c2
                            have k3 := (unhide HIm).box.c3
                            have HPa := hide (pieces_ok (unhide HIm).pw (by omega) k (unhide HKo) (unhide HKb) (m : Int) (by omega) (by omega) (by omega))
                            go_wp2_with fail
                            refine (unhide HPa).mono ?_
                            rintro e V5 ⟨v21, pcs, rfl, hps, hca, hco, b5⟩
                            obtain ⟨g21, ad21, c21, rfl, hf21⟩ := own_pieces hps
                            have HB5 := hide ((unhide HBm).trans (b5.mono (unhide HBm).size))
                            have HBx := hide ((unhide HIm).box.below b5)
                            have HCa := hide hca
                            have HCo := hide hco
                            have HF21 := hide hf21
                            have hpm := row_most hps
                            clear hps hca hco b5 hf21 HPa k0 k1 k2 k3
                            have HPb := hide (pieces_ok (show PastW V5.drew _ _ _ _ _ _ from ((unhide HBc).below (unhide HB5)).below (below_drew V5)) (by omega) k (unhide HKo) (unhide HKb) (m : Int) (by omega) (by omega) (by omega))
                            have k0 := (unhide HBx).c0
                            have k1 := (unhide HBx).c1
                            have k2 := (unhide HBx).c2
                            have k3 := (unhide HBx).c3
                            clear HIm
                            go_upto_region 41 with fail
                            refine wp_region_tail (fun y => y.cell? ⟨bx, 0, none⟩ = some (.int .i64 k.kind) ∧ y.cell? ⟨bx, 1, none⟩ = some (.int .i64 k.a) ∧ y.cell? ⟨bx, 2, none⟩ = some (.string k.word) ∧ y.cell? ⟨bx, 3, none⟩ = some (.int .i64 k.b)) 9 (by kernel_rfl) (by kernel_rfl) ⟨k0, k1, k2, k3⟩ (fun hHeld => ?_)
                            refine wpAnyH_take (i := 0) (oi := ?to0_1) (v := ?tv0_1) ?th0_1 (by kernel_rfl) (by kernel_rfl) (by kernel_rfl) ?tq0_1 (Or.inl ⟨?tw0_1, ?ty0_1⟩) (by assumption) ?tr0_1
                            case th0_1 => (simp only [List.getElem?_toArray, List.getElem?_cons_zero]; rfl)
                            case tq0_1 => exact fun _ _ _ h => h
                            case tw0_1 => rfl
                            case ty0_1 => (intro w' hSw; (try dsimp only at hSw); go_simp <;> with_reducible rfl)
                            try simp only [Act.put, List.setIfInBounds_toArray, List.set_cons_zero, List.set_cons_succ]
                            refine wpAnyH_take (i := 2) (oi := ?to2_1) (v := ?tv2_1) ?th2_1 (by kernel_rfl) (by kernel_rfl) (by kernel_rfl) ?tq2_1 (Or.inl ⟨?tw2_1, ?ty2_1⟩) (by assumption) ?tr2_1
                            case th2_1 => (simp only [List.getElem?_toArray, List.getElem?_cons_zero, List.getElem?_cons_succ]; rfl)
                            case tq2_1 => exact fun _ _ _ h => h
                            case tw2_1 => rfl
                            case ty2_1 => (intro w' hSw; (try dsimp only at hSw); go_simp <;> with_reducible rfl)
                            try simp only [Act.put, List.setIfInBounds_toArray, List.set_cons_zero, List.set_cons_succ]
                            refine wpAnyH_take (i := 3) (oi := ?to3_1) (v := ?tv3_1) ?th3_1 (by kernel_rfl) (by kernel_rfl) (by kernel_rfl) ?tq3_1 (Or.inl ⟨?tw3_1, ?ty3_1⟩) (by assumption) ?tr3_1
                            case th3_1 => (simp only [List.getElem?_toArray, List.getElem?_cons_zero, List.getElem?_cons_succ]; rfl)
                            case tq3_1 => exact fun _ _ _ h => h
                            case tw3_1 => rfl
                            case ty3_1 => (intro w' hSw; (try dsimp only at hSw); go_simp <;> with_reducible rfl)
                            try simp only [Act.put, List.setIfInBounds_toArray, List.set_cons_zero, List.set_cons_succ]
                            refine wpAnyH_ready (rs := [1]) (by kernel_rfl) (by simp) ?_
                            refine AllReadyH.cons (o := ?co1_1) ?ch1_1 (fun K hK => ?cs1_1) ?cm1_1
                            case ch1_1 => (simp only [List.getElem?_toArray, List.getElem?_cons_zero, List.getElem?_cons_succ]; rfl)
                            case cm1_1 => exact AllReadyH.nil
                            case cs1_1 =>
                              go_simp
                              refine (unhide HPst _ _).mono ?_
                              rintro e V6 ⟨rfl, hV6⟩
                              obtain rfl : V6 = V5.drew := hV6
                              (try go_wp2_with fail)
                              refine hK.out _ _ ⟨k0, k1, k2, k3⟩ (fun hHeld => ?_)
                              clear hK K
                              try simp only [Act.put, List.setIfInBounds_toArray, List.set_cons_zero, List.set_cons_succ]
                              refine wpAnyH_ready (rs := [4]) (by kernel_rfl) (by simp) ?_
                              refine AllReadyH.cons (o := ?co4_1) ?ch4_1 (fun K hK => ?cs4_1) ?cm4_1
                              case ch4_1 => (simp only [List.getElem?_toArray, List.getElem?_cons_zero, List.getElem?_cons_succ]; rfl)
                              case cm4_1 => exact AllReadyH.nil
                              case cs4_1 =>
                              go_simp
                              refine (unhide HPb).mono ?_
                              rintro e V7 ⟨v23, pcs', rfl, hps, hca, hco, b7⟩
                              have HBx7 := hide (((unhide HBx).below (below_drew V5)).below b7)
                              (try go_wp2_with fail)
                              refine hK.out _ _ ⟨(unhide HBx7).c0, (unhide HBx7).c1, (unhide HBx7).c2, (unhide HBx7).c3⟩ (fun hHeld => ?_)
                              clear hK K
                              try simp only [Act.put, List.setIfInBounds_toArray, List.set_cons_zero, List.set_cons_succ]
                              obtain rfl := pieces_one (unhide HCa) hca (unhide HCo) hco
                              refine wpAnyH_take (i := 5) (oi := ?to5_2) (v := ?tv5_2) ?th5_2 (by kernel_rfl) (by kernel_rfl) (by kernel_rfl) ?tq5_2 (Or.inl ⟨?tw5_2, ?ty5_2⟩) (by assumption) ?tr5_2
                              case th5_2 => (simp only [List.getElem?_toArray, List.getElem?_cons_zero, List.getElem?_cons_succ]; rfl)
                              case tq5_2 => exact fun _ _ _ h => h
                              case tw5_2 => rfl
                              case ty5_2 => (intro w' hSw; (try dsimp only at hSw); go_simp <;> with_reducible rfl)
                              try simp only [Act.put, List.setIfInBounds_toArray, List.set_cons_zero, List.set_cons_succ]
                              refine wpAnyH_take (i := 6) (oi := ?to6_2) (v := ?tv6_2) ?th6_2 (by kernel_rfl) (by kernel_rfl) (by kernel_rfl) ?tq6_2 (Or.inl ⟨?tw6_2, ?ty6_2⟩) (by assumption) ?tr6_2
                              case th6_2 => (simp only [List.getElem?_toArray, List.getElem?_cons_zero, List.getElem?_cons_succ]; rfl)
                              case tq6_2 => exact fun _ _ _ h => h
                              case tw6_2 => rfl
                              case ty6_2 => (intro w' hSw; (try dsimp only at hSw); go_simp <;> with_reducible rfl)
                              try simp only [Act.put, List.setIfInBounds_toArray, List.set_cons_zero, List.set_cons_succ]
                              refine wpAnyH_take (i := 7) (oi := ?to7_2) (v := ?tv7_2) ?th7_2 (by kernel_rfl) (by kernel_rfl) (by kernel_rfl) ?tq7_2 (Or.inl ⟨?tw7_2, ?ty7_2⟩) (by assumption) ?tr7_2
                              case th7_2 => (simp only [List.getElem?_toArray, List.getElem?_cons_zero, List.getElem?_cons_succ]; rfl)
                              case tq7_2 => exact fun _ _ _ h => h
                              case tw7_2 => rfl
                              case ty7_2 => (intro w' hSw; (try dsimp only at hSw); go_simp <;> with_reducible rfl)
                              try simp only [Act.put, List.setIfInBounds_toArray, List.set_cons_zero, List.set_cons_succ]
                              refine wpAnyH_take (i := 8) (oi := ?to8_2) (v := ?tv8_2) ?th8_2 (by kernel_rfl) (by kernel_rfl) (by kernel_rfl) ?tq8_2 (Or.inl ⟨?tw8_2, ?ty8_2⟩) (by assumption) ?tr8_2
                              case th8_2 => (simp only [List.getElem?_toArray, List.getElem?_cons_zero, List.getElem?_cons_succ]; rfl)
                              case tq8_2 => exact fun _ _ _ h => h
                              case tw8_2 => rfl
                              case ty8_2 => (intro w' hSw; (try dsimp only at hSw); go_simp <;> with_reducible rfl)
                              try simp only [Act.put, List.setIfInBounds_toArray, List.set_cons_zero, List.set_cons_succ]
                              refine wpAnyH_done (by kernel_rfl) ?_ _
                              show wpList _ _ _ _ _ _
                              clear hHeld HBx7
                              obtain ⟨g23, ad23, c23, rfl, hf23⟩ := own_pieces hps
                              have hb57 : Below V5.heap.size V5 V7 := (below_drew V5).trans b7
                              have HB7 := hide ((unhide HB5).trans (hb57.mono (unhide HB5).size))
                              have HF21' : Hid (∀ j, (hj : j < pcs.length) → ad21 = some ⟨g21, 0, none⟩ ∧ V7.cell? ⟨g21, j * 3, none⟩ = some (.int .i64 pcs[j].1) ∧ V7.cell? ⟨g21, j * 3 + 1, none⟩ = some (.int .i64 pcs[j].2.1) ∧ V7.cell? ⟨g21, j * 3 + 2, none⟩ = some (.string pcs[j].2.2)) := fun j hj => by
                                obtain ⟨q, _, q1, q2, q3⟩ := unhide HF21 j hj
                                exact ⟨q, there_at q1 hb57, there_at q2 hb57, there_at q3 hb57⟩
                              have HF23 := hide hf23
                              clear hps hca hco b7 hb57 hf23 HPb HB5 k0 k1 k2 k3 HF21 HCa HCo HBx
                              go_wp2
                              go_loopw [25] (fun i y => ∃ c : Nat, c ≤ pcs.length ∧ i = .int .i64 c ∧ Below V7.heap.size V7 y) (fun i _ => pcs.length - (intOf i).toNat)
                              case atStart => exact ⟨0, Nat.zero_le _, rfl, Below.refl _ _⟩
                              case round =>
                                obtain ⟨c, hcc, rfl, hb⟩ := hrel
                                have HBq := hide hb
                                clear hb
                                by_cases hcl : c < pcs.length
                                · have hcl' : (c : Int) < (pcs.length : Int) := by omega
                                  have hc0 : (0 : Int) ≤ (c : Int) := by omega
                                  as_aux_lemma =>
                                    obtain ⟨rfl, q1, q2, q3⟩ := unhide HF21' c hcl
                                    obtain ⟨rfl, _, r1, r2, r3⟩ := unhide HF23 c hcl
                                    obtain ⟨p, hp⟩ : ∃ p, p = pcs[c] := ⟨_, rfl⟩
                                    rw [← hp] at q1 q2 q3 r1 r2 r3
                                    have z1 := there_at q1 (unhide HBq)
                                    have z2 := there_at q2 (unhide HBq)
                                    have z3 := there_at q3 (unhide HBq)
                                    have y1 := there_at r1 (unhide HBq)
                                    have y2 := there_at r2 (unhide HBq)
                                    have y3 := there_at r3 (unhide HBq)
                                    clear q1 q2 q3 r1 r2 r3 hp
                                    go_upto_region 47 with fail
                                    go_quiet (fail)
                                    go_wp2
                                    go_roundw
                                    case rel => exact ⟨c + 1, by omega, by go_num, (unhide HBq).trans ((below_drewN _ _).mono (unhide HBq).size)⟩
                                    case measure => simp [intOf]; omega
                                · obtain rfl : c = pcs.length := by omega
                                  have hltc : ¬ (pcs.length : Int) < (pcs.length : Int) := by omega
                                  have HB8 := hide ((unhide HB7).trans ((unhide HBq).mono (unhide HB7).size))
                                  clear HBq HB7 HF21' HF23
                                  go_wp2
                                  go_roundw
                                  case rel => exact ⟨m + 1, by omega, by go_num, unhide HB8⟩
                                  case measure => simp [intOf]; omega
                          · have hmj' : ¬ (m : Int) ≤ (C'.length : Int) := by omega
                            clear HBm HI3 HBc
                            go_wp2
                            go_roundw
                            case rel => exact ⟨j + 1, B', C', ps', cut'', left'', F', Fp', rfl, by go_num, by omega, hC', unhide HIm⟩
                            case measure => simp [intOf]; omega
          · obtain rfl : j = ts.length := by omega
            have hlt' : ¬ (ts.length : Int) < (ts.length : Int) := by omega
            have HBz := hide ((unhide HB0).trans ((unhide HI).low.mono (unhide HB0).size))
            clear HI
            go_wp2
            go_ret
            exact ⟨rfl, unhide HBz⟩
      · have hc' : (60 : Int) < (m2 : Int) := by omega
        go_enter Tryz.func5, Tryz.ntmps5
        go_wp2
        go_ret
        exact ⟨rfl, Below.refl _ _⟩
    · have ha' : (60 : Int) < (m1 : Int) := by omega
      go_enter Tryz.func5, Tryz.ntmps5
      go_wp2
      go_ret
      exact ⟨rfl, Below.refl _ _⟩
  · have hl' : (60 : Int) < (l.length : Int) := by omega
    go_enter Tryz.func5, Tryz.ntmps5
    go_wp2
    go_ret
    exact ⟨rfl, Below.refl _ _⟩

end Go.Proofs.YtbloahcmakjchabGreatDoor
