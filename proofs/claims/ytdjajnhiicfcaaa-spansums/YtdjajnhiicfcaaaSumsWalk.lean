/- The statement on sums of sets, walked. -/
import Derived.Test.YtdjajnhiicfcaaaSums
import Derived.Shelf.SlSortCmp.QuietGrown
namespace Go.Proofs.Ytdjajnhiicfcaaa
open Go.RowKit Palim

theorem sums_less (x y : Bool) : (x && !(x && !y)) = (x && y) := by cases x <;> cases y <;> rfl
theorem sums_or (x y : Bool) : (x || y) = (y || x) := by cases x <;> cases y <;> rfl
theorem sums_assoc (x y z : Bool) : ((x || y) || z) = (x || (y || z)) := by cases x <;> cases y <;> cases z <;> rfl

theorem canon_gap : ∀ (l : List (Int × Int)) (j : Nat), Canon l → (h : j + 1 < l.length) → l[j].2 < l[j + 1].1
  | [], _, _, h => by simp at h
  | x :: l, 0, hc, h => by
      have hm := List.getElem_mem (l := l) (n := 0) (by simpa using h)
      simpa using hc.2.1 _ hm
  | x :: l, j + 1, hc, h => by simpa using canon_gap l j hc.2.2 (by simpa using h)

theorem grow_one_s (w w' : World) (o : Obj) (h : w' = w.alloc o) : ∃ q os', w' = Go.Sort.grow (w.drewN q) os' :=
  ⟨0, #[o], by rw [h, Go.Sort.alloc_eq_grow]; rfl⟩

theorem below_grow_s (w : World) (n : Nat) (os : Array Obj) : Below w.heap.size w (Go.Sort.grow (w.drewN n) os) :=
  ⟨rfl, rfl, rfl, by simp [Go.Sort.grow, World.drewN], fun k hk => Go.Sort.heap_grow_old _ _ (by exact hk)⟩

theorem right_of {l : List (Int × Int)} (hc : Canon l) (hb : Bd l) (k : Nat) (h : k < l.length) : rightB l[k].1 l[k].2 = true := by
  have h1 := canon_lt hc _ (List.getElem_mem h)
  have h2 := hb _ (List.getElem_mem h)
  unfold rightB
  exact decide_eq_true (by omega)

set_option maxRecDepth 100000 in
set_option maxHeartbeats 8000000 in
theorem sums_walk (l m n : List (Int × Int)) (vl vm vn : Value) (w : World) (hl : l.length ≤ 60) (hm : m.length ≤ 60) (hn : n.length ≤ 60) (rl : Reads w vl l) (rm : Reads w vm m) (rn : Reads w vn n) :
    Calls Try.prog 4 #[vl, vm, vn] w fun e w' => e = .returned (.bool true) ∧ Below w.heap.size w w' := by
  have mixed : Try.prog.follows .mixedOrders = true := by kernel_rfl
  have sl : ∃ ad cap, vl = .slice ad l.length cap := by obtain ⟨ad, cap, h, _⟩ := rl; exact ⟨ad, cap, h⟩
  have sm : ∃ ad cap, vm = .slice ad m.length cap := by obtain ⟨ad, cap, h, _⟩ := rm; exact ⟨ad, cap, h⟩
  have sn : ∃ ad cap, vn = .slice ad n.length cap := by obtain ⟨ad, cap, h, _⟩ := rn; exact ⟨ad, cap, h⟩
  obtain ⟨adl, capl, rfl⟩ := sl
  obtain ⟨adm, capm, rfl⟩ := sm
  obtain ⟨adn, capn, rfl⟩ := sn
  have RL := hide rl
  have RM := hide rm
  have RN := hide rn
  have HP := hide (keep_parted w)
  clear rl rm rn
  go_enter Try.func4, Try.ntmps4
  go_wp2_with fail
  refine (unhide HP).mono ?_
  rintro e w1 ⟨rfl, b1⟩
  have B1 := hide b1
  have HM := hide (made_ok (by omega) ((unhide RL).carry b1))
  have RM1 := hide ((unhide RM).carry b1)
  have RN1 := hide ((unhide RN).carry b1)
  clear b1 HP RL RM RN
  go_wp2_with fail
  refine (unhide HM).mono ?_
  rintro e w2 ⟨A, sa, rfl, nA, kA, b2⟩
  have B2 := hide ((unhide B1).trans (b2.mono (unhide B1).size))
  have SA := hide kA
  clear HM
  have XRM1 := hide ((unhide RM1).carry b2)
  clear RM1
  have RM1 := hide (unhide XRM1)
  clear XRM1
  have XRN1 := hide ((unhide RN1).carry b2)
  clear RN1
  have RN1 := hide (unhide XRN1)
  clear XRN1
  have HM := hide (made_ok (by omega) (unhide RM1))
  clear b2 kA B1
  go_wp2_with fail
  refine (unhide HM).mono ?_
  rintro e w3 ⟨B, sb, rfl, nB, kB, b3⟩
  have B3 := hide ((unhide B2).trans (b3.mono (unhide B2).size))
  have TA := hide ((unhide SA).carry b3)
  clear SA
  have SA := hide (unhide TA)
  clear TA
  have SB := hide kB
  clear HM
  have XRN1 := hide ((unhide RN1).carry b3)
  clear RN1
  have RN1 := hide (unhide XRN1)
  clear XRN1
  have HM := hide (made_ok (by omega) (unhide RN1))
  clear b3 kB B2
  go_wp2_with fail
  refine (unhide HM).mono ?_
  rintro e w4 ⟨C, sc, rfl, nC, kC, b4⟩
  have B4 := hide ((unhide B3).trans (b4.mono (unhide B3).size))
  have TA := hide ((unhide SA).carry b4)
  clear SA
  have SA := hide (unhide TA)
  clear TA
  have TB := hide ((unhide SB).carry b4)
  clear SB
  have SB := hide (unhide TB)
  clear TB
  have SC := hide kC
  clear HM
  clear b4 kC B3
  clear RM1 RN1
  have HM := hide (union_ok (unhide SA) (unhide SB) (by omega))
  go_wp2_with fail
  refine (unhide HM).mono ?_
  rintro e w5 ⟨U, su, rfl, fU, nU, kU, b5⟩
  have B5 := hide ((unhide B4).trans (b5.mono (unhide B4).size))
  have TA := hide ((unhide SA).carry b5)
  clear SA
  have SA := hide (unhide TA)
  clear TA
  have TB := hide ((unhide SB).carry b5)
  clear SB
  have SB := hide (unhide TB)
  clear TB
  have TC := hide ((unhide SC).carry b5)
  clear SC
  have SC := hide (unhide TC)
  clear TC
  have SU := hide kU
  have FU := hide fU
  clear HM b5 kU fU B4
  have HM := hide (both_ok (unhide SA) (unhide SB) (by omega))
  go_wp2_with fail
  refine (unhide HM).mono ?_
  rintro e w6 ⟨I, si, rfl, fI, nI, kI, b6⟩
  have B6 := hide ((unhide B5).trans (b6.mono (unhide B5).size))
  have TA := hide ((unhide SA).carry b6)
  clear SA
  have SA := hide (unhide TA)
  clear TA
  have TB := hide ((unhide SB).carry b6)
  clear SB
  have SB := hide (unhide TB)
  clear TB
  have TC := hide ((unhide SC).carry b6)
  clear SC
  have SC := hide (unhide TC)
  clear TC
  have TU := hide ((unhide SU).carry b6)
  clear SU
  have SU := hide (unhide TU)
  clear TU
  have SI := hide kI
  have FI := hide fI
  clear HM b6 kI fI B5
  have HM := hide (minus_ok (unhide SA) (unhide SB) (by omega))
  go_wp2_with fail
  refine (unhide HM).mono ?_
  rintro e w7 ⟨D, sd, rfl, fD, nD, kD, b7⟩
  have B7 := hide ((unhide B6).trans (b7.mono (unhide B6).size))
  have TA := hide ((unhide SA).carry b7)
  clear SA
  have SA := hide (unhide TA)
  clear TA
  have TB := hide ((unhide SB).carry b7)
  clear SB
  have SB := hide (unhide TB)
  clear TB
  have TC := hide ((unhide SC).carry b7)
  clear SC
  have SC := hide (unhide TC)
  clear TC
  have TU := hide ((unhide SU).carry b7)
  clear SU
  have SU := hide (unhide TU)
  clear TU
  have TI := hide ((unhide SI).carry b7)
  clear SI
  have SI := hide (unhide TI)
  clear TI
  have SD := hide kD
  have FD := hide fD
  clear HM b7 kD fD B6
  have HM := hide (union_ok (unhide SB) (unhide SA) (by omega))
  go_wp2_with fail
  refine (unhide HM).mono ?_
  rintro e w8 ⟨V, sv, rfl, fV, nV, kV, b8⟩
  have B8 := hide ((unhide B7).trans (b8.mono (unhide B7).size))
  have TA := hide ((unhide SA).carry b8)
  clear SA
  have SA := hide (unhide TA)
  clear TA
  have TB := hide ((unhide SB).carry b8)
  clear SB
  have SB := hide (unhide TB)
  clear TB
  have TC := hide ((unhide SC).carry b8)
  clear SC
  have SC := hide (unhide TC)
  clear TC
  have TU := hide ((unhide SU).carry b8)
  clear SU
  have SU := hide (unhide TU)
  clear TU
  have TI := hide ((unhide SI).carry b8)
  clear SI
  have SI := hide (unhide TI)
  clear TI
  have TD := hide ((unhide SD).carry b8)
  clear SD
  have SD := hide (unhide TD)
  clear TD
  have SV := hide kV
  have FV := hide fV
  clear HM b8 kV fV B7
  have HM := hide (same_ok (unhide SU) (unhide SV) (by omega) (fun t => by rw [unhide FU, unhide FV]; exact sums_or _ _))
  go_wp2_with fail
  refine (unhide HM).mono ?_
  rintro e w9 ⟨rfl, b9⟩
  have B9 := hide ((unhide B8).trans (b9.mono (unhide B8).size))
  have TA := hide ((unhide SA).carry b9)
  clear SA
  have SA := hide (unhide TA)
  clear TA
  have TB := hide ((unhide SB).carry b9)
  clear SB
  have SB := hide (unhide TB)
  clear TB
  have TC := hide ((unhide SC).carry b9)
  clear SC
  have SC := hide (unhide TC)
  clear TC
  have TU := hide ((unhide SU).carry b9)
  clear SU
  have SU := hide (unhide TU)
  clear TU
  have TI := hide ((unhide SI).carry b9)
  clear SI
  have SI := hide (unhide TI)
  clear TI
  have TD := hide ((unhide SD).carry b9)
  clear SD
  have SD := hide (unhide TD)
  clear TD
  have TV := hide ((unhide SV).carry b9)
  clear SV
  have SV := hide (unhide TV)
  clear TV
  clear HM b9 B8
  clear SV FV
  go_wp2
  go_loopw [18] (fun tv wr => ∃ k : Int, tv = .int .i64 k ∧ -110 ≤ k ∧ k ≤ 140 ∧ Below w9.heap.size w9 wr) (fun tv _ => (140 - intOf tv).toNat)
  case atStart => exact ⟨-110, rfl, by omega, by omega, Below.refl _ _⟩
  case round =>
    obtain ⟨k, rfl, hk1, hk2, hb⟩ := hrel
    have QA := hide ((unhide SA).carry hb)
    have QB := hide ((unhide SB).carry hb)
    have QC := hide ((unhide SC).carry hb)
    have QU := hide ((unhide SU).carry hb)
    have QI := hide ((unhide SI).carry hb)
    have QD := hide ((unhide SD).carry hb)
    have BL := hide hb
    clear hb
    by_cases hlt : k < 140
    · have gU := unhide FU k
      have gI := unhide FI k
      have gD := unhide FD k
      have H1 := hide (has_ok k (unhide QA) (by omega))
      have GB := hide (fun W (h : Below wr.heap.size wr W) => has_ok k ((unhide QB).carry h) (by omega))
      have GU := hide (fun W (h : Below wr.heap.size wr W) => has_ok k ((unhide QU).carry h) (by omega))
      have GI := hide (fun W (h : Below wr.heap.size wr W) => has_ok k ((unhide QI).carry h) (by omega))
      have GD := hide (fun W (h : Below wr.heap.size wr W) => has_ok k ((unhide QD).carry h) (by omega))
      rw [gU] at GU
      rw [gI] at GI
      rw [gD] at GD
      clear gU gI gD
      generalize inL A k = x at H1 GU GI GD
      generalize inL B k = y at GB GU GI GD
      clear FU FI FD QA QB QU QI QD QC
      cases x <;> cases y
      all_goals
        go_wp2_with fail
        refine (unhide H1).mono ?_
        rintro e x1 ⟨rfl, c1⟩
        have C1 := hide c1
        clear c1
        have HM2 := hide (unhide GB x1 (unhide C1))
        go_wp2_with fail
        refine (unhide HM2).mono ?_
        rintro e x2 ⟨rfl, c2⟩
        have C2 := hide ((unhide C1).trans (c2.mono (unhide C1).size))
        clear c2
        have HM3 := hide (unhide GU x2 (unhide C2))
        go_wp2_with fail
        refine (unhide HM3).mono ?_
        rintro e x3 ⟨rfl, c3⟩
        have C3 := hide ((unhide C2).trans (c3.mono (unhide C2).size))
        clear c3
        have HM4 := hide (unhide GI x3 (unhide C3))
        go_wp2_with fail
        refine (unhide HM4).mono ?_
        rintro e x4 ⟨rfl, c4⟩
        have C4 := hide ((unhide C3).trans (c4.mono (unhide C3).size))
        clear c4
        have HM5 := hide (unhide GD x4 (unhide C4))
        go_wp2_with fail
        refine (unhide HM5).mono ?_
        rintro e x5 ⟨rfl, c5⟩
        have C5 := hide ((unhide C4).trans (c5.mono (unhide C4).size))
        clear c5
        go_wp2
        go_roundw
        case rel => exact ⟨k + 1, by go_num, by omega, by omega, (unhide BL).trans ((unhide C5).mono (unhide BL).size)⟩
        case measure => simp [intOf]; omega
    · have BW := hide ((unhide B9).trans ((unhide BL).mono (unhide B9).size))
      clear SA
      have SA := hide (unhide QA)
      clear QA
      clear SB
      have SB := hide (unhide QB)
      clear QB
      clear SC
      have SC := hide (unhide QC)
      clear QC
      clear SU
      have SU := hide (unhide QU)
      clear QU
      clear SI
      have SI := hide (unhide QI)
      clear QI
      clear SD
      have SD := hide (unhide QD)
      clear QD
      clear BL B9
      have B50 := hide (unhide BW)
      have HM := hide (minus_ok (unhide SA) (unhide SD) (by omega))
      go_wp2_with fail
      refine (unhide HM).mono ?_
      rintro e w51 ⟨W, sw, rfl, fW, nW, kW, b51⟩
      have B51 := hide ((unhide B50).trans (b51.mono (unhide B50).size))
      have TA := hide ((unhide SA).carry b51)
      clear SA
      have SA := hide (unhide TA)
      clear TA
      have TB := hide ((unhide SB).carry b51)
      clear SB
      have SB := hide (unhide TB)
      clear TB
      have TC := hide ((unhide SC).carry b51)
      clear SC
      have SC := hide (unhide TC)
      clear TC
      have TU := hide ((unhide SU).carry b51)
      clear SU
      have SU := hide (unhide TU)
      clear TU
      have TI := hide ((unhide SI).carry b51)
      clear SI
      have SI := hide (unhide TI)
      clear TI
      have TD := hide ((unhide SD).carry b51)
      clear SD
      have SD := hide (unhide TD)
      clear TD
      have SW := hide kW
      have FW := hide fW
      clear HM b51 kW fW B50
      have HM := hide (union_ok (unhide SU) (unhide SC) (by omega))
      go_wp2_with fail
      refine (unhide HM).mono ?_
      rintro e w52 ⟨X, sx, rfl, fX, nX, kX, b52⟩
      have B52 := hide ((unhide B51).trans (b52.mono (unhide B51).size))
      have TA := hide ((unhide SA).carry b52)
      clear SA
      have SA := hide (unhide TA)
      clear TA
      have TB := hide ((unhide SB).carry b52)
      clear SB
      have SB := hide (unhide TB)
      clear TB
      have TC := hide ((unhide SC).carry b52)
      clear SC
      have SC := hide (unhide TC)
      clear TC
      have TU := hide ((unhide SU).carry b52)
      clear SU
      have SU := hide (unhide TU)
      clear TU
      have TI := hide ((unhide SI).carry b52)
      clear SI
      have SI := hide (unhide TI)
      clear TI
      have TD := hide ((unhide SD).carry b52)
      clear SD
      have SD := hide (unhide TD)
      clear TD
      have TW := hide ((unhide SW).carry b52)
      clear SW
      have SW := hide (unhide TW)
      clear TW
      have SX := hide kX
      have FX := hide fX
      clear HM b52 kX fX B51
      have HM := hide (union_ok (unhide SB) (unhide SC) (by omega))
      go_wp2_with fail
      refine (unhide HM).mono ?_
      rintro e w53 ⟨Y, sy, rfl, fY, nY, kY, b53⟩
      have B53 := hide ((unhide B52).trans (b53.mono (unhide B52).size))
      have TA := hide ((unhide SA).carry b53)
      clear SA
      have SA := hide (unhide TA)
      clear TA
      have TB := hide ((unhide SB).carry b53)
      clear SB
      have SB := hide (unhide TB)
      clear TB
      have TC := hide ((unhide SC).carry b53)
      clear SC
      have SC := hide (unhide TC)
      clear TC
      have TU := hide ((unhide SU).carry b53)
      clear SU
      have SU := hide (unhide TU)
      clear TU
      have TI := hide ((unhide SI).carry b53)
      clear SI
      have SI := hide (unhide TI)
      clear TI
      have TD := hide ((unhide SD).carry b53)
      clear SD
      have SD := hide (unhide TD)
      clear TD
      have TW := hide ((unhide SW).carry b53)
      clear SW
      have SW := hide (unhide TW)
      clear TW
      have TX := hide ((unhide SX).carry b53)
      clear SX
      have SX := hide (unhide TX)
      clear TX
      have SY := hide kY
      have FY := hide fY
      clear HM b53 kY fY B52
      have HM := hide (same_ok (unhide SW) (unhide SI) (by omega) (fun t => by rw [unhide FW, unhide FD, unhide FI]; exact sums_less _ _))
      go_wp2_with fail
      refine (unhide HM).mono ?_
      rintro e w54 ⟨rfl, b54⟩
      have B54 := hide ((unhide B53).trans (b54.mono (unhide B53).size))
      have TA := hide ((unhide SA).carry b54)
      clear SA
      have SA := hide (unhide TA)
      clear TA
      have TB := hide ((unhide SB).carry b54)
      clear SB
      have SB := hide (unhide TB)
      clear TB
      have TC := hide ((unhide SC).carry b54)
      clear SC
      have SC := hide (unhide TC)
      clear TC
      have TU := hide ((unhide SU).carry b54)
      clear SU
      have SU := hide (unhide TU)
      clear TU
      have TI := hide ((unhide SI).carry b54)
      clear SI
      have SI := hide (unhide TI)
      clear TI
      have TD := hide ((unhide SD).carry b54)
      clear SD
      have SD := hide (unhide TD)
      clear TD
      have TW := hide ((unhide SW).carry b54)
      clear SW
      have SW := hide (unhide TW)
      clear TW
      have TX := hide ((unhide SX).carry b54)
      clear SX
      have SX := hide (unhide TX)
      clear TX
      have TY := hide ((unhide SY).carry b54)
      clear SY
      have SY := hide (unhide TY)
      clear TY
      clear HM b54 B53
      have HM := hide (union_ok (unhide SA) (unhide SY) (by omega))
      go_wp2_with fail
      refine (unhide HM).mono ?_
      rintro e w55 ⟨Z, sz, rfl, fZ, nZ, kZ, b55⟩
      have B55 := hide ((unhide B54).trans (b55.mono (unhide B54).size))
      have TA := hide ((unhide SA).carry b55)
      clear SA
      have SA := hide (unhide TA)
      clear TA
      have TB := hide ((unhide SB).carry b55)
      clear SB
      have SB := hide (unhide TB)
      clear TB
      have TC := hide ((unhide SC).carry b55)
      clear SC
      have SC := hide (unhide TC)
      clear TC
      have TU := hide ((unhide SU).carry b55)
      clear SU
      have SU := hide (unhide TU)
      clear TU
      have TI := hide ((unhide SI).carry b55)
      clear SI
      have SI := hide (unhide TI)
      clear TI
      have TD := hide ((unhide SD).carry b55)
      clear SD
      have SD := hide (unhide TD)
      clear TD
      have TW := hide ((unhide SW).carry b55)
      clear SW
      have SW := hide (unhide TW)
      clear TW
      have TX := hide ((unhide SX).carry b55)
      clear SX
      have SX := hide (unhide TX)
      clear TX
      have TY := hide ((unhide SY).carry b55)
      clear SY
      have SY := hide (unhide TY)
      clear TY
      have SZ := hide kZ
      have FZ := hide fZ
      clear HM b55 kZ fZ B54
      have HM := hide (same_ok (unhide SX) (unhide SZ) (by omega) (fun t => by rw [unhide FX, unhide FU, unhide FZ, unhide FY]; exact sums_assoc _ _ _))
      go_wp2_with fail
      refine (unhide HM).mono ?_
      rintro e w56 ⟨rfl, b56⟩
      have B56 := hide ((unhide B55).trans (b56.mono (unhide B55).size))
      have TA := hide ((unhide SA).carry b56)
      clear SA
      have SA := hide (unhide TA)
      clear TA
      have TB := hide ((unhide SB).carry b56)
      clear SB
      have SB := hide (unhide TB)
      clear TB
      have TC := hide ((unhide SC).carry b56)
      clear SC
      have SC := hide (unhide TC)
      clear TC
      have TU := hide ((unhide SU).carry b56)
      clear SU
      have SU := hide (unhide TU)
      clear TU
      have TI := hide ((unhide SI).carry b56)
      clear SI
      have SI := hide (unhide TI)
      clear TI
      have TD := hide ((unhide SD).carry b56)
      clear SD
      have SD := hide (unhide TD)
      clear TD
      have TW := hide ((unhide SW).carry b56)
      clear SW
      have SW := hide (unhide TW)
      clear TW
      have TX := hide ((unhide SX).carry b56)
      clear SX
      have SX := hide (unhide TX)
      clear TX
      have TY := hide ((unhide SY).carry b56)
      clear SY
      have SY := hide (unhide TY)
      clear TY
      have TZ := hide ((unhide SZ).carry b56)
      clear SZ
      have SZ := hide (unhide TZ)
      clear TZ
      clear HM b56 B55
      have HM := hide (set_Spans _ U w56 (by omega) (unhide SU).2.2)
      have UC := hide (unhide SU).1
      have UB := hide (unhide SU).2.1
      clear SA SB SC SU SI SD SW SX SY SZ FU FI FD FW FX FY FZ
      go_wp2_with fail
      refine (unhide HM).mono ?_
      rintro e w57 ⟨vs, rfl, os, b57⟩
      have B57 := hide ((unhide B56).trans (b57.mono (unhide B56).size))
      clear b57 B56 HM
      rcases ownsRow_view os with ⟨rfl, hU⟩ | ⟨g, cap, rfl, hg, _, _, hc⟩
      · clear os
        go_wp2
        refine wp_loop_rounds 1 ?_
        rw [rounds_succ]
        go_wp2
        go_ret
        exact ⟨rfl, unhide B57⟩
      · have HC := hide hc
        clear os hc
        go_wp2
        go_loopw [27] (fun kv wz => ∃ k : Nat, k ≤ U.length ∧ kv = .int .i64 k ∧ Below w57.heap.size w57 wz) (fun kv _ => U.length - (intOf kv).toNat)
        case atStart => exact ⟨0, Nat.zero_le _, rfl, Below.refl _ _⟩
        case round =>
          obtain ⟨j, hj, rfl, hbz⟩ := hrel
          by_cases hjl : j < U.length
          · have q0 := (hbz.cell (p := ⟨g, j * 2, none⟩) hg).trans (unhide HC j hjl).1
            have q1 := (hbz.cell (p := ⟨g, j * 2 + 1, none⟩) hg).trans (unhide HC j hjl).2
            have hr := right_of (unhide UC) (unhide UB) j hjl
            have hgz := Nat.lt_of_lt_of_le hg hbz.size
            have hr2 := fun W => span_Right U[j].1 U[j].2 W
            rw [hr] at hr2
            have r5 : ∀ W, Calls Try.prog 5 #[.agg #[.int .i64 U[j].1, .int .i64 U[j].2]] W fun e w' => e = .returned (.bool true) ∧ ∃ q os', w' = Go.Sort.grow (W.drewN q) os' := fun W => (hr2 W).mono fun _ _ h => ⟨h.1, grow_one_s _ _ _ h.2⟩
            have l0 : ∀ n os, (Go.Sort.grow (wr.drewN n) os).cell? ⟨g, j * 2, none⟩ = some (.int .i64 U[j].1) := cell_grown hgz q0
            have l1 : ∀ n os, (Go.Sort.grow (wr.drewN n) os).cell? ⟨g, j * 2 + 1, none⟩ = some (.int .i64 U[j].2) := cell_grown hgz q1
            have BZ := hide hbz
            cases j with
            | zero =>
              generalize U[0].1 = x1 at r5 l0
              generalize U[0].2 = x2 at r5 l1
              clear hr hr2 q0 q1 hbz HC
              have hjz : (0 : Int) < (U.length : Int) := by omega
              go_wp2
              refine wp_region_quiet_grown mixed (by kernel_rfl) ?_
              repeat (go_big_quiet_step ((go_at_call 5; refine Calls.grown_of (r5 _))))
              refine wpQuiet_nil ?_
              intro _ hw9
              obtain ⟨⟨nq, osq⟩, hw8⟩ := hw9
              subst hw8
              have hbq := below_grow_s wr nq osq
              have BQ := hide ((unhide BZ).trans (hbq.mono (unhide BZ).size))
              clear hbq l0 l1 r5
              go_wp2
              go_roundw
              case rel => exact ⟨0 + 1, by omega, by go_num, unhide BQ⟩
              case measure => simp [intOf]; omega
            | succ j =>
              have hgap := canon_gap U j (unhide UC) hjl
              have q2 := (hbz.cell (p := ⟨g, j * 2 + 1, none⟩) hg).trans (unhide HC j (by omega)).2
              have l2 : ∀ n os, (Go.Sort.grow (wr.drewN n) os).cell? ⟨g, j * 2 + 1, none⟩ = some (.int .i64 U[j].2) := cell_grown hgz q2
              generalize U[j].2 = x0 at l2 hgap
              generalize U[j + 1].1 = x1 at r5 l0 hgap
              generalize U[j + 1].2 = x2 at r5 l1
              have hgd : decide (x1 ≤ x0) = false := decide_eq_false (by omega)
              clear hr hr2 q0 q1 q2 hbz HC
              have hjz : ((j : Int) + 1) < (U.length : Int) := by omega
              have hjy : (j : Int) < (U.length : Int) := by omega
              have hjp : decide ((0 : Int) < (j : Int) + 1) = true := decide_eq_true (by omega)
              go_wp2
              refine wp_region_quiet_grown mixed (by kernel_rfl) ?_
              repeat (go_big_quiet_step ((go_at_call 5; refine Calls.grown_of (r5 _))))
              refine wpQuiet_nil ?_
              intro _ hw9
              obtain ⟨⟨nq, osq⟩, hw8⟩ := hw9
              subst hw8
              have hbq := below_grow_s wr nq osq
              have BQ := hide ((unhide BZ).trans (hbq.mono (unhide BZ).size))
              clear hbq l0 l1 l2 r5
              go_wp2
              go_roundw
              case rel => exact ⟨j + 1 + 1, by omega, by go_num, unhide BQ⟩
              case measure => simp [intOf]; omega
          · have BZ := hide ((unhide B57).trans (hbz.mono (unhide B57).size))
            clear hbz
            go_wp2
            go_ret
            exact ⟨rfl, unhide BZ⟩

end Go.Proofs.Ytdjajnhiicfcaaa
