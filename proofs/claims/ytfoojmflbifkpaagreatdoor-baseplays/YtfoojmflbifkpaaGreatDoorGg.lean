/- Texts of one proof, one behind the other. -/
import Derived.Test.YtfoojmflbifkpaaGreatDoorGf
import Derived.Test.YtfoojmflbifkpaaGreatDoorFp
import Derived.Deep.CutBlock
import Derived.Deep.DeepCutAuto
import Derived.Deep.RegionHeld3
import Derived.BigQuiet
import Derived.Outline
set_option maxRecDepth 100000
set_option maxHeartbeats 16000000
namespace Go.Proofs.YtfoojmflbifkpaaGreatDoor
open Go.RowKit Go.Maps
def AskS (Q R b o : Nat) (z : AskN) (x : World) : Prop := x.cell? ⟨Q, 0, none⟩ = some (.pointer (some ⟨R, 0, none⟩)) /\ x.cell? ⟨b, o, none⟩ = some (.int .i64 z.k.kind) /\ x.cell? ⟨b, o + 1, none⟩ = some (.int .i64 z.k.a) /\ x.cell? ⟨b, o + 2, none⟩ = some (.string z.k.word) /\ x.cell? ⟨b, o + 3, none⟩ = some (.int .i64 z.k.b) /\ x.cell? ⟨b, o + 4, none⟩ = some (.int .i64 z.a) /\ x.cell? ⟨b, o + 5, none⟩ = some (.int .i64 z.b) /\ x.cell? ⟨b, o + 6, none⟩ = some (.int .i64 z.t) /\ x.cell? ⟨b, o + 7, none⟩ = some (.int .i64 z.lo) /\ x.cell? ⟨b, o + 8, none⟩ = some (.int .i64 z.hi)
theorem AskS.below {Q R b o : Nat} {z : AskN} {x y : World} (h : AskS Q R b o z x) (hb : Below x.heap.size x y) : AskS Q R b o z y := by
 obtain ⟨h0, h1, h2, h3, h4, h5, h6, h7, h8, h9⟩ := h
 exact ⟨there_yet h0 hb, there_yet h1 hb, there_yet h2 hb, there_yet h3 hb, there_yet h4 hb, there_yet h5 hb, there_yet h6 hb, there_yet h7 hb, there_yet h8 hb, there_yet h9 hb⟩
theorem law_base (w : World) (L : List StepN) (A : List AskN) (ad aa : Option Addr) (cl ca : Nat) (hL : StepsAt w ad L) (hA : AsksAt w aa A) (hl : L.length <= 40) (ha : A.length <= 12) (ht : Tab w) (hb : Libs w) (hg : ErrorType w) :
  Calls Tryz.prog 5 #[.slice ad L.length cl, .slice aa A.length ca] w fun e w' => e = .returned (.bool true) /\ Below w.heap.size w w' := by
 have HB0 := zh (below_box w (.cells Tryz.zeroCells84 84))
 have HD0 := zh (disk_new w)
 have HO := zh (base_Open (es := []) (uh HD0) holds_nil (by decide) (ht.carry (uh HB0)) (hb.carry (uh HB0)))
 have HL := zh hL
 have HA := zh hA
 have HT := zh ht
 have HLb := zh hb
 have HG := zh hg
 have hlz : ¬ (40 : Int) < (L.length : Int) := by omega
 have haz : ¬ (12 : Int) < (A.length : Int) := by omega
 clear hL hA ht hg hb
 obtain ⟨nL, hnL⟩ : ∃ n, n = L.length := ⟨_, rfl⟩
 obtain ⟨nA, hnA⟩ : ∃ n, n = A.length := ⟨_, rfl⟩
 rw [<- hnL] at hlz hl ⊢
 rw [<- hnA] at haz ha ⊢
 have HNL := zh hnL
 have HNA := zh hnA
 clear hnL hnA
 go_enter Tryz.func5, Tryz.ntmps5
 go_wp2_with fail
 generalize w.alloc (.cells Tryz.zeroCells84 84) = W0 at *
 refine (uh HO).mono ?_
 rintro e W1 ⟨B, F, rfl, hB, hF, b1⟩
 have HS := zh (bp_start (uh HD0) (uh HB0) zr hB hF b1)
 clear hB hF b1 HO HD0 HB0
 go_wp2_with fail
 refine (base_Open_none W1).mono ?_
 rintro e W2 ⟨rfl, hW2⟩
 obtain rfl : W1 = W2 := hW2.symm
 clear hW2
 go_wp2_with fail
 refine (rb_new W1).mono ?_
 rintro e W2 ⟨rfl, hW2⟩
 rw [<- hW2] at HS
 clear hW2
 obtain ⟨Q, hQ⟩ : ∃ Q, Q = W1.heap.size + 1 := ⟨_, rfl⟩
 rw [<- hQ] at HS ⊢
 clear hQ
 generalize W1.heap.size = R at *
 have HX := zh (bare_err 7 W2 ((uh HG).carry (uh HS).low))
 have HE0 := zh ((uh HS).e)
 clear HS
 go_wp2_with fail
 refine (uh HX).mono ?_
 rintro e W3 ⟨rfl, b3⟩
 have HE1 := zh ((uh HE0).below b3)
 clear b3 HX HE0
 go_wp2_with fail
 go_loopw [6, 11] (fun vb i y => ∃ k : Nat, k <= nL /\ i = .int .i64 k /\ BpE w y w.heap.size Q R vb) (fun _ i _ => nL - (intOf i).toNat)
 case atStart => exact ⟨0, Nat.zero_le _, rfl, uh HE1⟩
 case round =>
  obtain ⟨k, hk, rfl, hE⟩ := hrel
  have HE := zh hE
  clear hE HE1
  by_cases hlt : k < nL
  ·have hlt' : (k : Int) < (nL : Int) := by omega
   have hk0 : (0 : Int) <= (k : Int) := by omega
   have HN1 : Hid (k < L.length) := by rw [<- uh HNL]; exact hlt
   obtain ⟨b, o, rfl, x0, x1, x2, x3, hR, hn, hs, hmx⟩ := uh HL k (uh HN1)
   have q0 := ((uh HE).low.cell (p := _) (lt_of_cell x0)).trans x0
   have q1 := ((uh HE).low.cell (p := _) (lt_of_cell x1)).trans x1
   have q2 := ((uh HE).low.cell (p := _) (lt_of_cell x2)).trans x2
   have q3 := ((uh HE).low.cell (p := _) (lt_of_cell x3)).trans x3
   have HR := zh hR
   have HNm := zh hn
   have HSm := zh hs
   have HMx := zh hmx
   clear x0 x1 x2 x3 hR hn hs hmx
   generalize L[k] = z at *
   obtain ⟨what, xn, torn, v, l⟩ := z
   dsimp only at *
   obtain ⟨ad', cap', hv, _⟩ := uh HR
   subst hv
   obtain ⟨B, es, down, ps, cut, left, lf, F, G, rfl, hI⟩ := uh HE
   have hb1 := below_box wr (.cells #[.int .i64 what, .int .i64 xn, .int .i64 torn, .slice ad' l.length cap'] 48)
   have HI1 := zh (hI.below hb1)
   have HFx : Hid (¬ (F wr.heap.size \/ wr.heap.size = w.heap.size)) := fun q => by
    rcases q with q | q
    ·exact Nat.lt_irrefl _ (BaseW.lt hI.bd.base _ q)
    ·have := hI.bd.disk.lt; omega
   have HRx : Hid (¬ (wr.heap.size = Q \/ wr.heap.size = R)) := fun q => by
    have := hI.rb.lt
    have := hI.Rlt
    omega
   have hsl : ∀ i, i < 4 -> (wr.alloc (.cells #[.int .i64 what, .int .i64 xn, .int .i64 torn, .slice ad' l.length cap'] 48)).cell? ⟨wr.heap.size, i, none⟩ = (#[.int .i64 what, .int .i64 xn, .int .i64 torn, .slice ad' l.length cap'] : Array Value)[i]? := fun i _ => by rw [World.cell?_alloc_at _ _ _ _ rfl]
   have c0 := hsl 0 (by decide)
   have c1 := hsl 1 (by decide)
   have c2 := hsl 2 (by decide)
   have c3 := hsl 3 (by decide)
   simp only [gA, gZ, gS] at c0 c1 c2 c3
   clear hI hsl hb1
   go_upto_region 13 with fail
   generalize wr.alloc (.cells #[.int .i64 what, .int .i64 xn, .int .i64 torn, .slice ad' l.length cap'] 48) = X1 at *
   have HSh := zh (law_short l _ X1 (uh HNm) (uh HSm) ((uh HR).carry (uh HI1).low))
   go_wp2_with fail
   refine (uh HSh).mono ?_
   rintro e X2 ⟨r, rfl, hsh, hX2⟩
   obtain rfl : X1 = X2 := hX2.symm
   clear hX2 HSh q0 q1 q2 q3
   cases r with
   | false =>
    clear hsh c0 c1 c2 c3
    go_wp2
    go_roundw
    case rel => exact ⟨k + 1, by omega, by go_num, (uh HI1).e⟩
    case measure => simp [intOf]; omega
   | true =>
    have HSo := zh (hsh rfl)
    clear hsh
    have HD := zh (below_drew X1)
    have C1 := zh (there_yet c1 (uh HD))
    have C2 := zh (there_yet c2 (uh HD))
    have C3 := zh (there_yet c3 (uh HD))
    go_upto_block 2 with fail
    go_cut [6, 7, 65, 79, 93, 103] (fun vb _ _ _ _ _ wx => BpE w wx w.heap.size Q R vb)
    case first =>
     by_cases hw0 : what = 0
     ·subst hw0
      have hCo := base_commit ((uh HI1).below (uh HD)) (uh HT) (uh HLb) (uh HG) l _ torn (Nat.lt_of_le_of_lt (uh HSo).1 (by decide)) (uh HSm) (uh HR)
      unfold CommitB at hCo
      have HCo := zh hCo
      clear hCo
      go_upto_region 16 with fail
      refine wp_region_held_drew (S := fun x => x.cell? ⟨wr.heap.size, 3, none⟩ = some (.slice ad' l.length cap') /\ x.cell? ⟨wr.heap.size, 2, none⟩ = some (.int .i64 torn)) (by kernel_rfl) ⟨uh C3, uh C2⟩ (fun hHeld => ?_)
      refine takeH 0 (oi := ?o0_1) (v := ?v0_1) ?h0_1 (by kernel_rfl) (by assumption) ?y0_1 ?_
      case h0_1 => (simp only [gA, gZ]; rfl)
      case y0_1 => (refine ⟨fun _ _ _ h => h, rfl, fun w h => ?_⟩; (try dsimp only at h); go_simp <;> with_reducible rfl)
      try simp only [Act.put, sI, sZ, sS]
      refine takeH 1 (oi := ?o1_1) (v := ?v1_1) ?h1_1 (by kernel_rfl) (by assumption) ?y1_1 ?_
      case h1_1 => (simp only [gA, gZ, gS]; rfl)
      case y1_1 => (refine ⟨fun _ _ _ h => h, rfl, fun w h => ?_⟩; (try dsimp only at h); go_simp <;> with_reducible rfl)
      try simp only [Act.put, sI, sZ, sS]
      refine takeH 2 (oi := ?o2_1) (v := ?v2_1) ?h2_1 (by kernel_rfl) (by assumption) ?y2_1 ?_
      case h2_1 => (simp only [gA, gZ, gS]; rfl)
      case y2_1 => (refine ⟨fun _ _ _ h => h, rfl, fun w h => ?_⟩; (try dsimp only at h); go_simp <;> with_reducible rfl)
      try simp only [Act.put, sI, sZ, sS]
      refine takeH 3 (oi := ?o3_1) (v := ?v3_1) ?h3_1 (by kernel_rfl) (by assumption) ?y3_1 ?_
      case h3_1 => (simp only [gA, gZ, gS]; rfl)
      case y3_1 => (refine ⟨fun _ _ _ h => h, rfl, fun w h => ?_⟩; (try dsimp only at h); go_simp <;> with_reducible rfl)
      try simp only [Act.put, sI, sZ, sS]
      refine takeH 4 (oi := ?o4_1) (v := ?v4_1) ?h4_1 (by kernel_rfl) (by assumption) ?y4_1 ?_
      case h4_1 => (simp only [gA, gZ, gS]; rfl)
      case y4_1 => (refine ⟨fun _ _ _ h => h, rfl, fun w h => ?_⟩; (try dsimp only at h); go_simp <;> with_reducible rfl)
      try simp only [Act.put, sI, sZ, sS]
      refine takeH 6 (oi := ?o6_1) (v := ?v6_1) ?h6_1 (by kernel_rfl) (by assumption) ?y6_1 ?_
      case h6_1 => (simp only [gA, gZ, gS]; rfl)
      case y6_1 => (refine ⟨fun _ _ _ h => h, rfl, fun w h => ?_⟩; (try dsimp only at h); go_simp <;> with_reducible rfl)
      try simp only [Act.put, sI, sZ, sS]
      refine takeH 7 (oi := ?o7_1) (v := ?v7_1) ?h7_1 (by kernel_rfl) (by assumption) ?y7_1 ?_
      case h7_1 => (simp only [gA, gZ, gS]; rfl)
      case y7_1 => (refine ⟨fun _ _ _ h => h, rfl, fun w h => ?_⟩; (try dsimp only at h); go_simp <;> with_reducible rfl)
      try simp only [Act.put, sI, sZ, sS]
      refine takeH 8 (oi := ?o8_1) (v := ?v8_1) ?h8_1 (by kernel_rfl) (by assumption) ?y8_1 ?_
      case h8_1 => (simp only [gA, gZ, gS]; rfl)
      case y8_1 => (refine ⟨fun _ _ _ h => h, rfl, fun w h => ?_⟩; (try dsimp only at h); go_simp <;> with_reducible rfl)
      try simp only [Act.put, sI, sZ, sS]
      refine wpAnyH_ready (rs := [5]) (by kernel_rfl) (by simp) ?_
      refine AllReadyH.cons (o := ?cao1) ?cah1 (fun K hK => ?cas1) ?cam1
      case cah1 => (simp only [gA, gZ, gS]; rfl)
      case cam1 => exact AllReadyH.nil
      case cas1 =>
       go_simp
       refine (uh HCo).mono ?_
       rintro e y1 ⟨u, rfl, hk1, hC1⟩
       have HX1 : Hid ((y1.cell? ⟨wr.heap.size, 3, none⟩ = some (.slice ad' l.length cap') : Prop) /\ y1.cell? ⟨wr.heap.size, 2, none⟩ = some (.int .i64 torn)) := ⟨(hk1.cell (p := ⟨wr.heap.size, 3, none⟩) (lt_of_cell (uh C3)) (uh HFx)).trans (uh C3), (hk1.cell (p := ⟨wr.heap.size, 2, none⟩) (lt_of_cell (uh C2)) (uh HFx)).trans (uh C2)⟩
       have HC1 := zh hC1
       clear hk1 hC1
       refine hK.out _ _ (uh HX1) (fun hHeld => ?_)
       clear hK K
       try simp only [Act.put, sI, sZ, sS]
       refine wpAnyH_ready (rs := [9]) (by kernel_rfl) (by simp) ?_
       refine AllReadyH.cons (o := ?cao2) ?cah2 (fun K hK => ?cas2) ?cam2
       case cah2 => (simp only [gA, gZ, gS]; rfl)
       case cam2 => exact AllReadyH.nil
       case cas2 =>
        go_simp
        refine (uh HC1).mono ?_
        rintro e y2 ⟨n, i, rfl, hk2, hE2, hC2⟩
        have HX2 := zh (And.intro ((hk2.cell (p := ⟨wr.heap.size, 3, none⟩) (lt_of_cell (uh HX1).1) (uh HRx)).trans (uh HX1).1) ((hk2.cell (p := ⟨wr.heap.size, 2, none⟩) (lt_of_cell (uh HX1).2) (uh HRx)).trans (uh HX1).2))
        have HE2 := zh hE2
        have HC2 := zh hC2
        clear hk2 hE2 hC2
        refine hK.out _ _ (uh HX2) (fun hHeld => ?_)
        clear hK K
        try simp only [Act.put, sI, sZ, sS]
        refine wpAnyH_ready (rs := [10]) (by kernel_rfl) (by simp) ?_
        refine AllReadyH.cons (o := ?cao3) ?cah3 (fun K hK => ?cas3) ?cam3
        case cah3 => (simp only [gA, gZ, gS]; rfl)
        case cam3 => exact AllReadyH.nil
        case cas3 =>
         go_simp
         refine (uh HC2).mono ?_
         rintro e y3 ⟨rfl, b3⟩
         have HE3 := zh ((uh HE2).below b3)
         have HX3 := zh (And.intro (there_yet (uh HX2).1 b3) (there_yet (uh HX2).2 b3))
         clear b3
         refine hK.out _ _ (uh HX3) (fun hHeld => ?_)
         clear hK K
         try simp only [Act.put, sI, sZ, sS]
         refine takeH 11 (oi := ?o11_2) (v := ?v11_2) ?h11_2 (by kernel_rfl) (by assumption) ?y11_2 ?_
         case h11_2 => (simp only [gA, gZ, gS]; rfl)
         case y11_2 => (refine ⟨fun _ _ _ h => h, rfl, fun w h => ?_⟩; (try dsimp only at h); go_simp <;> with_reducible rfl)
         try simp only [Act.put, sI, sZ, sS]
         refine wpAnyH_done (by kernel_rfl) ?_ _
         clear hHeld
         go_wp2
         go_meet
         case rel => exact uh HE3
     ·by_cases hw1 : what = 1
      ·subst hw1
       have hCo := base_forget ((uh HI1).below (uh HD)) (uh HT) (uh HLb) (uh HG) xn torn
       unfold ForgetB at hCo
       have HCo := zh hCo
       clear hCo
       go_upto_region 19 with fail
       refine wp_region_held_drew (S := fun x => x.cell? ⟨wr.heap.size, 1, none⟩ = some (.int .i64 xn) /\ x.cell? ⟨wr.heap.size, 2, none⟩ = some (.int .i64 torn)) (by kernel_rfl) ⟨uh C1, uh C2⟩ (fun hHeld => ?_)
       refine takeH 0 (oi := ?o0_3) (v := ?v0_3) ?h0_3 (by kernel_rfl) (by assumption) ?y0_3 ?_
       case h0_3 => (simp only [gA, gZ]; rfl)
       case y0_3 => (refine ⟨fun _ _ _ h => h, rfl, fun w h => ?_⟩; (try dsimp only at h); go_simp <;> with_reducible rfl)
       try simp only [Act.put, sI, sZ, sS]
       refine takeH 1 (oi := ?o1_3) (v := ?v1_3) ?h1_3 (by kernel_rfl) (by assumption) ?y1_3 ?_
       case h1_3 => (simp only [gA, gZ, gS]; rfl)
       case y1_3 => (refine ⟨fun _ _ _ h => h, rfl, fun w h => ?_⟩; (try dsimp only at h); go_simp <;> with_reducible rfl)
       try simp only [Act.put, sI, sZ, sS]
       refine takeH 2 (oi := ?o2_3) (v := ?v2_3) ?h2_3 (by kernel_rfl) (by assumption) ?y2_3 ?_
       case h2_3 => (simp only [gA, gZ, gS]; rfl)
       case y2_3 => (refine ⟨fun _ _ _ h => h, rfl, fun w h => ?_⟩; (try dsimp only at h); go_simp <;> with_reducible rfl)
       try simp only [Act.put, sI, sZ, sS]
       refine takeH 3 (oi := ?o3_3) (v := ?v3_3) ?h3_3 (by kernel_rfl) (by assumption) ?y3_3 ?_
       case h3_3 => (simp only [gA, gZ, gS]; rfl)
       case y3_3 => (refine ⟨fun _ _ _ h => h, rfl, fun w h => ?_⟩; (try dsimp only at h); go_simp <;> with_reducible rfl)
       try simp only [Act.put, sI, sZ, sS]
       refine takeH 4 (oi := ?o4_3) (v := ?v4_3) ?h4_3 (by kernel_rfl) (by assumption) ?y4_3 ?_
       case h4_3 => (simp only [gA, gZ, gS]; rfl)
       case y4_3 => (refine ⟨fun _ _ _ h => h, rfl, fun w h => ?_⟩; (try dsimp only at h); go_simp <;> with_reducible rfl)
       try simp only [Act.put, sI, sZ, sS]
       refine takeH 6 (oi := ?o6_3) (v := ?v6_3) ?h6_3 (by kernel_rfl) (by assumption) ?y6_3 ?_
       case h6_3 => (simp only [gA, gZ, gS]; rfl)
       case y6_3 => (refine ⟨fun _ _ _ h => h, rfl, fun w h => ?_⟩; (try dsimp only at h); go_simp <;> with_reducible rfl)
       try simp only [Act.put, sI, sZ, sS]
       refine takeH 7 (oi := ?o7_3) (v := ?v7_3) ?h7_3 (by kernel_rfl) (by assumption) ?y7_3 ?_
       case h7_3 => (simp only [gA, gZ, gS]; rfl)
       case y7_3 => (refine ⟨fun _ _ _ h => h, rfl, fun w h => ?_⟩; (try dsimp only at h); go_simp <;> with_reducible rfl)
       try simp only [Act.put, sI, sZ, sS]
       refine takeH 8 (oi := ?o8_3) (v := ?v8_3) ?h8_3 (by kernel_rfl) (by assumption) ?y8_3 ?_
       case h8_3 => (simp only [gA, gZ, gS]; rfl)
       case y8_3 => (refine ⟨fun _ _ _ h => h, rfl, fun w h => ?_⟩; (try dsimp only at h); go_simp <;> with_reducible rfl)
       try simp only [Act.put, sI, sZ, sS]
       refine wpAnyH_ready (rs := [5]) (by kernel_rfl) (by simp) ?_
       refine AllReadyH.cons (o := ?fao1) ?fah1 (fun K hK => ?fas1) ?fam1
       case fah1 => (simp only [gA, gZ, gS]; rfl)
       case fam1 => exact AllReadyH.nil
       case fas1 =>
        go_simp
        refine (uh HCo).mono ?_
        rintro e y1 ⟨u, rfl, hk1, hC1⟩
        have HX1 : Hid ((y1.cell? ⟨wr.heap.size, 1, none⟩ = some (.int .i64 xn) : Prop) /\ y1.cell? ⟨wr.heap.size, 2, none⟩ = some (.int .i64 torn)) := ⟨(hk1.cell (p := ⟨wr.heap.size, 1, none⟩) (lt_of_cell (uh C1)) (uh HFx)).trans (uh C1), (hk1.cell (p := ⟨wr.heap.size, 2, none⟩) (lt_of_cell (uh C2)) (uh HFx)).trans (uh C2)⟩
        have HC1 := zh hC1
        clear hk1 hC1
        refine hK.out _ _ (uh HX1) (fun hHeld => ?_)
        clear hK K
        try simp only [Act.put, sI, sZ, sS]
        refine wpAnyH_ready (rs := [9]) (by kernel_rfl) (by simp) ?_
        refine AllReadyH.cons (o := ?fao2) ?fah2 (fun K hK => ?fas2) ?fam2
        case fah2 => (simp only [gA, gZ, gS]; rfl)
        case fam2 => exact AllReadyH.nil
        case fas2 =>
         go_simp
         refine (uh HC1).mono ?_
         rintro e y2 ⟨n, rfl, hk2, hE2, hC2⟩
         have HX2 := zh (And.intro ((hk2.cell (p := ⟨wr.heap.size, 1, none⟩) (lt_of_cell (uh HX1).1) (uh HRx)).trans (uh HX1).1) ((hk2.cell (p := ⟨wr.heap.size, 2, none⟩) (lt_of_cell (uh HX1).2) (uh HRx)).trans (uh HX1).2))
         have HE2 := zh hE2
         have HC2 := zh hC2
         clear hk2 hE2 hC2
         refine hK.out _ _ (uh HX2) (fun hHeld => ?_)
         clear hK K
         try simp only [Act.put, sI, sZ, sS]
         refine wpAnyH_ready (rs := [10]) (by kernel_rfl) (by simp) ?_
         refine AllReadyH.cons (o := ?fao3) ?fah3 (fun K hK => ?fas3) ?fam3
         case fah3 => (simp only [gA, gZ, gS]; rfl)
         case fam3 => exact AllReadyH.nil
         case fas3 =>
          go_simp
          refine (uh HC2).mono ?_
          rintro e y3 ⟨rfl, b3⟩
          have HE3 := zh ((uh HE2).below b3)
          have HX3 := zh (And.intro (there_yet (uh HX2).1 b3) (there_yet (uh HX2).2 b3))
          clear b3
          refine hK.out _ _ (uh HX3) (fun hHeld => ?_)
          clear hK K
          try simp only [Act.put, sI, sZ, sS]
          refine takeH 11 (oi := ?o11_4) (v := ?v11_4) ?h11_4 (by kernel_rfl) (by assumption) ?y11_4 ?_
          case h11_4 => (simp only [gA, gZ, gS]; rfl)
          case y11_4 => (refine ⟨fun _ _ _ h => h, rfl, fun w h => ?_⟩; (try dsimp only at h); go_simp <;> with_reducible rfl)
          try simp only [Act.put, sI, sZ, sS]
          refine wpAnyH_done (by kernel_rfl) ?_ _
          clear hHeld
          go_wp2
          go_meet
          case rel => exact uh HE3
      ·by_cases hw2 : what = 2
       ·subst hw2
        have HCu := zh (base_cut (uh HI1) xn (uh HMx))
        go_wp2_with fail
        refine (uh HCu).mono ?_
        rintro e y1 ⟨rfl, hk1, hC1⟩
        have d1 := (hk1.cell (p := ⟨wr.heap.size, 1, none⟩) (lt_of_cell c1) (fun q => uh HFx (.inr q))).trans c1
        have HC1 := zh hC1
        clear hk1 hC1 HCu c0 c1 c2 c3
        go_wp2_with fail
        refine (uh HC1).mono ?_
        rintro e y2 ⟨rfl, hE2⟩
        have HE2 := zh hE2
        clear hE2 HC1
        go_wp2
        go_meet
        case rel => exact uh HE2
       ·by_cases hw4 : what = 4
        ·subst hw4
         have HCu := zh (base_back (uh HI1))
         go_wp2_with fail
         refine (uh HCu).mono ?_
         rintro e y1 ⟨rfl, hk1, hr1, hI2⟩
         have e2 := hr1.c2
         have f2 := hr1.f 2
         have HAg := zh (base_again hI2 (uh HT) (uh HLb))
         clear hk1 hr1 hI2 HCu c0 c1 c2 c3
         go_wp2_with fail
         refine (uh HAg).mono ?_
         rintro e y2 ⟨B', rfl, hr2, hE2⟩
         have e4 := hr2.c4
         have f4 := hr2.f 4
         have HE2 := zh hE2
         clear hr2 hE2 HAg e2 f2
         go_wp2
         go_meet
         case rel => exact uh HE2
        ·by_cases hw3 : what = 3
         ·subst hw3
          have HAg := zh (base_again (uh HI1) (uh HT) (uh HLb))
          go_wp2_with fail
          refine (uh HAg).mono ?_
          rintro e y2 ⟨B', rfl, hr2, hE2⟩
          have e4 := hr2.c4
          have f4 := hr2.f 4
          have HE2 := zh hE2
          clear hr2 hE2 HAg c0 c1 c2 c3
          go_wp2
          go_meet
          case rel => exact uh HE2
         ·go_wp2
          go_meet
          case rel => exact (uh HI1).e
    case rest =>
     obtain ⟨B, es, down, ps, cut, left, lf, F, G, rfl, hI⟩ := hcut
     have HI2 := zh hI
     have HU : Hid (∀ n, Calls Tryz.prog 36 #[.pointer (some ⟨B, 0, none⟩)] (wc.drewN n) fun e w' => e = .returned (.int .i64 es.length) /\ w' = wc.drewN n) := fun n => base_Used (hI.bd.base.below (below_drewN wc n))
     have HDn : Hid (∀ n, Calls Tryz.prog 37 #[.pointer (some ⟨B, 0, none⟩)] (wc.drewN n) fun e w' => e = .returned (.bool down) /\ w' = wc.drewN n) := fun n => base_Down (hI.bd.base.below (below_drewN wc n))
     have HPt : Hid (∀ n, Calls Tryz.prog 38 #[.pointer (some ⟨B, 0, none⟩)] (wc.drewN n) fun e w' => e = .returned (.pointer (some ⟨B, 1, none⟩)) /\ w' = wc.drewN n) := fun n => base_Past (wc.drewN n) B
     have e1 := hI.rb.c1
     have e4 := hI.rb.c4
     generalize hus : (es.length : Int) = us at e1 HU
     have HUs := zh hus
     clear hus
     clear hI HI1 HFx HRx HSo HD C1 C2 C3 c0 c1 c2 c3 HNm HSm HR HMx
     go_upto_region 33 with fail
     go_quiet (first | (go_at_call 36; exact Calls.quiet_of_same (uh HU _)) | (go_at_call 37; exact Calls.quiet_of_same (uh HDn _)) | (go_at_call 38; exact Calls.quiet_of_same (uh HPt _)))
     have HI3 := zh ((uh HI2).below (below_drewN wc nq))
     clear HU HDn HPt e1 e4 HUs HI2
     generalize wc.drewN nq = wz at *
     by_cases hA0 : nA = 0
     ·subst hA0
      go_upto_region 35 with fail
      go_quiet (fail)
      have HE5 := zh (((uh HI3).below (below_drewN wz nq)).e)
      go_wp2
      go_roundw
      case rel => exact ⟨k + 1, by omega, by go_num, uh HE5⟩
      case measure => simp [intOf]; omega
     ·have hA1 : (0 : Int) < (nA : Int) := by omega
      have hA1n : 0 < nA := by omega
      have hA2 : ¬ (nA : Int) = 0 := by omega
      have hrm : (k : Int).tmod (nA : Int) = ((k % nA : Nat) : Int) := by
       rw [Int.tmod_eq_emod_of_nonneg (by omega)]
       exact (Int.natCast_emod k nA).symm
      have hjl : k % nA < nA := Nat.mod_lt _ (by omega)
      have hj1 : ((k % nA : Nat) : Int) < (nA : Int) := by omega
      have hj0 : (0 : Int) <= ((k % nA : Nat) : Int) := by omega
      have HNj : Hid (k % nA < A.length) := by rw [<- uh HNA]; exact hjl
      have HIz := zh ((uh HI3).below (below_drew wz))
      clear HI3
      generalize k % nA = j at *
      obtain ⟨b', o', rfl, a0, a1, a2, a3, a4, a5, a6, a7, a8, hky, ht0, ht1⟩ := uh HA j (uh HNj)
      have HAs : Hid (AskS Q R b' (o' + j * 9) A[j] wz.drew) := by
       have t : ∀ {p : Addr} {v : Value}, w.cell? p = some v -> wz.drew.cell? p = some v := fun {p v} h => ((uh HIz).low.cell (p := p) (lt_of_cell h)).trans h
       exact ⟨(uh HIz).rb.c0, t a0, t a1, t a2, t a3, t a4, t a5, t a6, t a7, t a8⟩
      clear a0 a1 a2 a3 a4 a5 a6 a7 a8
      generalize A[j] = z at *
      obtain ⟨ky, qa, qb, qt, qlo, qhi⟩ := z
      dsimp only at hky ht0 ht1
      have HTl := zh (law_tells (uh HIz).two ((uh HG).carry (uh HIz).low) ky hky qa qb qt qlo qhi ht0 ht1)
      have HE4 := zh (uh HIz).e
      clear hky ht0 ht1 HIz
      go_upto_region 35 with fail
      refine wp_region_held_drew (S := fun x => x.cell? ⟨Q, 0, none⟩ = some (.pointer (some ⟨R, 0, none⟩)) /\ x.cell? ⟨b', o' + j * 9, none⟩ = some (.int .i64 ky.kind) /\ x.cell? ⟨b', o' + j * 9 + 1, none⟩ = some (.int .i64 ky.a) /\ x.cell? ⟨b', o' + j * 9 + 2, none⟩ = some (.string ky.word) /\ x.cell? ⟨b', o' + j * 9 + 3, none⟩ = some (.int .i64 ky.b) /\ x.cell? ⟨b', o' + j * 9 + 4, none⟩ = some (.int .i64 qa) /\ x.cell? ⟨b', o' + j * 9 + 5, none⟩ = some (.int .i64 qb) /\ x.cell? ⟨b', o' + j * 9 + 6, none⟩ = some (.int .i64 qt) /\ x.cell? ⟨b', o' + j * 9 + 7, none⟩ = some (.int .i64 qlo) /\ x.cell? ⟨b', o' + j * 9 + 8, none⟩ = some (.int .i64 qhi)) (by kernel_rfl) (uh HAs) (fun hHeld => ?_)
      refine takeH 0 (oi := ?o0_5) (v := ?v0_5) ?h0_5 (by kernel_rfl) (by assumption) ?y0_5 ?_
      case h0_5 => (simp only [gA, gZ]; rfl)
      case y0_5 => (refine ⟨fun _ _ _ h => h, rfl, fun w h => ?_⟩; (try dsimp only at h); go_simp <;> with_reducible rfl)
      try simp only [Act.put, sI, sZ, sS]
      refine takeH 1 (oi := ?o1_5) (v := ?v1_5) ?h1_5 (by kernel_rfl) (by assumption) ?y1_5 ?_
      case h1_5 => (simp only [gA, gZ, gS]; rfl)
      case y1_5 => (refine ⟨fun _ _ _ h => h, rfl, fun w h => ?_⟩; (try dsimp only at h); go_simp <;> with_reducible rfl)
      try simp only [Act.put, sI, sZ, sS]
      refine takeH 2 (oi := ?o2_5) (v := ?v2_5) ?h2_5 (by kernel_rfl) (by assumption) ?y2_5 ?_
      case h2_5 => (simp only [gA, gZ, gS]; rfl)
      case y2_5 => (refine ⟨fun _ _ _ h => h, rfl, fun w h => ?_⟩; (try dsimp only at h); go_simp <;> with_reducible rfl)
      try simp only [Act.put, sI, sZ, sS]
      refine takeH 3 (oi := ?o3_5) (v := ?v3_5) ?h3_5 (by kernel_rfl) (by assumption) ?y3_5 ?_
      case h3_5 => (simp only [gA, gZ, gS]; rfl)
      case y3_5 => (refine ⟨fun _ _ _ h => h, rfl, fun w h => ?_⟩; (try dsimp only at h); go_simp <;> with_reducible rfl)
      try simp only [Act.put, sI, sZ, sS]
      refine takeH 4 (oi := ?o4_5) (v := ?v4_5) ?h4_5 (by kernel_rfl) (by assumption) ?y4_5 ?_
      case h4_5 => (simp only [gA, gZ, gS]; rfl)
      case y4_5 => (refine ⟨fun _ _ _ h => h, rfl, fun w h => ?_⟩; (try dsimp only at h); go_simp <;> with_reducible rfl)
      try simp only [Act.put, sI, sZ, sS]
      refine takeH 6 (oi := ?o6_5) (v := ?v6_5) ?h6_5 (by kernel_rfl) (by assumption) ?y6_5 ?_
      case h6_5 => (simp only [gA, gZ, gS]; rfl)
      case y6_5 => (refine ⟨fun _ _ _ h => h, rfl, fun w h => ?_⟩; (try dsimp only at h); go_simp <;> with_reducible rfl)
      try simp only [Act.put, sI, sZ, sS]
      refine takeH 7 (oi := ?o7_5) (v := ?v7_5) ?h7_5 (by kernel_rfl) (by assumption) ?y7_5 ?_
      case h7_5 => (simp only [gA, gZ, gS]; rfl)
      case y7_5 => (refine ⟨fun _ _ _ h => h, rfl, fun w h => ?_⟩; (try dsimp only at h); go_simp <;> with_reducible rfl)
      try simp only [Act.put, sI, sZ, sS]
      refine takeH 8 (oi := ?o8_5) (v := ?v8_5) ?h8_5 (by kernel_rfl) (by assumption) ?y8_5 ?_
      case h8_5 => (simp only [gA, gZ, gS]; rfl)
      case y8_5 => (refine ⟨fun _ _ _ h => h, rfl, fun w h => ?_⟩; (try dsimp only at h); go_simp <;> with_reducible rfl)
      try simp only [Act.put, sI, sZ, sS]
      refine takeH 9 (oi := ?o9_5) (v := ?v9_5) ?h9_5 (by kernel_rfl) (by assumption) ?y9_5 ?_
      case h9_5 => (simp only [gA, gZ, gS]; rfl)
      case y9_5 => (refine ⟨fun _ _ _ h => h, rfl, fun w h => ?_⟩; (try dsimp only at h); go_simp <;> with_reducible rfl)
      try simp only [Act.put, sI, sZ, sS]
      refine takeH 10 (oi := ?o10_5) (v := ?v10_5) ?h10_5 (by kernel_rfl) (by assumption) ?y10_5 ?_
      case h10_5 => (simp only [gA, gZ, gS]; rfl)
      case y10_5 => (refine ⟨fun _ _ _ h => h, rfl, fun w h => ?_⟩; (try dsimp only at h); go_simp <;> with_reducible rfl)
      try simp only [Act.put, sI, sZ, sS]
      refine takeH 11 (oi := ?o11_5) (v := ?v11_5) ?h11_5 (by kernel_rfl) (by assumption) ?y11_5 ?_
      case h11_5 => (simp only [gA, gZ, gS]; rfl)
      case y11_5 => (refine ⟨fun _ _ _ h => h, rfl, fun w h => ?_⟩; (try dsimp only at h); go_simp <;> with_reducible rfl)
      try simp only [Act.put, sI, sZ, sS]
      refine takeH 12 (oi := ?o12_5) (v := ?v12_5) ?h12_5 (by kernel_rfl) (by assumption) ?y12_5 ?_
      case h12_5 => (simp only [gA, gZ, gS]; rfl)
      case y12_5 => (refine ⟨fun _ _ _ h => h, rfl, fun w h => ?_⟩; (try dsimp only at h); go_simp <;> with_reducible rfl)
      try simp only [Act.put, sI, sZ, sS]
      refine takeH 13 (oi := ?o13_5) (v := ?v13_5) ?h13_5 (by kernel_rfl) (by assumption) ?y13_5 ?_
      case h13_5 => (simp only [gA, gZ, gS]; rfl)
      case y13_5 => (refine ⟨fun _ _ _ h => h, rfl, fun w h => ?_⟩; (try dsimp only at h); go_simp <;> with_reducible rfl)
      try simp only [Act.put, sI, sZ, sS]
      refine takeH 14 (oi := ?o14_5) (v := ?v14_5) ?h14_5 (by kernel_rfl) (by assumption) ?y14_5 ?_
      case h14_5 => (simp only [gA, gZ, gS]; rfl)
      case y14_5 => (refine ⟨fun _ _ _ h => h, rfl, fun w h => ?_⟩; (try dsimp only at h); go_simp <;> with_reducible rfl)
      try simp only [Act.put, sI, sZ, sS]
      refine takeH 15 (oi := ?o15_5) (v := ?v15_5) ?h15_5 (by kernel_rfl) (by assumption) ?y15_5 ?_
      case h15_5 => (simp only [gA, gZ, gS]; rfl)
      case y15_5 => (refine ⟨fun _ _ _ h => h, rfl, fun w h => ?_⟩; (try dsimp only at h); go_simp <;> with_reducible rfl)
      try simp only [Act.put, sI, sZ, sS]
      refine takeH 16 (oi := ?o16_5) (v := ?v16_5) ?h16_5 (by kernel_rfl) (by assumption) ?y16_5 ?_
      case h16_5 => (simp only [gA, gZ, gS]; rfl)
      case y16_5 => (refine ⟨fun _ _ _ h => h, rfl, fun w h => ?_⟩; (try dsimp only at h); go_simp <;> with_reducible rfl)
      try simp only [Act.put, sI, sZ, sS]
      refine wpAnyH_ready (rs := [5]) (by kernel_rfl) (by simp) ?_
      refine AllReadyH.cons (o := ?tao1) ?tah1 (fun K hK => ?tas1) ?tam1
      case tah1 => (simp only [gA, gZ, gS]; rfl)
      case tam1 => exact AllReadyH.nil
      case tas1 =>
       go_simp
       refine (base_Past _ B).mono ?_
       rintro e y1 ⟨rfl, hy1⟩
       subst hy1
       refine hK.out _ _ (uh HAs) (fun hHeld => ?_)
       clear hK K
       try simp only [Act.put, sI, sZ, sS]
       refine wpAnyH_ready (rs := [17]) (by kernel_rfl) (by simp) ?_
       refine AllReadyH.cons (o := ?tao2) ?tah2 (fun K hK => ?tas2) ?tam2
       case tah2 => (simp only [gA, gZ, gS]; rfl)
       case tam2 => exact AllReadyH.nil
       case tas2 =>
        go_simp
        refine (uh HTl).mono ?_
        rintro e y5 ⟨rfl, b5⟩
        have HE5 := zh ((uh HE4).below b5)
        have HX5 := zh ((uh HAs).below b5)
        clear b5
        refine hK.out _ _ (uh HX5) (fun hHeld => ?_)
        clear hK K
        try simp only [Act.put, sI, sZ, sS]
        refine takeH 18 (oi := ?o18_6) (v := ?v18_6) ?h18_6 (by kernel_rfl) (by assumption) ?y18_6 ?_
        case h18_6 => (simp only [gA, gZ, gS]; rfl)
        case y18_6 => (refine ⟨fun _ _ _ h => h, rfl, fun w h => ?_⟩; (try dsimp only at h); go_simp <;> with_reducible rfl)
        try simp only [Act.put, sI, sZ, sS]
        refine takeH 19 (oi := ?o19_6) (v := ?v19_6) ?h19_6 (by kernel_rfl) (by assumption) ?y19_6 ?_
        case h19_6 => (simp only [gA, gZ, gS]; rfl)
        case y19_6 => (refine ⟨fun _ _ _ h => h, rfl, fun w h => ?_⟩; (try dsimp only at h); go_simp <;> with_reducible rfl)
        try simp only [Act.put, sI, sZ, sS]
        refine wpAnyH_done (by kernel_rfl) ?_ _
        clear hHeld
        go_wp2
        go_roundw
        case rel => exact ⟨k + 1, by omega, by go_num, uh HE5⟩
        case measure => simp [intOf]; omega
  ·have hlt' : ¬ (k : Int) < (nL : Int) := by omega
   clear hlt hk
   go_wp2_with fail
   clear hlt'
   go_loopw [13] (fun i y => ∃ k : Nat, k <= nA /\ i = .int .i64 k /\ BpE w y w.heap.size Q R u6) (fun i _ => nA - (intOf i).toNat)
   case atStart => exact ⟨0, Nat.zero_le _, rfl, uh HE⟩
   case round =>
    obtain ⟨j, hj, rfl, hE⟩ := hrel
    obtain ⟨B, es, down, ps, cut, left, lf, F, G, hvb, hI⟩ := hE
    by_cases hlt : j < nA
    ·have hj1 : (j : Int) < (nA : Int) := by omega
     have hj0 : (0 : Int) <= (j : Int) := by omega
     have HNj : Hid (j < A.length) := by rw [<- uh HNA]; exact hlt
     have HIz := zh (hI.below (below_drew wr))
     clear hI HE
     obtain ⟨b', o', rfl, a0, a1, a2, a3, a4, a5, a6, a7, a8, hky, ht0, ht1⟩ := uh HA j (uh HNj)
     have HAs : Hid (AskS Q R b' (o' + j * 9) A[j] wr.drew) := by
      have t : ∀ {p : Addr} {v : Value}, w.cell? p = some v -> wr.drew.cell? p = some v := fun {p v} h => ((uh HIz).low.cell (p := p) (lt_of_cell h)).trans h
      exact ⟨(uh HIz).rb.c0, t a0, t a1, t a2, t a3, t a4, t a5, t a6, t a7, t a8⟩
     clear a0 a1 a2 a3 a4 a5 a6 a7 a8
     generalize A[j] = z at *
     obtain ⟨ky, qa, qb, qt, qlo, qhi⟩ := z
     dsimp only at hky ht0 ht1
     have HTl := zh (law_tells (uh HIz).two ((uh HG).carry (uh HIz).low) ky hky qa qb qt qlo qhi ht0 ht1)
     have HE4 := zh (uh HIz).e
     clear hky ht0 ht1 HIz
     go_upto_region 40 with fail
     refine wp_region_held_drew (S := fun x => x.cell? ⟨Q, 0, none⟩ = some (.pointer (some ⟨R, 0, none⟩)) /\ x.cell? ⟨b', o' + j * 9, none⟩ = some (.int .i64 ky.kind) /\ x.cell? ⟨b', o' + j * 9 + 1, none⟩ = some (.int .i64 ky.a) /\ x.cell? ⟨b', o' + j * 9 + 2, none⟩ = some (.string ky.word) /\ x.cell? ⟨b', o' + j * 9 + 3, none⟩ = some (.int .i64 ky.b) /\ x.cell? ⟨b', o' + j * 9 + 4, none⟩ = some (.int .i64 qa) /\ x.cell? ⟨b', o' + j * 9 + 5, none⟩ = some (.int .i64 qb) /\ x.cell? ⟨b', o' + j * 9 + 6, none⟩ = some (.int .i64 qt) /\ x.cell? ⟨b', o' + j * 9 + 7, none⟩ = some (.int .i64 qlo) /\ x.cell? ⟨b', o' + j * 9 + 8, none⟩ = some (.int .i64 qhi)) (by kernel_rfl) (uh HAs) (fun hHeld => ?_)
     refine takeH 0 (oi := ?o0_7) (v := ?v0_7) ?h0_7 (by kernel_rfl) (by assumption) ?y0_7 ?_
     case h0_7 => (simp only [gA, gZ]; rfl)
     case y0_7 => (refine ⟨fun _ _ _ h => h, rfl, fun w h => ?_⟩; (try dsimp only at h); go_simp <;> with_reducible rfl)
     try simp only [Act.put, sI, sZ, sS]
     refine takeH 2 (oi := ?o2_7) (v := ?v2_7) ?h2_7 (by kernel_rfl) (by assumption) ?y2_7 ?_
     case h2_7 => (simp only [gA, gZ, gS]; rfl)
     case y2_7 => (refine ⟨fun _ _ _ h => h, rfl, fun w h => ?_⟩; (try dsimp only at h); go_simp <;> with_reducible rfl)
     try simp only [Act.put, sI, sZ, sS]
     refine takeH 3 (oi := ?o3_7) (v := ?v3_7) ?h3_7 (by kernel_rfl) (by assumption) ?y3_7 ?_
     case h3_7 => (simp only [gA, gZ, gS]; rfl)
     case y3_7 => (refine ⟨fun _ _ _ h => h, rfl, fun w h => ?_⟩; (try dsimp only at h); go_simp <;> with_reducible rfl)
     try simp only [Act.put, sI, sZ, sS]
     refine takeH 4 (oi := ?o4_7) (v := ?v4_7) ?h4_7 (by kernel_rfl) (by assumption) ?y4_7 ?_
     case h4_7 => (simp only [gA, gZ, gS]; rfl)
     case y4_7 => (refine ⟨fun _ _ _ h => h, rfl, fun w h => ?_⟩; (try dsimp only at h); go_simp <;> with_reducible rfl)
     try simp only [Act.put, sI, sZ, sS]
     refine takeH 5 (oi := ?o5_7) (v := ?v5_7) ?h5_7 (by kernel_rfl) (by assumption) ?y5_7 ?_
     case h5_7 => (simp only [gA, gZ, gS]; rfl)
     case y5_7 => (refine ⟨fun _ _ _ h => h, rfl, fun w h => ?_⟩; (try dsimp only at h); go_simp <;> with_reducible rfl)
     try simp only [Act.put, sI, sZ, sS]
     refine takeH 6 (oi := ?o6_7) (v := ?v6_7) ?h6_7 (by kernel_rfl) (by assumption) ?y6_7 ?_
     case h6_7 => (simp only [gA, gZ, gS]; rfl)
     case y6_7 => (refine ⟨fun _ _ _ h => h, rfl, fun w h => ?_⟩; (try dsimp only at h); go_simp <;> with_reducible rfl)
     try simp only [Act.put, sI, sZ, sS]
     refine takeH 7 (oi := ?o7_7) (v := ?v7_7) ?h7_7 (by kernel_rfl) (by assumption) ?y7_7 ?_
     case h7_7 => (simp only [gA, gZ, gS]; rfl)
     case y7_7 => (refine ⟨fun _ _ _ h => h, rfl, fun w h => ?_⟩; (try dsimp only at h); go_simp <;> with_reducible rfl)
     try simp only [Act.put, sI, sZ, sS]
     refine takeH 8 (oi := ?o8_7) (v := ?v8_7) ?h8_7 (by kernel_rfl) (by assumption) ?y8_7 ?_
     case h8_7 => (simp only [gA, gZ, gS]; rfl)
     case y8_7 => (refine ⟨fun _ _ _ h => h, rfl, fun w h => ?_⟩; (try dsimp only at h); go_simp <;> with_reducible rfl)
     try simp only [Act.put, sI, sZ, sS]
     refine takeH 9 (oi := ?o9_7) (v := ?v9_7) ?h9_7 (by kernel_rfl) (by assumption) ?y9_7 ?_
     case h9_7 => (simp only [gA, gZ, gS]; rfl)
     case y9_7 => (refine ⟨fun _ _ _ h => h, rfl, fun w h => ?_⟩; (try dsimp only at h); go_simp <;> with_reducible rfl)
     try simp only [Act.put, sI, sZ, sS]
     refine wpAnyH_ready (rs := [1]) (by kernel_rfl) (by simp) ?_
     refine AllReadyH.cons (o := ?tbo1) ?tbh1 (fun K hK => ?tbs1) ?tbm1
     case tbh1 => (simp only [gA, gZ, gS]; rfl)
     case tbm1 => exact AllReadyH.nil
     case tbs1 =>
      go_simp
      refine (base_Past _ B).mono ?_
      rintro e y1 ⟨rfl, hy1⟩
      subst hy1
      refine hK.out _ _ (uh HAs) (fun hHeld => ?_)
      clear hK K
      try simp only [Act.put, sI, sZ, sS]
      refine wpAnyH_ready (rs := [10]) (by kernel_rfl) (by simp) ?_
      refine AllReadyH.cons (o := ?tbo2) ?tbh2 (fun K hK => ?tbs2) ?tbm2
      case tbh2 => (simp only [gA, gZ, gS]; rfl)
      case tbm2 => exact AllReadyH.nil
      case tbs2 =>
       go_simp
       refine (uh HTl).mono ?_
       rintro e y5 ⟨rfl, b5⟩
       have HE5 := zh ((uh HE4).below b5)
       have HX5 := zh ((uh HAs).below b5)
       clear b5
       refine hK.out _ _ (uh HX5) (fun hHeld => ?_)
       clear hK K
       try simp only [Act.put, sI, sZ, sS]
       refine takeH 11 (oi := ?o11_8) (v := ?v11_8) ?h11_8 (by kernel_rfl) (by assumption) ?y11_8 ?_
       case h11_8 => (simp only [gA, gZ, gS]; rfl)
       case y11_8 => (refine ⟨fun _ _ _ h => h, rfl, fun w h => ?_⟩; (try dsimp only at h); go_simp <;> with_reducible rfl)
       try simp only [Act.put, sI, sZ, sS]
       refine wpAnyH_done (by kernel_rfl) ?_ _
       clear hHeld
       go_wp2
       go_roundw
       case rel => exact ⟨j + 1, by omega, by go_num, uh HE5⟩
       case measure => simp [intOf]; omega
    ·have hlt' : ¬ (j : Int) < (nA : Int) := by omega
     have HLo := zh hI.low
     go_wp2
     go_ret
     exact ⟨rfl, uh HLo⟩
theorem law_base_long (w : World) (nL nA : Nat) (ad aa : Option Addr) (cl ca : Nat) (h : 40 < nL \/ 12 < nA) :
  Calls Tryz.prog 5 #[.slice ad nL cl, .slice aa nA ca] w fun e w' => e = .returned (.bool true) /\ Below w.heap.size w w' := by
 by_cases h1 : (40 : Int) < (nL : Int)
 ·clear h
  go_enter Tryz.func5, Tryz.ntmps5
  go_wp2
  go_ret
  exact ⟨rfl, Below.refl _ _⟩
 ·have h2 : (12 : Int) < (nA : Int) := by omega
  clear h
  go_enter Tryz.func5, Tryz.ntmps5
  go_wp2
  go_ret
  exact ⟨rfl, Below.refl _ _⟩
theorem law_base_any (w : World) (L : List StepN) (A : List AskN) (ad aa : Option Addr) (cl ca : Nat) (hL : StepsAt w ad L) (hA : AsksAt w aa A) (ht : Tab w) (hb : Libs w) (hg : ErrorType w) :
  Calls Tryz.prog 5 #[.slice ad L.length cl, .slice aa A.length ca] w fun e w' => e = .returned (.bool true) /\ Below w.heap.size w w' := by
 by_cases h : 40 < L.length \/ 12 < A.length
 ·exact law_base_long w L.length A.length ad aa cl ca h
 ·exact law_base w L A ad aa cl ca hL hA (by omega) (by omega) ht hb hg
end Go.Proofs.YtfoojmflbifkpaaGreatDoor
