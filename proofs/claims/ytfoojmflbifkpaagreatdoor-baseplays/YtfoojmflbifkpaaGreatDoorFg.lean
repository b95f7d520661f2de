/- Texts of one proof, one behind the other. -/
import Derived.Test.YtfoojmflbifkpaaGreatDoorFc
import Derived.Test.YtfoojmflbifkpaaGreatDoorShelfF
import Derived.Test.YtfoojmflbifkpaaGreatDoorFe
import Derived.Test.YtfoojmflbifkpaaGreatDoorFf
import Derived.Sort.Walk13a
import Derived.Sort.AssemblyPlain
import Derived.Sort.LotD3
import Derived.Sort.Walk13
set_option maxRecDepth 100000
set_option maxHeartbeats 16000000
namespace Go.Proofs.YtfoojmflbifkpaaGreatDoor
open Go.RowKit Go.Maps Go.Shelf Go.Sort
theorem keeps_sortWorldK {α : Type} [Inhabited α] (enc : α -> List Value) (k : Nat) (W : World) (blk off n : Nat) (d : Array α) (os : Array Obj) : Keeps (fun i => i = blk) W (sortWorldK enc k W blk off n d os) := by
 refine ⟨rfl, rfl, rfl, ?_, fun i hi hf => ?_⟩
 ·unfold sortWorldK
  rw [size_grow, size_putRowK]
  exact Nat.le_add_right _ _
 ·have hs : i < (putRowK enc k (Sort.ahead W n) blk off d).heap.size := by rw [size_putRowK]; exact hi
  show ((putRowK enc k (Sort.ahead W n) blk off d).heap ++ os)[i]? = _
  rw [Array.getElem?_append_left hs]
  show (W.heap.modify blk _)[i]? = _
  rw [Array.getElem?_modify, if_neg (fun e => hf e.symm)]
theorem break_func {α : Type} [Inhabited α] {g sf : Nat} {lb sb : Array Value} {enc : α -> List Value} {k : Nat} {lt : α -> α -> Bool} {blk off size : Nat} {w0 : World} {d0 : Array α} (f : Fam g sf lb sb enc k lt blk off size w0 d0) (W : World) (d : Array α) (h : SWK enc k w0 blk off d W) (hd : d.size = size) (a b : Nat) (hab : a <= b) (hb : b <= size) :
  Calls Tryz.prog 219 #[dataV g sf lb sb, .int .i64 a, .int .i64 b] W fun e w' => e = .returned (.tuple #[]) /\ Sorts enc k w0 blk off (breakPatterns d a b) W w' := by
 have hc := Any.breakPatterns_func_cells_w (P := Tryz.prog) (ρ := Tryz.laysSlice_ren) { Tryz.laysSlice with } enc k f.hk (.func g) #[] lb sf sb blk off a b d W (by rw [hd]; exact f.swap) (h.holds f.lt0 f.holds (by rw [hd]; exact f.size0.symm)) (h.lt f.lt0) hab (by omega) (by rw [hd]; exact f.sz)
 refine hc.mono ?_
 rintro e w' ⟨rfl, n, os, rfl⟩
 exact ⟨rfl, h.on f.lt0 n _ os (breakPatterns_holds d a b hab (by omega)).1, keeps_sortWorldK _ _ _ _ _ _ _ _⟩
theorem rev_func {α : Type} [Inhabited α] {g sf : Nat} {lb sb : Array Value} {enc : α -> List Value} {k : Nat} {lt : α -> α -> Bool} {blk off size : Nat} {w0 : World} {d0 : Array α} (f : Fam g sf lb sb enc k lt blk off size w0 d0) (W : World) (d : Array α) (h : SWK enc k w0 blk off d W) (hd : d.size = size) (a b : Nat) (hab : a <= b) (hb : b <= size) :
  Calls Tryz.prog 221 #[dataV g sf lb sb, .int .i64 a, .int .i64 b] W fun e w' => e = .returned (.tuple #[]) /\ Sorts enc k w0 blk off (reverseRange d a b) W w' := by
 have hc := Any.reverseRange_func_cells_w (P := Tryz.prog) (ρ := Tryz.laysSlice_ren) { Tryz.laysSlice with } enc k f.hk (.func g) #[] lb sf sb blk off a b d W (by rw [hd]; exact f.swap) (h.holds f.lt0 f.holds (by rw [hd]; exact f.size0.symm)) (h.lt f.lt0) hab (by omega) (by rw [hd]; exact f.sz)
 refine hc.mono ?_
 rintro e w' ⟨rfl, n, os, rfl⟩
 exact ⟨rfl, h.on f.lt0 n _ os (reverseRange_holds d a b hab (by omega)).1, keeps_sortWorldK _ _ _ _ _ _ _ _⟩
structure RoundF {α : Type} [Inhabited α] (lt : α -> α -> Bool) (dk : Array α) (a b lim : Nat) (wb wp : Bool) (V : Array α) (r : Rd α) : Prop where
 wbF : wb = false -> r.d1 = breakPatterns dk a b /\ r.lim = lim - 1
 wbT : wb = true -> r.d1 = dk /\ r.lim = lim
 c : r.c = choosePivot lt r.d1 a b
 dec : r.c.2 = .decreasing -> r.d2 = reverseRange r.d1 a b /\ r.pivot = (b - 1) - (r.c.1 - a) /\ r.hint = .increasing
 ndec : r.c.2 ≠ .decreasing -> r.d2 = r.d1 /\ r.pivot = r.c.1 /\ r.hint = r.c.2
 piY : (wb && wp && decide (r.hint = .increasing)) = true -> r.pi = partialInsertionSort lt r.d2 a b
 piN : (wb && wp && decide (r.hint = .increasing)) = false -> r.pi = (r.d2, false)
 s1 : r.d1.size = dk.size
 c1 : a <= r.c.1 /\ r.c.1 < b
 s2 : r.d2.size = dk.size
 pv : a <= r.pivot /\ r.pivot < b
 s3 : r.pi.1.size = dk.size
 limle : r.lim <= lim
 done : r.pi.2 = true -> V = r.pi.1
 eq : r.pi.2 = false -> 0 < a -> lt r.pi.1[a - 1]! r.pi.1[r.pivot]! = false -> ∀ mid d4, partitionEqual lt r.pi.1 a b r.pivot = (mid, d4) ->
  a < mid /\ mid <= b /\ d4.size = dk.size /\ Go.Sort.Below lt mid b d4 /\ pdq lt d4 mid b r.lim wb wp = V
 part : r.pi.2 = false -> (a = 0 \/ lt r.pi.1[a - 1]! r.pi.1[r.pivot]! = true) -> ∀ mid ap d4, partition lt r.pi.1 a b r.pivot = (mid, ap, d4) ->
  a <= mid /\ mid < b /\ d4.size = dk.size /\ Go.Sort.Below lt a mid d4 /\ Go.Sort.Below lt (mid + 1) b d4 /\
  (mid - a < b - mid -> (pdq lt d4 a mid r.lim true true).size = dk.size /\ Go.Sort.Below lt (mid + 1) b (pdq lt d4 a mid r.lim true true) /\ pdq lt (pdq lt d4 a mid r.lim true true) (mid + 1) b r.lim (decide (mid - a ≥ (b - a) / 8)) ap = V) /\
  (¬ mid - a < b - mid -> (pdq lt d4 (mid + 1) b r.lim true true).size = dk.size /\ Go.Sort.Below lt a mid (pdq lt d4 (mid + 1) b r.lim true true) /\ pdq lt (pdq lt d4 (mid + 1) b r.lim true true) a mid r.lim (decide (b - mid ≥ (b - a) / 8)) ap = V)
theorem roundF {α : Type} [Inhabited α] {lt : α -> α -> Bool} (hO : SWO lt) {dk : Array α} {a b lim : Nat} (wb wp : Bool) (h12 : ¬ b - a <= 12) (hl0 : ¬ lim = 0) (hb : b <= dk.size) (hB : Go.Sort.Below lt a b dk) :
  RoundF lt dk a b lim wb wp (pdq lt dk a b lim wb wp) (rd lt dk a b lim wb wp) := by
 obtain ⟨s1, _, c1, s2, _, pv, s3, B3⟩ := rd_facts (lt := lt) (limit := lim) (wb := wb) (wp := wp) hO partialInsertionSort_holds reverseRange_holds (show a < b by omega) hb hB
 refine ⟨fun e => ?_, fun e => ?_, rfl, rd_dec, rd_not, rd_pi_yes, rd_pi_no, s1, c1, s2, pv, s3, rd_lim_le, fun e => pdq_done h12 hl0 e, fun e ha hl mid d4 hx => ?_, fun e hl mid ap d4 hx => ?_⟩
 ·subst e; exact rd_false
 ·subst e; exact rd_true
 ·obtain ⟨r1, r2, r3, r4, _⟩ := round_eq hO (partitionEqual_holds lt) ha pv.1 pv.2 (by rw [s3]; exact hb) B3 hl hx
  refine ⟨r1, r2, r3.trans s3, r4, ?_⟩
  rw [pdq_eq h12 hl0 e (by simp [ha, hl]) (by rw [hx]; exact ⟨r1, r2⟩), hx]
 ·obtain ⟨r1, r2, r3, r4, r5, r6, r7⟩ := round_part hO (partition_holds lt) pv.1 pv.2 (by rw [s3]; exact hb) B3 hx
  have hf : (decide (a > 0) && !lt (rd lt dk a b lim wb wp).pi.1[a - 1]! (rd lt dk a b lim wb wp).pi.1[(rd lt dk a b lim wb wp).pivot]!) = false := by
   rcases hl with h | h
   ·simp [h]
   ·simp [h]
  have hs4 : d4.size = dk.size := r3.trans s3
  refine ⟨r1, r2, hs4, r4, r5, fun h4 => ?_, fun h4 => ?_⟩
  ·obtain ⟨pL, sL⟩ := pdq_sorts lt hO d4 a mid (rd lt dk a b lim wb wp).lim true true (by omega) (by omega) r4
   refine ⟨pL.1.trans hs4, (r6 _ pL sL).1, ?_⟩
   rw [pdq_left h12 hl0 e hf (by rw [hx]; exact ⟨r1, r2⟩) (by rw [hx]; exact h4), hx]
  ·obtain ⟨pL, sL⟩ := pdq_sorts lt hO d4 (mid + 1) b (rd lt dk a b lim wb wp).lim true true (by omega) (by omega) r5
   refine ⟨pL.1.trans hs4, (r7 _ pL sL).1, ?_⟩
   rw [pdq_right h12 hl0 e hf (by rw [hx]; exact ⟨r1, r2⟩) (by rw [hx]; exact h4), hx]
theorem StS.next {α : Type} [Inhabited α] {enc : α -> List Value} {k : Nat} {w0 : World} {blk off : Nat} {W1 : World} {dk d' : Array α} {y y' : World} (h : StS enc k w0 blk off W1 dk y) (h' : Sorts enc k w0 blk off d' y y') : StS enc k w0 blk off W1 d' y' := ⟨h'.1, h.2.then h'.2 (fun _ _ q => q)⟩
theorem pdq_func {α : Type} [Inhabited α] {g sf : Nat} {lb sb : Array Value} {enc : α -> List Value} {k : Nat} {lt : α -> α -> Bool} {blk off size : Nat} {w0 : World} {d0 : Array α} (f : Fam g sf lb sb enc k lt blk off size w0 d0) (hO : SWO lt) :
    ∀ (N a b limit : Nat) (d : Array α) (W : World), b - a < N -> SWK enc k w0 blk off d W -> d.size = size -> a <= b -> b <= size -> limit < 4611686018427387904 -> Go.Sort.Below lt a b d ->
    Calls Tryz.prog 153 #[dataV g sf lb sb, .int .i64 a, .int .i64 b, .int .i64 limit] W fun e w' => e = .returned (.tuple #[]) /\ Sorts enc k w0 blk off (pdq lt d a b limit true true) W w' := by
  intro N
  induction N with
  | zero => intro _ _ _ _ _ h; exact absurd h (Nat.not_lt_zero _)
  | succ N ih =>
    intro a b limit d W hN h hd hab hb hlimit hBel0
    have eg := f.eg
    have hsz := f.sz
    have hbl := h.lt f.lt0
    have HB0 := zh (below_box W (.cells #[.func (.func g) #[] lb, .func (.func sf) #[] sb] 245))
    have HS1 : Hid (StS enc k w0 blk off (W.alloc (.cells #[.func (.func g) #[] lb, .func (.func sf) #[] sb] 245)) d (W.alloc (.cells #[.func (.func g) #[] lb, .func (.func sf) #[] sb] 245))) := ⟨h.alloc _, Keeps.refl _ _⟩
    have c0 : (W.alloc (.cells #[.func (.func g) #[] lb, .func (.func sf) #[] sb] 245)).cell? ⟨W.heap.size, 0, none⟩ = some (.func (.func g) #[] lb) := by simp
    have c1 : (W.alloc (.cells #[.func (.func g) #[] lb, .func (.func sf) #[] sb] 245)).cell? ⟨W.heap.size, 1, none⟩ = some (.func (.func sf) #[] sb) := by simp
    have HC0 := zh c0
    have HC1 := zh c1
    have HK1 := zh (Keeps.of_below (fun i => i = blk) (uh HB0) zr)
    have HIH := zh ih
    have HBe := zh hBel0
    have hne : ¬ W.heap.size = blk := by omega
    have HF := zh f
    clear h c0 c1 HB0 ih hBel0 f
    unfold dataV at *
    go_enter Tryz.func153, Tryz.ntmps153
    go_wp2_with fail
    generalize W.alloc (.cells #[.func (.func g) #[] lb, .func (.func sf) #[] sb] 245) = W1 at *
    go_loopg [1, 2, 3, 8, 9] (b - a) (fun gx s1 s2 s3 s8 s9 y => ∃ (a' b' lim : Nat) (wb wp : Bool) (dk : Array α), s1 = .int .i64 a' /\ s2 = .int .i64 b' /\ s3 = .int .i64 lim /\ s8 = .bool wb /\ s9 = .bool wp /\ a' <= b' /\ b' <= size /\ b' - a' <= gx /\ gx <= b - a /\ lim <= limit /\ dk.size = size /\ Hid (Go.Sort.Below lt a' b' dk) /\ Hid (StS enc k w0 blk off W1 dk y) /\ Hid (pdq lt dk a' b' lim wb wp = pdq lt d a b limit true true))
    case atStart => exact ⟨a, b, limit, true, true, d, rfl, rfl, rfl, rfl, rfl, hab, hb, Nat.le_refl _, Nat.le_refl _, Nat.le_refl _, hd, HBe, HS1, rfl⟩
    case round =>
      revert wr
      intro wo hrel
      clear HBe HS1
      obtain ⟨a', b', lim, wb, wp, dk, rfl, rfl, rfl, rfl, rfl, hab', hb', hgx, hgN, hlim, hsk, HBe, HS, HE⟩ := hrel
      have z0 := (uh HS).z (uh HC0) hne
      have z1 := (uh HS).z (uh HC1) hne
      by_cases h12 : b' - a' <= 12
      · have h12z : (b' : Int) - (a' : Int) <= 12 := by omega
        have HL := zh (ins_func (uh HF) wo dk (uh HS).1 hsk a' b' hab' hb')
        have HV : Hid (pdq lt d a b limit true true = insertionSort lt dk a' b') := by
          unfold Hid
          rw [<- uh HE, pdq_small h12]
        unfold dataV at HL
        go_wp2_with fail
        refine (uh HL).mono ?_
        rintro e w' ⟨rfl, hR⟩
        have HR : Hid (Sorts enc k w0 blk off (insertionSort lt dk a' b') W w') := ⟨hR.1, (uh HK1).then ((uh HS).next hR).2 (fun _ _ q => q)⟩
        clear hR HL
        go_wp2
        (try simp only [Exit.inBlock, Exit.then])
        refine bodyPost_ret (v := .tuple #[]) (results_none rfl _ _ _) rfl ?_
        rw [uh HV]
        exact ⟨rfl, uh HR⟩
      have h12z : ¬ ((b' : Int) - (a' : Int) <= 12) := by omega
      by_cases hl0 : lim = 0
      · subst hl0
        have HL := zh (heap_func (uh HF) wo dk (uh HS).1 hsk a' b' hab' hb')
        have HV : Hid (pdq lt d a b limit true true = heapSort lt dk a' b') := by
          unfold Hid
          rw [<- uh HE, pdq_heap h12 rfl]
        unfold dataV at HL
        go_wp2_with fail
        refine (uh HL).mono ?_
        rintro e w' ⟨rfl, hR⟩
        have HR : Hid (Sorts enc k w0 blk off (heapSort lt dk a' b') W w') := ⟨hR.1, (uh HK1).then ((uh HS).next hR).2 (fun _ _ q => q)⟩
        clear hR HL
        go_wp2
        (try simp only [Exit.inBlock, Exit.then])
        refine bodyPost_ret (v := .tuple #[]) (results_none rfl _ _ _) rfl ?_
        rw [uh HV]
        exact ⟨rfl, uh HR⟩
      have hl0z : ¬ ((lim : Int) = 0) := by omega
      obtain ⟨r, HRd⟩ : ∃ r, Hid (RoundF lt dk a' b' lim wb wp (pdq lt d a b limit true true) r) := by
        refine ⟨rd lt dk a' b' lim wb wp, ?_⟩
        unfold Hid
        rw [<- uh HE]
        exact roundF hO wb wp h12 hl0 (by omega) (uh HBe)
      have hs1 : r.d1.size = size := (uh HRd).s1.trans hsk
      have hs2 : r.d2.size = size := (uh HRd).s2.trans hsk
      have hs3 : r.pi.1.size = size := (uh HRd).s3.trans hsk
      have hc1 := (uh HRd).c1
      have hpv := (uh HRd).pv
      have hlle := (uh HRd).limle
      clear HE HBe
      go_upto_if 35 with fail
      go_cut [3] (fun s3 wx => s3 = .int .i64 (r.lim : Nat) /\ Hid (StS enc k w0 blk off W1 r.d1 wx))
      case first =>
        cases wb with
        | false =>
          have HL := zh (break_func (uh HF) wo dk (uh HS).1 hsk a' b' hab' hb')
          obtain ⟨e1, e2⟩ := (uh HRd).wbF rfl
          have HE1 := zh e1
          have HE2 := zh e2
          clear e1 e2
          unfold dataV at HL
          go_wp2_with fail
          refine (uh HL).mono ?_
          rintro e w' ⟨rfl, hR⟩
          have HS2 : Hid (StS enc k w0 blk off W1 (breakPatterns dk a' b') w') := (uh HS).next hR
          clear hR HL
          go_wp2
          go_meet
          case rel =>
            rw [uh HE1, uh HE2]
            refine ⟨?_, HS2⟩
            congr 1
            omega
        | true =>
          obtain ⟨e1, e2⟩ := (uh HRd).wbT rfl
          have HE1 := zh e1
          have HE2 := zh e2
          clear e1 e2
          go_wp2_with fail
          go_meet
          case rel =>
            rw [uh HE1, uh HE2]
            exact ⟨rfl, HS⟩
      case rest =>
      clear HS z0 z1
      obtain ⟨rfl, HS⟩ := hcut
      have z0 := (uh HS).z (uh HC0) hne
      have z1 := (uh HS).z (uh HC1) hne
      have hL := choose_func (uh HF) wc r.d1 (uh HS).1 hs1 a' b' (by omega) hb'
      rw [<- (uh HRd).c] at hL
      have HL := zh hL
      clear hL
      unfold dataV at HL
      go_upto_if 50 with fail
      refine (uh HL).mono ?_
      rintro e w2 ⟨rfl, hR⟩
      have HS2 : Hid (StS enc k w0 blk off W1 r.d1 w2) := (uh HS).next hR
      clear hR HL HS z0 z1
      have z0 := (uh HS2).z (uh HC0) hne
      have z1 := (uh HS2).z (uh HC1) hne
      go_upto_if 50 with fail
      go_cut [11, 12] (fun s11 s12 wx => s11 = .int .i64 (r.pivot : Nat) /\ s12 = .int .i64 (hintCode r.hint) /\ Hid (StS enc k w0 blk off W1 r.d2 wx))
      case first =>
        by_cases hh : r.c.2 = .decreasing
        · have hcode : hintCode r.c.2 = 2 := by rw [hh]; rfl
          obtain ⟨e2, epv, eht⟩ := (uh HRd).dec hh
          have HE2 := zh e2
          have HEp := zh epv
          have HEt := zh eht
          have HL := zh (rev_func (uh HF) w2 r.d1 (uh HS2).1 hs1 a' b' hab' hb')
          clear e2 epv eht hh
          unfold dataV at HL
          go_wp2_with fail
          refine (uh HL).mono ?_
          rintro e w' ⟨rfl, hR⟩
          have HS3 : Hid (StS enc k w0 blk off W1 (reverseRange r.d1 a' b') w') := (uh HS2).next hR
          clear hR HL
          go_wp2
          go_meet
          case rel =>
            refine ⟨?_, by rw [uh HEt]; rfl, by rw [uh HE2]; exact HS3⟩
            rw [uh HEp]
            congr 1
            omega
        · have hcode : ¬ (hintCode r.c.2 = 2) := fun h => hh (hintCode_two h)
          obtain ⟨e2, epv, eht⟩ := (uh HRd).ndec hh
          have HE2 := zh e2
          have HEp := zh epv
          have HEt := zh eht
          clear e2 epv eht hh
          go_wp2_with fail
          go_meet
          case rel => exact ⟨by rw [uh HEp], by rw [uh HEt], by rw [uh HE2]; exact HS2⟩
      case rest =>
      clear HS2 z0 z1
      obtain ⟨rfl, rfl, HS⟩ := hcut
      go_upto_region 16 with fail
      go_cut [12, 68] (fun s12 s68 wx => s12 = .int .i64 (hintCode r.hint) /\ s68 = .bool (wb && wp && decide (r.hint = .increasing)) /\ wx = wc)
      case first =>
        clear HRd
        cases wb <;> cases wp <;> cases hh3 : r.hint <;>
          (have hcode3 := congrArg hintCode hh3
           simp only [hintCode] at hcode3
           go_wp2_with fail
           go_meet
           exact ⟨by simp [hh3, hintCode], by simp [hh3, hintCode], rfl⟩)
      case rest =>
      obtain ⟨rfl, rfl, rfl⟩ := hcut
      have z0 := (uh HS).z (uh HC0) hne
      have z1 := (uh HS).z (uh HC1) hne
      go_upto_if 68 with fail
      go_cut [] (fun wx => r.pi.2 = false /\ Hid (StS enc k w0 blk off W1 r.pi.1 wx))
      case first =>
        cases h68 : (wb && wp && decide (r.hint = .increasing)) with
        | false =>
          have epi := (uh HRd).piN h68
          have HEp := zh epi
          clear epi
          go_wp2_with fail
          go_meet
          case rel => rw [uh HEp]; exact ⟨rfl, HS⟩
        | true =>
          have epi := (uh HRd).piY h68
          have hL := pins_func (uh HF) wc r.d2 (uh HS).1 hs2 a' b' (by omega) hb'
          rw [<- epi] at hL
          have HDn := zh (uh HRd).done
          clear epi
          cases hp2 : r.pi.2 with
          | true =>
            rw [hp2] at hL
            have HL := zh hL
            have HV := zh (uh HDn hp2)
            clear hL
            unfold dataV at HL
            go_wp2_with fail
            refine (uh HL).mono ?_
            rintro e w' ⟨rfl, hR⟩
            have HR : Hid (Sorts enc k w0 blk off r.pi.1 W w') := ⟨hR.1, (uh HK1).then ((uh HS).next hR).2 (fun _ _ q => q)⟩
            clear hR HL
            go_wp2
            (try simp only [Exit.inBlock, Exit.then])
            refine bodyPost_ret (v := .tuple #[]) (results_none rfl _ _ _) rfl ?_
            rw [uh HV]
            exact ⟨rfl, uh HR⟩
          | false =>
            rw [hp2] at hL
            have HL := zh hL
            clear hL
            unfold dataV at HL
            go_wp2_with fail
            refine (uh HL).mono ?_
            rintro e w' ⟨rfl, hR⟩
            have HS3 : Hid (StS enc k w0 blk off W1 r.pi.1 w') := (uh HS).next hR
            clear hR HL
            go_wp2
            go_meet
            case rel => exact ⟨hp2, HS3⟩
      case rest =>
      clear HS z0 z1
      obtain ⟨hp2, HS⟩ := hcut
      have HP2 := zh hp2
      clear hp2
      have z0 := (uh HS).z (uh HC0) hne
      go_upto_region 18 with fail
      go_cut [83] (fun s83 wx => ∃ bb : Bool, s83 = .bool bb /\ (bb = true -> 0 < a' /\ lt r.pi.1[a' - 1]! r.pi.1[r.pivot]! = false) /\ (bb = false -> a' = 0 \/ lt r.pi.1[a' - 1]! r.pi.1[r.pivot]! = true) /\ Hid (StS enc k w0 blk off W1 r.pi.1 wx))
      case first =>
        rcases Nat.eq_zero_or_pos a' with ha0 | ha0
        · have ha0z : decide ((a' : Int) > 0) = false := decide_eq_false (by omega)
          have HA := zh ha0
          go_wp2_with fail
          go_meet
          case rel => exact ⟨false, rfl, fun q => (by cases q), fun _ => Or.inl (uh HA), HS⟩
        · have ha0z : (a' : Int) > 0 := by omega
          have hl := (uh HF).lessS (uh HS) hs3 (a' - 1) r.pivot (by omega) (by omega)
          rw [show ((a' - 1 : Nat) : Int) = (a' : Int) - 1 by omega] at hl
          cases hlv : lt r.pi.1[a' - 1]! r.pi.1[r.pivot]! with
          | false =>
            rw [hlv] at hl
            have HL := zh hl
            clear hl
            go_wp2_with (go_at_fn g; refine (uh HL).mono ?_; rintro e w' ⟨rfl, hS2⟩; have HS2 := zh hS2; clear hS2)
            go_meet
            case rel => exact ⟨true, rfl, fun _ => ⟨ha0, hlv⟩, fun q => (by cases q), HS2⟩
          | true =>
            rw [hlv] at hl
            have HL := zh hl
            clear hl
            go_wp2_with (go_at_fn g; refine (uh HL).mono ?_; rintro e w' ⟨rfl, hS2⟩; have HS2 := zh hS2; clear hS2)
            go_meet
            case rel => exact ⟨false, rfl, fun q => (by cases q), fun _ => Or.inr hlv, HS2⟩
      case rest =>
      clear HS z0
      obtain ⟨bb, rfl, hbt, hbf, HS⟩ := hcut
      have HBt := zh hbt
      have HBf := zh hbf
      clear hbt hbf
      have z0 := (uh HS).z (uh HC0) hne
      have z1 := (uh HS).z (uh HC1) hne
      cases bb with
      | true =>
        obtain ⟨ha0, hlv⟩ := uh HBt rfl
        have hL := partEq_func (uh HF) wc r.pi.1 (uh HS).1 hs3 a' b' r.pivot hpv.1 hpv.2 hb'
        obtain ⟨mid, d4, hx⟩ : ∃ mid d4, partitionEqual lt r.pi.1 a' b' r.pivot = (mid, d4) := ⟨_, _, rfl⟩
        obtain ⟨r1, r2, r3, r4, r5⟩ := (uh HRd).eq (uh HP2) ha0 hlv mid d4 hx
        rw [hx] at hL
        have HL := zh hL
        have HB4 := zh r4
        have HV := zh r5
        have hs4 : d4.size = size := r3.trans hsk
        clear hL hx r3 r4 r5 hlv HBt HBf
        unfold dataV at HL
        go_wp2_with fail
        refine (uh HL).mono ?_
        rintro e w' ⟨rfl, hR⟩
        have HS3 : Hid (StS enc k w0 blk off W1 d4 w') := (uh HS).next hR
        clear hR HL HS z0 z1
        go_wp2
        go_roundg (b' - mid)
        case measure => omega
        case rel => exact ⟨mid, b', r.lim, wb, wp, d4, rfl, rfl, rfl, rfl, rfl, r2, hb', Nat.le_refl _, by omega, by omega, hs4, HB4, HS3, HV⟩
      | false =>
        have hL := part_func (uh HF) wc r.pi.1 (uh HS).1 hs3 a' b' r.pivot hpv.1 hpv.2 hb'
        obtain ⟨mid, ap, d4, hx⟩ : ∃ mid ap d4, partition lt r.pi.1 a' b' r.pivot = (mid, ap, d4) := ⟨_, _, _, rfl⟩
        obtain ⟨r1, r2, r3, r4, r5, r6, r7⟩ := (uh HRd).part (uh HP2) (uh HBf rfl) mid ap d4 hx
        rw [hx] at hL
        have HL := zh hL
        have HB4 := zh r4
        have HB5 := zh r5
        have HV6 := zh r6
        have HV7 := zh r7
        have hs4 : d4.size = size := r3.trans hsk
        have hsk0 := zh hsk
        clear hL hx r3 r4 r5 r6 r7 HBt HBf
        unfold dataV at HL
        go_upto_if 109 with fail
        refine (uh HL).mono ?_
        rintro e w' ⟨rfl, hR⟩
        have HS3 : Hid (StS enc k w0 blk off W1 d4 w') := (uh HS).next hR
        clear hR HL HS z0 z1
        have z0 := (uh HS3).z (uh HC0) hne
        have z1 := (uh HS3).z (uh HC1) hne
        go_upto_if 109 with fail
        by_cases h4 : mid - a' < b' - mid
        · have h4z : (mid : Int) - (a' : Int) < (b' : Int) - (mid : Int) := by omega
          obtain ⟨q1, q2, q3⟩ := uh HV6 h4
          have HL := zh (uh HIH a' mid r.lim d4 w' (by omega) (uh HS3).1 hs4 r1 (by omega) (by omega) (uh HB4))
          have HQ2 := zh q2
          have HQ3 := zh q3
          have hs5 := q1.trans (uh hsk0)
          clear q1 q2 q3
          go_wp2_with fail
          refine (uh HL).mono ?_
          rintro e w4 ⟨rfl, hR⟩
          have HS4 : Hid (StS enc k w0 blk off W1 (pdq lt d4 a' mid r.lim true true) w4) := (uh HS3).next hR
          clear hR HL HS3 z0 z1
          go_wp2
          go_roundg (b' - (mid + 1))
          case measure => omega
          case rel =>
            refine ⟨mid + 1, b', r.lim, decide (mid - a' ≥ (b' - a') / 8), ap, pdq lt d4 a' mid r.lim true true, by simp, rfl, rfl, ?_, rfl, by omega, hb', Nat.le_refl _, by omega, by omega, hs5, HQ2, HS4, HQ3⟩
            exact congrArg Value.bool (eighth (by omega) (by omega))
        · have h4z : ¬ ((mid : Int) - (a' : Int) < (b' : Int) - (mid : Int)) := by omega
          obtain ⟨q1, q2, q3⟩ := uh HV7 h4
          have hL := uh HIH (mid + 1) b' r.lim d4 w' (by omega) (uh HS3).1 hs4 (by omega) hb' (by omega) (uh HB5)
          rw [show ((mid + 1 : Nat) : Int) = (mid : Int) + 1 by omega] at hL
          have HL := zh hL
          have HQ2 := zh q2
          have HQ3 := zh q3
          have hs5 := q1.trans (uh hsk0)
          clear q1 q2 q3 hL
          go_wp2_with fail
          refine (uh HL).mono ?_
          rintro e w4 ⟨rfl, hR⟩
          have HS4 : Hid (StS enc k w0 blk off W1 (pdq lt d4 (mid + 1) b' r.lim true true) w4) := (uh HS3).next hR
          clear hR HL HS3 z0 z1
          go_wp2
          go_roundg (mid - a')
          case measure => omega
          case rel =>
            refine ⟨a', mid, r.lim, decide (b' - mid ≥ (b' - a') / 8), ap, pdq lt d4 (mid + 1) b' r.lim true true, rfl, rfl, rfl, ?_, rfl, by omega, by omega, Nat.le_refl _, by omega, by omega, hs5, HQ2, HS4, HQ3⟩
            exact congrArg Value.bool (eighth (by omega) (by omega))
end Go.Proofs.YtfoojmflbifkpaaGreatDoor
