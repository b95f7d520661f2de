/- Texts of one proof, one behind the other. -/
import Derived.Test.YtbmkmfoaoganeaaGreatDoorQa
import Derived.Test.YtbmkmfoaoganeaaGreatDoorPb
import Derived.Test.YtbmkmfoaoganeaaGreatDoorShelfH
import Derived.Test.YtbmkmfoaoganeaaGreatDoorShelfE
import Derived.Test.YtbmkmfoaoganeaaGreatDoorShelfL
import Derived.Sort.KeysCollected
import Derived.Defers
import Derived.Recover
set_option maxRecDepth 100000
set_option maxHeartbeats 16000000
namespace Go.Proofs.YtbmkmfoaoganeaaGreatDoor
open Go.RowKit Go.Maps
theorem join_zero (ad : Option Addr) (c : Nat) (sep : ByteArray) (w : World) : Calls Tryz.prog 50 #[.slice ad 0 c, .string sep] w fun e w' => e = .returned (.string ⟨#[]⟩) /\ w' = w := by
 go_enter Tryz.func50, Tryz.ntmps50
 go_wp2
 go_ret
 exact ⟨rfl, rfl⟩
def txL (ws : List ByteArray) : List UInt8 := Lib.join (ws.map (·.data.toList)) [32]
theorem join_words {y : World} {ad : Option Addr} {cap : Nat} {ws : List ByteArray} (hcap : ws.length <= cap) (hc : ∀ j, (hj : j < ws.length) -> ∃ A o, ad = some ⟨A, o, none⟩ /\ y.cell? ⟨A, o + j, none⟩ = some (.string ws[j])) (hn : ws.length <= 100000) (hJ : (txL ws).length <= 100000) :
  Calls Tryz.prog 50 #[.slice ad ws.length cap, .string ⟨#[32]⟩] y fun e w' => e = .returned (.string ⟨(txL ws).toArray⟩) /\ Below y.heap.size y w' := by
 by_cases h0 : ws.length = 0
 ·have : ws = [] := List.eq_nil_of_length_eq_zero h0
  subst this
  exact (join_zero ad cap ⟨#[32]⟩ y).mono fun e w' ⟨q, r⟩ => ⟨by rw [q]; rfl, by rw [r]; exact Below.refl _ _⟩
 ·obtain ⟨A, o, rfl, q⟩ := hc 0 (by omega)
  refine Tryz.strings_Join A o cap ws ⟨#[32]⟩ y (fun j x hj => ?_) (lt_of_cell q) (by omega) hcap (Nat.le_trans hJ (by decide))
  obtain ⟨hjl, rfl⟩ := List.getElem?_eq_some_iff.1 hj
  obtain ⟨A', o', e, q'⟩ := hc j hjl
  cases e
  exact q'
def ChSays (ws : List ByteArray) (y : World) (e : Ending) (y' : World) : Prop :=
 ((∃ q v, okL q /\ txL ws = opsL q /\ e = .returned v /\ ReadsOps y' v q) \/ ((∀ q, okL q -> txL ws ≠ opsL q) /\ e = thrown 3)) /\ Below y.heap.size y y'
theorem words_changes {y : World} {bx : Nat} {ws : List ByteArray} (h : WdI y bx ws) (hn : ws.length <= 100000) (hJ : (txL ws).length <= 100000) (hl : Libs y) (ht : Tab y) (hg : ErrorType y) :
  Calls Tryz.prog 42 #[.pointer (some ⟨bx, 0, none⟩)] y (ChSays ws y) := by
 obtain ⟨ad, cap, c, hcap, hw⟩ := h.c
 have HJ := zh (join_words (y := y) hcap (fun j hj => by obtain ⟨A, o, e, _, q⟩ := hw j hj; exact ⟨A, o, e, q⟩) hn hJ)
 obtain ⟨tb, htb⟩ : ∃ tb : ByteArray, tb = ⟨(txL ws).toArray⟩ := ⟨_, rfl⟩
 have hts : tb.size <= 100000 := by rw [htb]; show (txL ws).toArray.size <= _; simpa using hJ
 have HTx : Hid (tb.data.toList = txL ws) := by rw [htb]; show (txL ws).toArray.toList = txL ws; simp
 rw [<- htb] at HJ
 have HRd := zh (fun W (hb : Below y.heap.size y W) => fact_Read tb W hts (hl.carry hb) (ht.carry hb))
 have HSu := zh (fun p n' c (e0 : Int) W (hb : Below y.heap.size y W) => sure_ops p n' c e0 W (hg.carry hb))
 clear h hw htb hts hl ht hg hn hJ hcap
 obtain ⟨wn, hwn⟩ : ∃ n, n = ws.length := ⟨_, rfl⟩
 rw [<- hwn] at HJ c
 clear hwn
 go_enter Tryz.func42, Tryz.ntmps42
 go_wp2_with fail
 refine (uh HJ).mono ?_
 rintro e Y1 ⟨rfl, b1⟩
 have HB1 := zh b1
 have HR1 := zh (uh HRd Y1 b1)
 clear b1 HJ HRd
 go_wp2_with fail
 refine (uh HR1).mono ?_
 rintro e Y2 ⟨⟨q, v, hq, hs, rfl, hr⟩ | ⟨hno, rfl⟩, b2⟩
 ·have HB2 := zh ((uh HB1).trans (b2.mono (uh HB1).size))
  have hro := row_ops hr
  obtain ⟨ad2, cap2, rfl, hro2⟩ := id hro
  have hS := uh HSu ad2 q.length cap2 0 Y2 (uh HB2)
  rw [if_pos rfl] at hS
  have HS := zh hS
  have HRo := zh hro
  have HE := zh ((uh HTx).symm.trans hs)
  have HOk := zh hq
  clear hS hro hro2 hr hs hq b2 HR1 HSu HTx
  obtain ⟨qn, hqn⟩ : ∃ n, n = q.length := ⟨_, rfl⟩
  rw [<- hqn] at HS HRo ⊢
  clear hqn
  go_wp2_with fail
  refine (uh HS).mono ?_
  rintro e Y3 ⟨rfl, b3⟩
  have HF : Hid (ChSays ws y (.returned (.slice ad2 qn cap2)) Y3) := ⟨.inl ⟨q, _, uh HOk, uh HE, rfl, (uh HRo).carry b3⟩, (uh HB2).trans (b3.mono (uh HB2).size)⟩
  clear b3 HS
  go_wp2
  go_ret
  exact uh HF
 ·have HB2 := zh ((uh HB1).trans (b2.mono (uh HB1).size))
  have hS := uh HSu none 0 0 3 Y2 (uh HB2)
  rw [if_neg (by decide), errV_some (by decide)] at hS
  have HS := zh hS
  have HNo : Hid (∀ q, okL q -> txL ws ≠ opsL q) := fun q hq e => hno q hq ((uh HTx).trans e)
  clear hS b2 hno HR1 HSu HTx
  go_wp2_with fail
  refine (uh HS).mono ?_
  rintro e Y3 ⟨rfl, b3⟩
  have HF : Hid (ChSays ws y (thrown 3) Y3) := ⟨.inr ⟨uh HNo, rfl⟩, (uh HB2).trans (b3.mono (uh HB2).size)⟩
  clear b3 HS
  go_wp2
  exact ⟨rfl, uh HF⟩
def cmE (st : DkS) : Int := if roomE st.es.length st.down = 0 then if st.cut = true /\ st.left = 0 then 14 else 0 else roomE st.es.length st.down
def cmSt (st : DkS) (l : List Fop) : DkS := if roomE st.es.length st.down = 0 then if st.cut = true /\ st.left = 0 then { st with es := st.es, down := true, cut := true, left := 0 } else { st with es := st.es ++ [.inl l], down := false, cut := st.cut, left := nextL st.cut st.left } else st
theorem ops_small {l : List Fop} (h : okL l) : ∀ x, x ∈ l -> Small x := fun x hx => by
 obtain ⟨_, h1, h2, _⟩ := op_fit (h.2.2 x hx)
 unfold Small maxLen
 omega
theorem commit_any {w y : World} {s dm D B : Nat} {ps : Nat -> ByteArray} {F : Nat -> Prop} {g m : Nat} {X : List (Int × Nat)} {Nd : Nat -> Gn} {Fs : Nat -> Nat -> Prop} {st : DkS} {M : Nat -> Prop} (h : DkI w y s dm D B ps F g m X Nd Fs st) (hM : ∀ i, M i ↔ F i \/ i = D \/ i = s \/ i = dm \/ graphF g m X Fs i) (ht : Tab w) (hl : Libs w) (l : List Fop) (hok : okL l) (v : Value) (hO : ReadsOps y v l) (torn : Int) :
  Calls Tryz.prog 41 #[.pointer (some ⟨B, 0, none⟩), v, .int .i64 torn] y fun e y' => e = .returned (errV (cmE st)) /\ After w s M y (cmSt st l) y' /\ ∀ i v, y.cell? ⟨s, i, none⟩ = some v -> y'.cell? ⟨s, i, none⟩ = some v := by
 have hty := ht.carry h.low
 have hs := ops_small hok
 by_cases hroom : roomE st.es.length st.down = 0
 ·obtain ⟨hdown, hlt⟩ := room_lt hroom
  unfold cmE cmSt
  rw [if_pos hroom, if_pos hroom]
  have hbd := h.bd
  rw [hdown] at hbd
  by_cases hoff : st.cut = true /\ st.left = 0
  ·rw [if_pos hoff, if_pos hoff]
   rw [hoff.1, hoff.2] at hbd
   refine (base_Commit_off hbd hlt l v hok hO hs torn hty).mono ?_
   rintro e y1 ⟨rfl, ps', hb, hw⟩
   exact ⟨rfl, h.after_went hM hb hw h.ok, h.went_cell hw⟩
  ·rw [if_neg hoff, if_neg hoff]
   have hp : st.cut = false \/ st.left ≠ 0 := by
    cases hc : st.cut with
    | false => exact .inl rfl
    | true => exact .inr (fun e => hoff ⟨hc, e⟩)
   refine (base_Commit_on hbd hlt l v hok hO hs torn hp h.low h.dge ht hl).mono ?_
   rintro e y1 ⟨rfl, F', ps', hb, hw⟩
   have hsn : stE (st.es ++ [.inl l]) = ((stE st.es).1 ++ [l], (stE st.es).2) := stE_snoc _ _
   exact ⟨rfl, h.after_went hM hb hw (by
    rw [hsn]
    intro x hx
    rcases List.mem_append.1 hx with q | q
    ·exact h.ok x q
    ·rw [List.mem_singleton.1 q]; exact hok), h.went_cell hw⟩
 ·unfold cmE cmSt
  rw [if_neg hroom, if_neg hroom, errV_some hroom]
  obtain ⟨ad, cap, rfl, _⟩ := hO
  refine (base_commit_no (base_ready h.bd hroom) ad l.length cap torn).mono ?_
  rintro e y1 ⟨rfl, b1⟩
  exact ⟨rfl, h.after_read hM b1, fun i v q => there_yet q b1⟩
theorem dk_commit_no {w y : World} {s : Nat} {M : Nat -> Prop} {st : DkS} {v : Value} {ws : List ByteArray} (ht : Tab w) (hl : Libs w) (hg : ErrorType w) (h : DkG w y s M st) (hv : WsI y v ws) (hn : ws.length <= 100000) (hJ : (txL ws).length <= 100000) (hno : ∀ q, okL q -> txL ws ≠ opsL q) :
  Calls Tryz.prog 13 #[.pointer (some ⟨s, 0, none⟩), v] y (Did w s M y st (.error 3)) := by
 have HX := zh hno
 clear hno
 obtain ⟨ad, cap, rfl, hcap, hw, hsz⟩ := hv
 obtain ⟨dm, D, B, ps, F, g, m, X, Nd, Fs, hI, hM⟩ := id h
 have hb0 := below_box y (.cells #[.slice ad ws.length cap] 56)
 have hW0 := wd_new (y := y) (ad := ad) (n := ws.length) (cap := cap) ⟨ad, cap, rfl, hcap, hw, hsz⟩
 have HG := zh h
 have HI := zh (fun W (hb : Below y.heap.size y W) => hI.below hb)
 have HM := zh hM
 have HSx : Hid (∀ W, Below y.heap.size y W -> W.cell? ⟨s, 1, none⟩ = some (.pointer (some ⟨B, 0, none⟩))) := fun W hb => (hI.below hb).c1
 have HTw := zh ht
 have HLw := zh hl
 have HGw := zh hg
 obtain ⟨wn, hwn⟩ : ∃ n, n = ws.length := ⟨_, rfl⟩
 rw [<- hwn] at hW0 hb0 ⊢
 have HCh := zh (fun W (hW : WdI W y.heap.size ws) (hb : Below y.heap.size y W) => words_changes hW hn hJ (hl.carry (h.low.trans (hb.mono h.low.size))) (ht.carry (h.low.trans (hb.mono h.low.size))) (hg.carry (h.low.trans (hb.mono h.low.size))))
 have HW0 := zh hW0
 have HB0 := zh hb0
 clear h hI hM hcap hw hsz ht hl hg hwn hn hJ hW0 hb0
 go_enter Tryz.func13, Tryz.ntmps13
 go_upto_region 1 with fail
 generalize y.alloc (.cells #[.slice ad wn cap] 56) = Y0 at *
 have HWd := zh ((uh HW0).below (below_drew Y0))
 have HBd := zh ((uh HB0).trans ((below_drew Y0).mono (uh HB0).size))
 clear HW0 HB0
 have HC0 := zh (uh HCh Y0.drew (uh HWd) (uh HBd))
 refine wp_region_held_drew (S := fun x => x.cell? ⟨s, 1, none⟩ = some (.pointer (some ⟨B, 0, none⟩))) (by kernel_rfl) (uh HSx _ (uh HBd)) (fun hHeld => ?_)
 generalize Y0.drew = Yd at *
 clear HCh HWd
 refine takeH 0 (h := ?_)
 try simp only [Act.put, sI, sZ, sS]
 refine takeH 1 (h := ?_)
 try simp only [Act.put, sI, sZ, sS]
 refine takeH 2 (h := ?_)
 try simp only [Act.put, sI, sZ, sS]
 refine takeH 3 (h := ?_)
 try simp only [Act.put, sI, sZ, sS]
 refine readyH 4 (h := fun K hK => ?_)
 go_simp
 refine (uh HC0).mono ?_
 rintro e Y1 ⟨⟨q, v, hq, hs, rfl, hr⟩ | ⟨hno, rfl⟩, b1⟩
 case inl => exact absurd hs (uh HX q hq)
 have HF := zh (did_read (out := .error 3) (uh HG) ((uh HBd).trans (b1.mono (uh HBd).size)) rfl)
 clear b1 hno hK HC0
 go_wp2
 exact ⟨rfl, uh HF⟩
theorem dk_commit_ok {w y : World} {s : Nat} {M : Nat -> Prop} {st : DkS} {v : Value} {ws : List ByteArray} (ht : Tab w) (hl : Libs w) (hg : ErrorType w) (h : DkG w y s M st) (hv : WsI y v ws) (hn : ws.length <= 100000) (hJ : (txL ws).length <= 100000) (q : List Fop) (hq : okL q) (hs : txL ws = opsL q) :
  Calls Tryz.prog 13 #[.pointer (some ⟨s, 0, none⟩), v] y (Did w s M y (cmSt st q) (outP (cmE st) (Lib.itoa ((stE (cmSt st q).es).1.length : Int)))) := by
 have HQ := zh hq
 have HE := zh hs
 clear hq hs
 obtain ⟨ad, cap, rfl, hcap, hw, hsz⟩ := hv
 obtain ⟨dm, D, B, ps, F, g, m, X, Nd, Fs, hI, hM⟩ := id h
 have hb0 := below_box y (.cells #[.slice ad ws.length cap] 56)
 have hW0 := wd_new (y := y) (ad := ad) (n := ws.length) (cap := cap) ⟨ad, cap, rfl, hcap, hw, hsz⟩
 have HG := zh h
 have HI := zh (fun W (hb : Below y.heap.size y W) => hI.below hb)
 have HM := zh hM
 have HSx : Hid (∀ W, Below y.heap.size y W -> W.cell? ⟨s, 1, none⟩ = some (.pointer (some ⟨B, 0, none⟩))) := fun W hb => (hI.below hb).c1
 have HTw := zh ht
 have HLw := zh hl
 have HGw := zh hg
 obtain ⟨wn, hwn⟩ : ∃ n, n = ws.length := ⟨_, rfl⟩
 rw [<- hwn] at hW0 hb0 ⊢
 have HCh := zh (fun W (hW : WdI W y.heap.size ws) (hb : Below y.heap.size y W) => words_changes hW hn hJ (hl.carry (h.low.trans (hb.mono h.low.size))) (ht.carry (h.low.trans (hb.mono h.low.size))) (hg.carry (h.low.trans (hb.mono h.low.size))))
 have HW0 := zh hW0
 have HB0 := zh hb0
 clear h hI hM hcap hw hsz ht hl hg hwn hn hJ hW0 hb0
 go_enter Tryz.func13, Tryz.ntmps13
 go_upto_region 1 with fail
 generalize y.alloc (.cells #[.slice ad wn cap] 56) = Y0 at *
 have HWd := zh ((uh HW0).below (below_drew Y0))
 have HBd := zh ((uh HB0).trans ((below_drew Y0).mono (uh HB0).size))
 clear HW0 HB0
 have HC0 := zh (uh HCh Y0.drew (uh HWd) (uh HBd))
 refine wp_region_held_drew (S := fun x => x.cell? ⟨s, 1, none⟩ = some (.pointer (some ⟨B, 0, none⟩))) (by kernel_rfl) (uh HSx _ (uh HBd)) (fun hHeld => ?_)
 generalize Y0.drew = Yd at *
 clear HCh HWd
 refine takeH 0 (h := ?_)
 try simp only [Act.put, sI, sZ, sS]
 refine takeH 1 (h := ?_)
 try simp only [Act.put, sI, sZ, sS]
 refine takeH 2 (h := ?_)
 try simp only [Act.put, sI, sZ, sS]
 refine takeH 3 (h := ?_)
 try simp only [Act.put, sI, sZ, sS]
 refine readyH 4 (h := fun K hK => ?_)
 go_simp
 refine (uh HC0).mono ?_
 rintro e Y1 ⟨⟨q', v, hq, hs, rfl, hr⟩ | ⟨hno, rfl⟩, b1⟩
 case inr => exact absurd (uh HE) (hno q (uh HQ))
 obtain rfl : q = q' := wrs_inj q q' (uh HQ) hq ((uh HE).symm.trans hs)
 have HB1 := zh ((uh HBd).trans (b1.mono (uh HBd).size))
 have HCm := zh (commit_any (uh HI Y1 (uh HB1)) (uh HM) (uh HTw) (uh HLw) q hq v hr (-1))
 have HCk := zh (fun W (hb : Below w.heap.size w W) => check_any (cmE st) W ((uh HGw).carry hb))
 clear hs hq b1 HC0
 obtain ⟨ad2, cap2, rfl, hr2⟩ := hr
 clear hr2
 obtain ⟨qn, hqn⟩ : ∃ n, n = q.length := ⟨_, rfl⟩
 rw [<- hqn] at HCm ⊢
 clear hqn
 generalize cmSt st q = st' at *
 generalize cmE st = pe at *
 refine hK.out _ _ (uh HSx Y1 (uh HB1)) (fun hHeld => ?_)
 clear hK K
 try simp only [Act.put, sI, sZ, sS]
 refine readyH 5 (h := fun K hK => ?_)
 go_simp
 refine (uh HCm).mono ?_
 rintro e Z1 ⟨rfl, hA, hS⟩
 have HA := zh (hA.from (uh HB1))
 have HC1 := zh (uh HCk Z1 hA.low)
 have hS1 := hS 1 _ (uh HSx Y1 (uh HB1))
 clear hA hS HCk HCm
 refine hK.out _ _ hS1 (fun hHeld => ?_)
 clear hK K
 try simp only [Act.put, sI, sZ, sS]
 refine readyH 6 (h := fun K hK => ?_)
 go_simp
 refine (uh HC1).mono ?_
 by_cases he : pe = 0
 ·rw [if_pos he]
  rintro e Z2 ⟨rfl, b2⟩
  have hA2 := (uh HA).below b2
  have hS2 := there_yet hS1 b2
  have HA2 := zh hA2
  obtain ⟨M', ⟨dm', D', B', ps', F', g', m', X', Nd', Fs', hI', hM'⟩, _, _⟩ := hA2
  obtain ⟨s1, s2, s3⟩ := stE_bounds hI'.bd.holds.good
  have s4 := hI'.bd.most
  have c1' := hI'.c1
  have HN := zh (base_now hI'.bd.base)
  have hlo := hI'.low
  obtain ⟨nn, hnn⟩ : ∃ n : Int, n = ((stE st'.es).1.length : Int) := ⟨_, rfl⟩
  have HIt := zh (itoa nn Z2 (by omega) (by omega) ((uh HTw).carry hlo))
  rw [<- hnn] at HN
  have HF : Hid (∀ W, Below Z2.heap.size Z2 W -> Did w s M y st' (outP pe (Lib.itoa ((stE st'.es).1.length : Int))) (.returned (.string ⟨(Lib.itoa nn).toArray⟩)) W) := fun W hb => ((uh HA2).below hb).did (by unfold outP; rw [if_pos he, hnn]; rfl)
  clear b2 HC1 hlo hI' hM' s1 s2 s3 s4 hnn
  refine hK.out _ _ hS2 (fun hHeld => ?_)
  clear hK K
  try simp only [Act.put, sI, sZ, sS]
  refine wpAnyH_done (by kernel_rfl) ?_ _
  clear hHeld hS1 hS2
  go_wp2_with fail
  refine (base_Past _ B').mono ?_
  rintro e Zq ⟨rfl, hZq⟩
  obtain rfl : Z2 = Zq := hZq.symm
  clear hZq
  go_wp2_with fail
  refine (uh HN).mono ?_
  rintro e Zq ⟨rfl, hZq⟩
  obtain rfl : Z2 = Zq := hZq.symm
  clear hZq HN
  go_wp2_with fail
  refine (uh HIt).mono ?_
  rintro e Z3 ⟨rfl, b3⟩
  have HF3 := zh (uh HF Z3 b3)
  clear b3 HIt HF
  go_wp2
  go_ret
  exact uh HF3
 ·rw [if_neg he]
  rintro e Z2 ⟨rfl, b2⟩
  have HF := zh (((uh HA).below b2).did (out := outP pe (Lib.itoa ((stE st'.es).1.length : Int))) (e := thrown pe) (by unfold outP; rw [if_neg he]; rfl))
  clear b2 HC1 hK
  go_wp2
  exact ⟨rfl, uh HF⟩
theorem sorts_inS (m : Nat) : AnyZ.SortsIn Tryz.prog Tryz.sortedD_ren Fence.wide m :=
  ⟨fun blk off cap ss W hH hblk hsz => callsIn_wide.2 (Any.slices_Sort_string Tryz.lays190 blk off cap ss W hH hblk hsz),
   fun p cap W => callsIn_wide.2 (Any.slices_Sort_string_none Tryz.lays190 p cap W)⟩
def helpS : List (List UInt8) := deeds.map (·.1)
theorem help_nodup : helpS.Nodup := by decide
theorem help_rise : helpS.Pairwise (· < ·) := by decide
theorem deeds_perm {w : World} {m s : Nat} {D : DataW Unit} (h : w.ownsMap Tryz.prog 9 (deedE s) m deeds.length D) (k : KeysD D deeds) : helpS.Perm (strKeys D) :=
 Collected.perm (left := fun _ => false) ⟨help_nodup, fun x => by rw [k.has]; simp [helpS]⟩ h keyedS Tryz.underlying9 (fun _ => rfl)
theorem help_sorted {ss : List (List UInt8)} (h : ss.Perm helpS) : ss.mergeSort (fun x y => decide (x <= y)) = helpS := by
 have hp : (ss.mergeSort (fun x y => decide (x <= y))).Perm helpS := (List.mergeSort_perm _ _).trans h
 have hn : (ss.mergeSort (fun x y => decide (x <= y))).Nodup := hp.nodup_iff.2 help_nodup
 have hs : (ss.mergeSort (fun x y => decide (x <= y))).Pairwise (· <= ·) := by
  have := List.pairwise_mergeSort (le := fun x y : List UInt8 => decide (x <= y)) (fun a b c h1 h2 => by simp at *; exact List.le_trans h1 h2) (fun a b => by simp; exact List.le_total a b) ss
  exact this.imp (fun h => by simpa using h)
 have hr : (ss.mergeSort (fun x y => decide (x <= y))).Pairwise (· < ·) := by
  refine (hs.and hn).imp (fun {a b} q => ?_)
  rcases Classical.em (a < b) with r | r
  ·exact r
  ·exact absurd (List.le_antisymm q.1 (List.not_lt.1 r)) q.2
 exact rises_one lt_irr lt_asym _ _ hr help_rise (fun x => hp.mem_iff)
theorem sorted_deeds {W : World} {mb s : Nat} (h : DeedsW W mb s deeds) :
  Calls Tryz.prog 54 #[.func (.func 103) #[] #[.pointer (some ⟨W.heap.size, 0, none⟩)]] (W.alloc (.cells #[.map (some mb)] 45)) fun e w' => ∃ v, e = .returned v /\ RowT w' W.heap.size v helpS /\ Below W.heap.size W w' := by
 obtain ⟨D, hoD, hKD⟩ := h
 have hlt := hoD.lt
 have hsz : Maps.size D = 17 := hKD.size
 have hseq : SeqGives Fence.wide 2 Tryz.prog 103 #[.pointer (some ⟨W.heap.size, 0, none⟩)] encStr (fun ss => ss.Perm (strKeys D)) (Maps.size D) (W.alloc (.cells #[.map (some mb)] 45)) :=
  AnyZ.keys_gives (ρ := Tryz.keysD_ren) { Tryz.keysD with } Fence.wide _ trivial rfl (by omega) W.heap.size mb deeds.length D _ (by simp) (by simp) (by
   obtain ⟨es, clock, hb, Ft, hs, hD⟩ := hoD
   exact ⟨es, clock, (Below.heap_alloc _ _ mb hlt).trans hb, Ft, hs, hD⟩)
 have cS := AnyZ.sorted_in Tryz.sortedD Fence.wide 5 trivial trivial trivial trivial rfl (by omega) (sorts_inS _) (enters_of Tryz.func100 (by kernel_rfl) rfl) 103 #[.pointer (some ⟨W.heap.size, 0, none⟩)] trivial (enters_of Tryz.func103 (by kernel_rfl) rfl) _ _ (by rw [hsz]; unfold maxLen; omega) (by rw [hsz]; omega) _ hseq
 change CallsIn _ _ Tryz.prog 54 _ _ _ at cS
 refine ((callsIn_wide (n := 5)).1 cS).mono ?_
 rintro e w' ⟨v, ss, rfl, hS, hrow, _, hb⟩
 refine ⟨v, rfl, ?_, ((Below.refl _ W).alloc zr _).trans (hb.mono (by simp))⟩
 have hp : ss.Perm helpS := hS.trans (deeds_perm hoD hKD).symm
 rw [help_sorted hp, hp.length_eq] at hrow
 exact ownsRow_rebase hrow (by simp)
theorem keys_seqS (mb : Option Nat) (W : World) : Calls Tryz.prog 55 #[.map mb] W fun e w' => e = .returned (.func (.func 103) #[] #[.pointer (some ⟨W.heap.size, 0, none⟩)]) /\ w' = W.alloc (.cells #[.map mb] 45) :=
 (callsIn_wide (n := 5)).1 (AnyZ.keys_in Tryz.keysD Fence.wide 5 trivial rfl mb W)
theorem dk_help_ok {w y : World} {s : Nat} {M : Nat -> Prop} {st : DkS} {v : Value} (h : DkG w y s M st) (hv : WsI y v []) :
  Calls Tryz.prog 18 #[.pointer (some ⟨s, 0, none⟩), v] y (Did w s M y st (.ok (Lib.join helpS [32]))) := by
 obtain ⟨ad, cap, rfl, hcap, hw, hsz⟩ := hv
 obtain ⟨dm, D, B, ps, F, g, m, X, Nd, Fs, hI, hM⟩ := id h
 have c3 := hI.c3
 have HG := zh h
 have HS := zh (sorted_deeds hI.de)
 have HK := zh (keys_seqS (some dm) y)
 have HL5 : Hid (helpS.length <= 5000) := zh (by decide)
 have HLe : Hid (∀ x, x ∈ helpS -> x.length <= 200000) := zh (by decide)
 clear h hI hM hcap hw hsz
 generalize helpS = hs at *
 simp only [List.length_nil]
 go_enter Tryz.func18, Tryz.ntmps18
 go_wp2_with fail
 refine (uh HK).mono ?_
 rintro e Y1 ⟨rfl, hY1⟩
 rw [<- hY1] at HS
 clear hY1 HK
 go_wp2_with fail
 refine (uh HS).mono ?_
 rintro e Y2 ⟨v, rfl, r2, b2⟩
 have HB2 := zh b2
 have HJ := zh (row_join r2 ⟨#[32]⟩ (uh HL5) (uh HLe) (by decide))
 obtain ⟨ad2, cap2, rfl⟩ := RowT.slice r2
 clear r2 b2 HS
 obtain ⟨hn, hhn⟩ : ∃ n, n = hs.length := ⟨_, rfl⟩
 rw [<- hhn] at HJ ⊢
 clear hhn
 go_wp2_with fail
 refine (uh HJ).mono ?_
 rintro e Y3 ⟨rfl, b3⟩
 have HF := zh (did_read (out := .ok (Lib.join hs [32])) (uh HG) ((uh HB2).trans (b3.mono (uh HB2).size)) (e := .returned (.string ⟨(Lib.join hs [32]).toArray⟩)) rfl)
 clear b3 HJ
 go_wp2
 go_ret
 exact uh HF
def Caught (p : Nat) (n : Int) (older : List PanicEntry) (w : World) (e : Ending) (u : FrameMode) (w' : World) : Prop :=
 e = .returned (.tuple #[]) /\ u = .panicking ({ v := .iface 25 (.int .i64 n), recovered := true } :: older) /\ ∃ W, Below w.heap.size w W /\ w' = W.setCell ⟨p, 0, none⟩ (.string ⟨(faultL n).toArray⟩)
theorem catch_thrown (p : Nat) (n : Int) (older : List PanicEntry) (w : World) (v : Value) (hc : w.cell? ⟨p, 0, none⟩ = some v) (hz : w.frozen? ⟨p, 0, none⟩ = false) (h0 : -9223372036854775808 <= n) (h1 : n <= 9223372036854775807) (ht : Tab w) :
  CallsD Tryz.prog 33 #[.pointer (some ⟨p, 0, none⟩)] (.panicking ({ v := .iface 25 (.int .i64 n), recovered := false } :: older)) w (Caught p n older w) := by
 have HF := zh (desk_fault n w h0 h1 ht)
 have hlt : p < w.heap.size := lt_of_cell hc
 have HL := zh hlt
 have HC := zh hc
 have HZ := zh hz
 clear h0 h1 ht hlt hc hz
 refine callsD_of_wpS Tryz.func33 rfl fun c₀ cs hu => ?_
 apply wpS_seq
 apply wpS_region
 simp [wpOpsS, go_sem, recoverD, hu, Tryz.ntmps33, Exit.thenS]
 refine wpS_of_wp ?_
 simp only [Array.replicate_succ, Array.replicate_zero, List.push_toArray, List.append_toArray, List.nil_append, List.cons_append, sI, sZ, sS]
 go_wp2_with fail
 refine (uh HF).mono ?_
 rintro e W ⟨rfl, b⟩
 have hc1 := there_yet (uh HC) b
 have hz1 : W.frozen? ⟨p, 0, none⟩ = false := ((Keeps.of_below (fun _ => False) b zr).frozen (p := ⟨p, 0, none⟩) (uh HL) (fun q => q)).trans (uh HZ)
 have HB := zh b
 clear b HF
 go_wp2
 simp [bodyPostS, results, Tryz.results33, Caught]
 exact ⟨W, uh HB, rfl⟩
theorem catch_idle (p : Nat) (w : World) :
  CallsD Tryz.prog 33 #[.pointer (some ⟨p, 0, none⟩)] .returning w fun e u' w' => e = .returned (.tuple #[]) /\ u' = .returning /\ w' = w := by
 refine callsD_of_wpS Tryz.func33 rfl fun c₀ cs hu => ?_
 apply wpS_seq
 apply wpS_region
 simp [wpOpsS, go_sem, recoverD, hu, Tryz.ntmps33, Exit.thenS]
 refine wpS_of_wp ?_
 simp only [Array.replicate_succ, Array.replicate_zero, List.push_toArray, List.append_toArray, List.nil_append, List.cons_append, sI, sZ, sS]
 go_wp2
 cases c₀
 simp_all [bodyPostS, results, Tryz.results33]
def blankP (x : Nat) : Bool := decide (x = 32)
def wordsD (s : ByteArray) : List ByteArray := Lib.goFieldsP blankP s
theorem split_one (x : Nat) (hx : x <= 1114111) (w : World) : Calls Tryz.prog 83 #[.int .i32 x] w fun e w' => e = .returned (.bool (blankP x)) /\ w' = w := by
 unfold blankP
 by_cases h : x = 32
 ·subst h
  go_enter Tryz.func83, Tryz.ntmps83
  go_wp2
  go_ret
  exact ⟨rfl, rfl⟩
 ·have hn : ¬ (x : Int) = 32 := by omega
  rw [decide_eq_false h]
  go_enter Tryz.func83, Tryz.ntmps83
  go_wp2
  go_ret
  exact ⟨by show Ending.returned (.bool ((x : Int) == 32)) = _; rw [beq_false_of_ne hn], rfl⟩
def SplitSays (L : List ByteArray) (w : World) (e : Ending) (w' : World) : Prop := ∃ A, e = .returned (.slice (some ⟨A, 0, none⟩) L.length L.length) /\ (∀ j, (hj : j < L.length) -> w'.cell? ⟨A, 0 + j, none⟩ = some (.string L[j])) /\ Below w.heap.size w w'
theorem RowS.cells {W : World} {base A n : Nat} {L : List ByteArray} (h : W.ownsRow base 9 1 (.slice (some ⟨A, 0, none⟩) L.length n) L.length (L.map Value.string)) : ∀ j, (hj : j < L.length) -> W.cell? ⟨A, 0 + j, none⟩ = some (.string L[j]) := by
 intro j hj
 rcases h.2 with ⟨h1, h2⟩ | ⟨g, cap, cur, hv, _, hh, _, _, _, h6⟩
 ·omega
 ·cases hv
  unfold World.cell?
  simp only [hh]
  have q : cur.toList[j]? = (L.map Value.string)[j]? := by rw [<- h6, List.getElem?_take_of_lt (by omega)]
  simp [hj] at q
  simpa using q
theorem desk_split (s : ByteArray) (w : World) (hs : s.size <= 100000) :
  Calls Tryz.prog 34 #[.string s] w (SplitSays (wordsD s) w) := by
 have HFf := zh (Any.strings_FieldsFunc_grows Tryz.lays229 83 #[] (enters_of Tryz.func83 (by kernel_rfl) rfl) blankP s w (by omega) (fun W x hx _ => (split_one x hx W).mono fun _ _ ⟨q, r⟩ => ⟨q, by rw [r]; exact Below.refl _ _⟩) (by kernel_rfl) (by kernel_rfl))
 have hmf : ∀ (fn : Fn) (first cap : Array Value) (w : World), (Instr.makeFunc fn first cap).run Tryz.prog w = .ok (.func fn first cap) w := fun _ _ _ _ => rfl
 unfold wordsD
 generalize Lib.goFieldsP blankP s = L at *
 go_enter Tryz.func34, Tryz.ntmps34
 go_wp2_with fail
 refine Calls.mono (uh HFf) ?_
 rintro e Y1 ⟨A, rfl, hA, hrow, b⟩
 have HC := zh (RowS.cells hrow)
 have HB := zh b
 clear hrow b hA HFf
 obtain ⟨ln, hln⟩ : ∃ n, n = L.length := ⟨_, rfl⟩
 have HF : Hid (SplitSays L w (.returned (.slice (some ⟨A, 0, none⟩) ln ln)) Y1) := ⟨A, by rw [hln], uh HC, uh HB⟩
 rw [<- hln]
 clear HC HB hln
 go_wp2
 go_ret
 exact uh HF
theorem rune_wide (s : ByteArray) (pos : Nat) : 1 <= (Utf8.decode s pos).2 := by
 unfold Utf8.decode
 dsimp only
 repeat' split
 all_goals (dsimp only; omega)
def wgt (l : List (Nat × Nat)) : Nat := (l.map fun x => x.2 - x.1 + 1).sum
theorem wgt_snoc (l : List (Nat × Nat)) (a b : Nat) : wgt (l ++ [(a, b)]) = wgt l + (b - a + 1) := by simp [wgt]
theorem spans_w (p : Nat -> Bool) (s : ByteArray) : ∀ (f pos : Nat) (st : Option Nat) (acc : List (Nat × Nat)), wgt acc <= s.size -> wgt acc <= st.getD pos -> (∀ a, st = some a -> a <= pos /\ a < s.size) ->
  wgt (Lib.spansFromP p s f pos st acc).1 <= s.size /\ ∀ a, (Lib.spansFromP p s f pos st acc).2 = some a -> wgt (Lib.spansFromP p s f pos st acc).1 <= a /\ a < s.size
 | 0, pos, st, acc, h1, h2, h3 => by
  refine ⟨h1, fun a ha => ?_⟩
  have ha' : st = some a := ha
  subst ha'
  exact ⟨h2, (h3 a rfl).2⟩
 | f + 1, pos, st, acc, h1, h2, h3 => by
  unfold Lib.spansFromP
  by_cases hp : pos < s.size
  ·rw [if_pos hp]
   have hw := rune_wide s pos
   by_cases hq : p (Utf8.decode s pos).1 = true
   ·rw [if_pos hq]
    cases st with
    | some a =>
     have h2' : wgt acc <= a := h2
     have h3' := h3 a rfl
     exact spans_w p s f _ none _ (by rw [wgt_snoc]; omega) (by rw [wgt_snoc]; show _ <= pos + _; omega) (fun _ e => by cases e)
    | none =>
     have h2' : wgt acc <= pos := h2
     exact spans_w p s f _ none acc h1 (by show _ <= pos + _; omega) (fun _ e => by cases e)
   ·rw [if_neg hq]
    cases st with
    | some a =>
     have h3' := h3 a rfl
     exact spans_w p s f _ (some a) acc h1 h2 (fun b e => by cases e; omega)
    | none =>
     have h2' : wgt acc <= pos := h2
     exact spans_w p s f _ (some pos) acc h1 h2' (fun b e => by cases e; omega)
  ·rw [if_neg hp]
   refine ⟨h1, fun a ha => ?_⟩
   have ha' : st = some a := ha
   subst ha'
   exact ⟨h2, (h3 a rfl).2⟩
theorem spansOf_w (p : Nat -> Bool) (s : ByteArray) : wgt (Lib.spansOfP p s) <= s.size + 1 := by
 obtain ⟨h1, h2⟩ := spans_w p s s.size 0 none [] (by simp [wgt]) (by simp [wgt]) (fun a e => by cases e)
 unfold Lib.spansOfP Lib.closeSpans
 split
 ·rename_i a e
  obtain ⟨q1, q2⟩ := h2 a e
  rw [wgt_snoc]
  omega
 ·omega
theorem join_sum : ∀ (l : List (List UInt8)), (Lib.join l [32]).length <= (l.map fun x => x.length + 1).sum
 | [] => by simp [Lib.join]
 | [x] => by simp [Lib.join]
 | x :: y :: l => by
  have := join_sum (y :: l)
  rw [Lib.join_cons] at this ⊢
  simp only [Lib.joinTail, List.map_cons, List.flatten_cons, List.length_append, List.length_cons, List.length_nil, List.sum_cons] at this ⊢
  omega
theorem extract_le (s : ByteArray) (a b : Nat) : (s.extract a b).size <= b - a /\ (s.extract a b).size <= s.size := by
 rw [ByteArray.size_extract]
 omega
theorem words_sum (s : ByteArray) : ∀ (l : List (Nat × Nat)), (((l.map fun x => s.extract x.1 x.2).map (·.data.toList)).map fun x => x.length + 1).sum <= wgt l /\ l.length <= wgt l
 | [] => by simp [wgt]
 | x :: l => by
  obtain ⟨h1, h2⟩ := words_sum s l
  have h3 := (extract_le s x.1 x.2).1
  have h4 : (s.extract x.1 x.2).data.toList.length = (s.extract x.1 x.2).size := Array.length_toList
  have h5 : wgt (x :: l) = (x.2 - x.1 + 1) + wgt l := by simp [wgt]
  rw [h5]
  simp only [List.map_cons, List.sum_cons, List.length_cons]
  omega
theorem words_len (s : ByteArray) : (wordsD s).length <= s.size + 1 /\ (txL (wordsD s)).length <= s.size + 1 /\ ∀ x, x ∈ wordsD s -> x.size <= s.size := by
 have h0 := spansOf_w blankP s
 obtain ⟨h1, h2⟩ := words_sum s (Lib.spansOfP blankP s)
 refine ⟨?_, ?_, fun x hx => ?_⟩
 ·unfold wordsD Lib.goFieldsP
  rw [List.length_map]
  omega
 ·unfold txL
  refine Nat.le_trans (join_sum _) (Nat.le_trans ?_ h0)
  exact h1
 ·unfold wordsD Lib.goFieldsP at hx
  obtain ⟨y, _, rfl⟩ := List.mem_map.1 hx
  exact (extract_le s _ _).2
end Go.Proofs.YtbmkmfoaoganeaaGreatDoor
