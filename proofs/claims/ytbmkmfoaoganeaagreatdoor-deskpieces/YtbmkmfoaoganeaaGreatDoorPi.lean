/- Texts of one proof, one behind the other. -/
import Derived.Test.YtbmkmfoaoganeaaGreatDoorPh
import Derived.Test.YtbmkmfoaoganeaaGreatDoorOh
import Derived.Test.YtbmkmfoaoganeaaGreatDoorPd
set_option maxRecDepth 100000
set_option maxHeartbeats 16000000
namespace Go.Proofs.YtbmkmfoaoganeaaGreatDoor
open Go.RowKit Go.Maps
theorem wf_of {n : Int} (q : -9223372036854775808 <= n /\ n <= 9223372036854775807) : (Lit.int .i64 n).wf = true := by
 show (decide ((-9223372036854775808 : Int) <= n) && decide (n <= 9223372036854775807)) = true
 simp [q.1, q.2]
def outP (e : Int) (t : List UInt8) : Except Int (List UInt8) := if e = 0 then .ok t else .error e
theorem dk_prop_bad0 {w y : World} {s : Nat} {M : Nat -> Prop} {st : DkS} {v : Value} (x0 x1 : ByteArray) (ht : Tab w) (hl : Libs w) (hg : ErrorType w) (h : DkG w y s M st) (hv : WsI y v [x0, x1]) (hx : numW x0 = none) :
  Calls Tryz.prog 26 #[.pointer (some ⟨s, 0, none⟩), v] y (Did w s M y st (.error 3)) := by
 obtain ⟨ad, cap, rfl, hcap, hw, hsz⟩ := hv
 have hb0 := below_box y (.cells #[.slice ad 2 cap] 56)
 have HW0 := zh (wd_new (y := y) (ad := ad) (n := 2) (cap := cap) ⟨ad, cap, rfl, hcap, hw, hsz⟩)
 have HB0 := zh hb0
 have HG := zh h
 have HSz := zh hsz
 have HNb := @zNb _ _ _ _ _ h hl ht
 have HKb := @zKb _ _ _ _ _ h hl ht
 have HSb := @zSb _ _ _ _ _ h hl ht
 have HLow := @zLo y
 have HT := zT h ht
 have HEr := zE h hg
 have HGy := zG h
 clear h hcap hw hsz ht hl hg hb0
 have HX := zh hx
 clear hx
 simp only [List.length_cons, List.length_nil, Nat.zero_add, Nat.reduceAdd]
 go_enter Tryz.func26, Tryz.ntmps26
 go_wp2_with fail
 generalize y.alloc (.cells #[.slice ad 2 cap] 56) = Y0 at *
 refine (uh HNb (uh HW0) (uh HB0)).mono ?_
 rintro e Y1 (⟨n', e', rfl, w', k'⟩ | ⟨e', rfl, k'⟩)
 case inl => rw [uh HX] at e'; cases e'
 have HF := zh (did_read (out := .error 3) (uh HG) (uh HLow (uh HB0) k') rfl)
 clear k' e'
 go_wp2
 exact ⟨rfl, uh HF⟩
theorem dk_prop_ok {w y : World} {s : Nat} {M : Nat -> Prop} {st : DkS} {v : Value} (x0 x1 : ByteArray) (ht : Tab w) (hl : Libs w) (hg : ErrorType w) (h : DkG w y s M st) (hv : WsI y v [x0, x1]) (a0 : Int) (q0 : numW x0 = some a0) :
  Calls Tryz.prog 26 #[.pointer (some ⟨s, 0, none⟩), v] y (Did w s M y st (outP (propE st.V a0 x1) (propV st.V a0 x1).data.toList)) := by
 obtain ⟨ad, cap, rfl, hcap, hw, hsz⟩ := hv
 have hb0 := below_box y (.cells #[.slice ad 2 cap] 56)
 have HW0 := zh (wd_new (y := y) (ad := ad) (n := 2) (cap := cap) ⟨ad, cap, rfl, hcap, hw, hsz⟩)
 have HB0 := zh hb0
 have HG := zh h
 have HSz := zh hsz
 have HNb := @zNb _ _ _ _ _ h hl ht
 have HKb := @zKb _ _ _ _ _ h hl ht
 have HSb := @zSb _ _ _ _ _ h hl ht
 have HLow := @zLo y
 have HT := zT h ht
 have HEr := zE h hg
 have HGy := zG h
 clear h hcap hw hsz ht hl hg hb0
 have HE0 := zh q0
 clear q0
 simp only [List.length_cons, List.length_nil, Nat.zero_add, Nat.reduceAdd]
 go_enter Tryz.func26, Tryz.ntmps26
 go_wp2_with fail
 generalize y.alloc (.cells #[.slice ad 2 cap] 56) = Y0 at *
 refine (uh HNb (uh HW0) (uh HB0)).mono ?_
 rintro e Y1 (⟨n', e', rfl, w', k'⟩ | ⟨e', rfl, k'⟩)
 case inr => rw [uh HE0] at e'; cases e'
 rw [uh HE0] at e'
 cases e'
 have HW1 := zh w'
 have HB1 := zh (uh HLow (uh HB0) k')
 clear w' k' HW0 HB0
 go_wp2_with fail
 refine (words_next (uh HW1)).mono ?_
 rintro e Y2 ⟨rfl, w', k'⟩
 have HW2 := zh w'
 have HB2 := zh (uh HLow (uh HB1) k')
 clear w' k' HW1 HB1
 obtain ⟨dm, D, B, ps, F, g, m, X, Nd, Fs, hI, hM⟩ := uh HGy Y2 (uh HB2)
 have c2 := hI.c2
 have HP := zh (q_prop hI.gr a0 (wf_of (numW_wf (uh HE0))) x1)
 have HSu := zh (fun (v : ByteArray) (e0 : Int) W (hb : Below Y2.heap.size Y2 W) => sure_text v e0 W (uh HEr W ((uh HB2).trans (hb.mono (uh HB2).size))))
 clear hI hM
 generalize propV st.V a0 x1 = pv at *
 generalize propE st.V a0 x1 = pe at *
 go_wp2_with fail
 refine (uh HP).mono ?_
 rintro e Z1 ⟨rfl, b1⟩
 have HZ1 := zh b1
 have HS1 := zh (uh HSu pv pe Z1 b1)
 clear b1 HP HSu
 go_wp2_with fail
 refine (uh HS1).mono ?_
 by_cases he : pe = 0
 ·rw [if_pos he]
  rintro e Z2 ⟨rfl, b2⟩
  have HF := zh (did_read (out := outP pe pv.data.toList) (uh HG) ((uh HB2).trans (((uh HZ1).trans (b2.mono (uh HZ1).size)).mono (uh HB2).size)) (e := .returned (.string pv)) (by unfold outP; rw [if_pos he]; rfl))
  clear b2 HS1
  go_wp2
  go_ret
  exact uh HF
 ·rw [if_neg he]
  rintro e Z2 ⟨rfl, b2⟩
  have HF := zh (did_read (out := outP pe pv.data.toList) (uh HG) ((uh HB2).trans (((uh HZ1).trans (b2.mono (uh HZ1).size)).mono (uh HB2).size)) (e := thrown pe) (by unfold outP; rw [if_neg he]; rfl))
  clear b2 HS1
  go_wp2
  exact ⟨rfl, uh HF⟩
theorem dk_hops_bad0 {w y : World} {s : Nat} {M : Nat -> Prop} {st : DkS} {v : Value} (x0 x1 x2 : ByteArray) (ht : Tab w) (hl : Libs w) (hg : ErrorType w) (h : DkG w y s M st) (hv : WsI y v [x0, x1, x2]) (hx : numW x0 = none) :
  Calls Tryz.prog 19 #[.pointer (some ⟨s, 0, none⟩), v] y (Did w s M y st (.error 3)) := by
 obtain ⟨ad, cap, rfl, hcap, hw, hsz⟩ := hv
 have hb0 := below_box y (.cells #[.slice ad 3 cap] 56)
 have HW0 := zh (wd_new (y := y) (ad := ad) (n := 3) (cap := cap) ⟨ad, cap, rfl, hcap, hw, hsz⟩)
 have HB0 := zh hb0
 have HG := zh h
 have HSz := zh hsz
 have HNb := @zNb _ _ _ _ _ h hl ht
 have HKb := @zKb _ _ _ _ _ h hl ht
 have HSb := @zSb _ _ _ _ _ h hl ht
 have HLow := @zLo y
 have HT := zT h ht
 have HEr := zE h hg
 have HGy := zG h
 clear h hcap hw hsz ht hl hg hb0
 have HX := zh hx
 clear hx
 simp only [List.length_cons, List.length_nil, Nat.zero_add, Nat.reduceAdd]
 go_enter Tryz.func19, Tryz.ntmps19
 go_wp2_with fail
 generalize y.alloc (.cells #[.slice ad 3 cap] 56) = Y0 at *
 refine (uh HNb (uh HW0) (uh HB0)).mono ?_
 rintro e Y1 (⟨n', e', rfl, w', k'⟩ | ⟨e', rfl, k'⟩)
 case inl => rw [uh HX] at e'; cases e'
 have HF := zh (did_read (out := .error 3) (uh HG) (uh HLow (uh HB0) k') rfl)
 clear k' e'
 go_wp2
 exact ⟨rfl, uh HF⟩
theorem dk_hops_bad2 {w y : World} {s : Nat} {M : Nat -> Prop} {st : DkS} {v : Value} (x0 x1 x2 : ByteArray) (ht : Tab w) (hl : Libs w) (hg : ErrorType w) (h : DkG w y s M st) (hv : WsI y v [x0, x1, x2]) (a0 : Int) (q0 : numW x0 = some a0) (hx : numW x2 = none) :
  Calls Tryz.prog 19 #[.pointer (some ⟨s, 0, none⟩), v] y (Did w s M y st (.error 3)) := by
 obtain ⟨ad, cap, rfl, hcap, hw, hsz⟩ := hv
 have hb0 := below_box y (.cells #[.slice ad 3 cap] 56)
 have HW0 := zh (wd_new (y := y) (ad := ad) (n := 3) (cap := cap) ⟨ad, cap, rfl, hcap, hw, hsz⟩)
 have HB0 := zh hb0
 have HG := zh h
 have HSz := zh hsz
 have HNb := @zNb _ _ _ _ _ h hl ht
 have HKb := @zKb _ _ _ _ _ h hl ht
 have HSb := @zSb _ _ _ _ _ h hl ht
 have HLow := @zLo y
 have HT := zT h ht
 have HEr := zE h hg
 have HGy := zG h
 clear h hcap hw hsz ht hl hg hb0
 have HE0 := zh q0
 clear q0
 have HX := zh hx
 clear hx
 simp only [List.length_cons, List.length_nil, Nat.zero_add, Nat.reduceAdd]
 go_enter Tryz.func19, Tryz.ntmps19
 go_wp2_with fail
 generalize y.alloc (.cells #[.slice ad 3 cap] 56) = Y0 at *
 refine (uh HNb (uh HW0) (uh HB0)).mono ?_
 rintro e Y1 (⟨n', e', rfl, w', k'⟩ | ⟨e', rfl, k'⟩)
 case inr => rw [uh HE0] at e'; cases e'
 rw [uh HE0] at e'
 cases e'
 have HW1 := zh w'
 have HB1 := zh (uh HLow (uh HB0) k')
 clear w' k' HW0 HB0
 go_wp2_with fail
 refine (words_word (uh HW1)).mono ?_
 rintro e Y2 ⟨rfl, w', k'⟩
 have HW2 := zh w'
 have HB2 := zh (uh HLow (uh HB1) k')
 clear w' k' HW1 HB1
 go_wp2_with fail
 refine (uh HNb (uh HW2) (uh HB2)).mono ?_
 rintro e Y3 (⟨n', e', rfl, w', k'⟩ | ⟨e', rfl, k'⟩)
 case inl => rw [uh HX] at e'; cases e'
 have HF := zh (did_read (out := .error 3) (uh HG) (uh HLow (uh HB2) k') rfl)
 clear k' e'
 go_wp2
 exact ⟨rfl, uh HF⟩
theorem dk_hops_ok {w y : World} {s : Nat} {M : Nat -> Prop} {st : DkS} {v : Value} (x0 x1 x2 : ByteArray) (ht : Tab w) (hl : Libs w) (hg : ErrorType w) (h : DkG w y s M st) (hv : WsI y v [x0, x1, x2]) (a0 : Int) (q0 : numW x0 = some a0) (a2 : Int) (q2 : numW x2 = some a2) :
  Calls Tryz.prog 19 #[.pointer (some ⟨s, 0, none⟩), v] y (Did w s M y st (outP (hopsE st.V a0 a2) ([104, 111, 112, 115, 32] ++ Lib.join ((hopsL st.V st.L (textB x1) a0 a2).map Lib.itoa) [32]))) := by
 obtain ⟨ad, cap, rfl, hcap, hw, hsz⟩ := hv
 have hb0 := below_box y (.cells #[.slice ad 3 cap] 56)
 have HW0 := zh (wd_new (y := y) (ad := ad) (n := 3) (cap := cap) ⟨ad, cap, rfl, hcap, hw, hsz⟩)
 have HB0 := zh hb0
 have HG := zh h
 have HSz := zh hsz
 have HNb := @zNb _ _ _ _ _ h hl ht
 have HKb := @zKb _ _ _ _ _ h hl ht
 have HSb := @zSb _ _ _ _ _ h hl ht
 have HLow := @zLo y
 have HT := zT h ht
 have HEr := zE h hg
 have HGy := zG h
 clear h hcap hw hsz ht hl hg hb0
 have HE0 := zh q0
 clear q0
 have HE2 := zh q2
 clear q2
 simp only [List.length_cons, List.length_nil, Nat.zero_add, Nat.reduceAdd]
 go_enter Tryz.func19, Tryz.ntmps19
 go_wp2_with fail
 generalize y.alloc (.cells #[.slice ad 3 cap] 56) = Y0 at *
 refine (uh HNb (uh HW0) (uh HB0)).mono ?_
 rintro e Y1 (⟨n', e', rfl, w', k'⟩ | ⟨e', rfl, k'⟩)
 case inr => rw [uh HE0] at e'; cases e'
 rw [uh HE0] at e'
 cases e'
 have HW1 := zh w'
 have HB1 := zh (uh HLow (uh HB0) k')
 clear w' k' HW0 HB0
 go_wp2_with fail
 refine (words_word (uh HW1)).mono ?_
 rintro e Y2 ⟨rfl, w', k'⟩
 have HW2 := zh w'
 have HB2 := zh (uh HLow (uh HB1) k')
 clear w' k' HW1 HB1
 go_wp2_with fail
 refine (uh HNb (uh HW2) (uh HB2)).mono ?_
 rintro e Y3 (⟨n', e', rfl, w', k'⟩ | ⟨e', rfl, k'⟩)
 case inr => rw [uh HE2] at e'; cases e'
 rw [uh HE2] at e'
 cases e'
 have HW3 := zh w'
 have HB3 := zh (uh HLow (uh HB2) k')
 clear w' k' HW2 HB2
 obtain ⟨dm, D, B, ps, F, g, m, X, Nd, Fs, hI, hM⟩ := uh HGy Y3 (uh HB3)
 have c2 := hI.c2
 have HP := zh (q_hops hI.gr a0 (wf_of (numW_wf (uh HE0))) (textB x1) a2)
 have HWz : Hid (∀ z, z ∈ hopsL st.V st.L (textB x1) a0 a2 -> -9223372036854775808 <= z /\ z <= 9223372036854775807) := fun z hz => kyOk_int (hI.gr.t.wf z (hops_in hI.gr.t (textB x1) a0 a2 z hz))
 have HLn : Hid ((hopsL st.V st.L (textB x1) a0 a2).length <= 4001) := Nat.le_trans (hops_len hI.gr.t (textB x1) a0 a2) (by decide)
 have HSu := zh (fun p n' c (e0 : Int) W (hb : Below y.heap.size y W) => sure_ints p n' c e0 W (uh HEr W hb))
 clear hI hM
 generalize hopsL st.V st.L (textB x1) a0 a2 = lz at *
 generalize hopsE st.V a0 a2 = pe at *
 go_wp2_with fail
 refine (uh HP).mono ?_
 rintro e Z1 ⟨v1, rfl, r1, b1⟩
 have HZ1 := zh ((uh HB3).trans (b1.mono (uh HB3).size))
 obtain ⟨gr, adr, cr, rfl, hcr⟩ := RowN.cells r1
 have HCr := zh hcr
 have HS1 := zh (uh HSu adr lz.length cr pe Z1 (uh HZ1))
 clear b1 HP HSu r1 hcr
 obtain ⟨ln, hln⟩ : ∃ n, n = lz.length := ⟨_, rfl⟩
 have HLz := zh hln
 rw [<- hln] at HS1 ⊢
 clear hln
 go_wp2_with fail
 refine (uh HS1).mono ?_
 by_cases he : pe = 0
 ·rw [if_pos he]
  rintro e Z2 ⟨rfl, b2⟩
  have HZ2 := zh ((uh HZ1).trans (b2.mono (uh HZ1).size))
  have hTl := tell_ints lz Lib.itoa ⟨#[32]⟩ Z2 adr gr cr (Nat.le_trans (uh HLn) (by decide)) (fun j hj => ⟨(uh HCr j hj).1, there_yet (uh HCr j hj).2 b2⟩) (fun z hz W hb => itoa z W (uh HWz z hz).1 (uh HWz z hz).2 (uh HT W ((uh HZ2).trans (hb.mono (uh HZ2).size)))) (fun z hz => Nat.le_trans (itoa_21 z (uh HWz z hz).1 (uh HWz z hz).2) (by decide)) (by decide)
  rw [<- uh HLz] at hTl
  have HTl := zh hTl
  have hln : (Lib.join (lz.map Lib.itoa) [32]).length <= 1000000 := by
   have h1 := join_le (lz.map Lib.itoa) [32] 21 (fun x hx => by
    obtain ⟨z, hz, rfl⟩ := List.mem_map.1 hx
    exact itoa_21 z (uh HWz z hz).1 (uh HWz z hz).2)
   rw [List.length_map] at h1
   have := uh HLn
   simp only [List.length_cons, List.length_nil] at h1
   omega
  clear b2 HS1 hTl
  obtain ⟨tb, htb⟩ : ∃ tb : ByteArray, tb = ⟨(Lib.join (lz.map Lib.itoa) [32]).toArray⟩ := ⟨_, rfl⟩
  have hts : tb.size <= 1000000 := by rw [htb]; show (Lib.join (lz.map Lib.itoa) [32]).toArray.size <= _; simpa using hln
  have HTb := zh htb
  have hTl2 : Calls Tryz.prog 57 #[.slice adr ln cr, .func (.func 11) #[] #[], .string ⟨#[32]⟩] Z2 fun e w' => e = .returned (.string tb) /\ Below Z2.heap.size Z2 w' := by rw [htb]; exact uh HTl
  have HTl2 := zh hTl2
  clear htb hln hTl2 HTl
  go_wp2_with fail
  refine (uh HTl2).mono ?_
  rintro e Z3 ⟨rfl, b3⟩
  have HF := zh (did_read (out := outP pe ([104, 111, 112, 115, 32] ++ Lib.join (lz.map Lib.itoa) [32])) (uh HG) ((uh HZ2).trans (b3.mono (uh HZ2).size)) (e := .returned (.string (⟨#[104, 111, 112, 115, 32]⟩ ++ tb))) (by
   unfold outP
   rw [if_pos he, uh HTb]
   exact congrArg (fun b => Ending.returned (.string b)) (ByteArray.ext (Array.toList_inj.1 (by simp)))))
  clear HTl2
  clear b3
  go_wp2
  go_ret
  exact uh HF
 ·rw [if_neg he]
  rintro e Z2 ⟨rfl, b2⟩
  have HF := zh (did_read (out := outP pe ([104, 111, 112, 115, 32] ++ Lib.join (lz.map Lib.itoa) [32])) (uh HG) ((uh HZ1).trans (b2.mono (uh HZ1).size)) (e := thrown pe) (by unfold outP; rw [if_neg he]; rfl))
  clear b2 HS1
  go_wp2
  exact ⟨rfl, uh HF⟩
theorem dk_way_bad0 {w y : World} {s : Nat} {M : Nat -> Prop} {st : DkS} {v : Value} (x0 x1 x2 : ByteArray) (ht : Tab w) (hl : Libs w) (hg : ErrorType w) (h : DkG w y s M st) (hv : WsI y v [x0, x1, x2]) (hx : numW x0 = none) :
  Calls Tryz.prog 28 #[.pointer (some ⟨s, 0, none⟩), v] y (Did w s M y st (.error 3)) := by
 obtain ⟨ad, cap, rfl, hcap, hw, hsz⟩ := hv
 have hb0 := below_box y (.cells #[.slice ad 3 cap] 56)
 have HW0 := zh (wd_new (y := y) (ad := ad) (n := 3) (cap := cap) ⟨ad, cap, rfl, hcap, hw, hsz⟩)
 have HB0 := zh hb0
 have HG := zh h
 have HSz := zh hsz
 have HNb := @zNb _ _ _ _ _ h hl ht
 have HKb := @zKb _ _ _ _ _ h hl ht
 have HSb := @zSb _ _ _ _ _ h hl ht
 have HLow := @zLo y
 have HT := zT h ht
 have HEr := zE h hg
 have HGy := zG h
 clear h hcap hw hsz ht hl hg hb0
 have HX := zh hx
 clear hx
 simp only [List.length_cons, List.length_nil, Nat.zero_add, Nat.reduceAdd]
 go_enter Tryz.func28, Tryz.ntmps28
 go_wp2_with fail
 generalize y.alloc (.cells #[.slice ad 3 cap] 56) = Y0 at *
 refine (uh HNb (uh HW0) (uh HB0)).mono ?_
 rintro e Y1 (⟨n', e', rfl, w', k'⟩ | ⟨e', rfl, k'⟩)
 case inl => rw [uh HX] at e'; cases e'
 have HF := zh (did_read (out := .error 3) (uh HG) (uh HLow (uh HB0) k') rfl)
 clear k' e'
 go_wp2
 exact ⟨rfl, uh HF⟩
theorem dk_way_bad1 {w y : World} {s : Nat} {M : Nat -> Prop} {st : DkS} {v : Value} (x0 x1 x2 : ByteArray) (ht : Tab w) (hl : Libs w) (hg : ErrorType w) (h : DkG w y s M st) (hv : WsI y v [x0, x1, x2]) (a0 : Int) (q0 : numW x0 = some a0) (hx : numW x1 = none) :
  Calls Tryz.prog 28 #[.pointer (some ⟨s, 0, none⟩), v] y (Did w s M y st (.error 3)) := by
 obtain ⟨ad, cap, rfl, hcap, hw, hsz⟩ := hv
 have hb0 := below_box y (.cells #[.slice ad 3 cap] 56)
 have HW0 := zh (wd_new (y := y) (ad := ad) (n := 3) (cap := cap) ⟨ad, cap, rfl, hcap, hw, hsz⟩)
 have HB0 := zh hb0
 have HG := zh h
 have HSz := zh hsz
 have HNb := @zNb _ _ _ _ _ h hl ht
 have HKb := @zKb _ _ _ _ _ h hl ht
 have HSb := @zSb _ _ _ _ _ h hl ht
 have HLow := @zLo y
 have HT := zT h ht
 have HEr := zE h hg
 have HGy := zG h
 clear h hcap hw hsz ht hl hg hb0
 have HE0 := zh q0
 clear q0
 have HX := zh hx
 clear hx
 simp only [List.length_cons, List.length_nil, Nat.zero_add, Nat.reduceAdd]
 go_enter Tryz.func28, Tryz.ntmps28
 go_wp2_with fail
 generalize y.alloc (.cells #[.slice ad 3 cap] 56) = Y0 at *
 refine (uh HNb (uh HW0) (uh HB0)).mono ?_
 rintro e Y1 (⟨n', e', rfl, w', k'⟩ | ⟨e', rfl, k'⟩)
 case inr => rw [uh HE0] at e'; cases e'
 rw [uh HE0] at e'
 cases e'
 have HW1 := zh w'
 have HB1 := zh (uh HLow (uh HB0) k')
 clear w' k' HW0 HB0
 go_wp2_with fail
 refine (uh HNb (uh HW1) (uh HB1)).mono ?_
 rintro e Y2 (⟨n', e', rfl, w', k'⟩ | ⟨e', rfl, k'⟩)
 case inl => rw [uh HX] at e'; cases e'
 have HF := zh (did_read (out := .error 3) (uh HG) (uh HLow (uh HB1) k') rfl)
 clear k' e'
 go_wp2
 exact ⟨rfl, uh HF⟩
theorem dk_way_ok {w y : World} {s : Nat} {M : Nat -> Prop} {st : DkS} {v : Value} (x0 x1 x2 : ByteArray) (ht : Tab w) (hl : Libs w) (hg : ErrorType w) (h : DkG w y s M st) (hv : WsI y v [x0, x1, x2]) (a0 : Int) (q0 : numW x0 = some a0) (a1 : Int) (q1 : numW x1 = some a1) (e0 : Int) (lw : List Int) (hLen : lw.length <= 4001) (hN : ∀ z, z ∈ lw -> z ∈ nodesG st.L) (hQ : ∀ {y : World} {g m : Nat} {X : List (Int × Nat)} {Nd : Nat -> Gn} {Fs : Nat -> Nat -> Prop}, GrP y g m st.V st.L X Nd Fs -> Calls Tryz.prog 78 #[.pointer (some ⟨g, 0, none⟩), .int .i64 a0, .int .i64 a1, .string (textB x2)] y fun e w' => ∃ v, e = .returned (.tuple #[v, errV e0]) /\ RowN w' y.heap.size v lw /\ Below y.heap.size y w') :
  Calls Tryz.prog 28 #[.pointer (some ⟨s, 0, none⟩), v] y (Did w s M y st (outP e0 ([119, 97, 121, 32] ++ Lib.join (lw.map Lib.itoa) [32]))) := by
 obtain ⟨ad, cap, rfl, hcap, hw, hsz⟩ := hv
 have hb0 := below_box y (.cells #[.slice ad 3 cap] 56)
 have HW0 := zh (wd_new (y := y) (ad := ad) (n := 3) (cap := cap) ⟨ad, cap, rfl, hcap, hw, hsz⟩)
 have HB0 := zh hb0
 have HG := zh h
 have HSz := zh hsz
 have HNb := @zNb _ _ _ _ _ h hl ht
 have HKb := @zKb _ _ _ _ _ h hl ht
 have HSb := @zSb _ _ _ _ _ h hl ht
 have HLow := @zLo y
 have HT := zT h ht
 have HEr := zE h hg
 have HGy := zG h
 clear h hcap hw hsz ht hl hg hb0
 have HE0 := zh q0
 clear q0
 have HE1 := zh q1
 clear q1
 simp only [List.length_cons, List.length_nil, Nat.zero_add, Nat.reduceAdd]
 go_enter Tryz.func28, Tryz.ntmps28
 go_wp2_with fail
 generalize y.alloc (.cells #[.slice ad 3 cap] 56) = Y0 at *
 refine (uh HNb (uh HW0) (uh HB0)).mono ?_
 rintro e Y1 (⟨n', e', rfl, w', k'⟩ | ⟨e', rfl, k'⟩)
 case inr => rw [uh HE0] at e'; cases e'
 rw [uh HE0] at e'
 cases e'
 have HW1 := zh w'
 have HB1 := zh (uh HLow (uh HB0) k')
 clear w' k' HW0 HB0
 go_wp2_with fail
 refine (uh HNb (uh HW1) (uh HB1)).mono ?_
 rintro e Y2 (⟨n', e', rfl, w', k'⟩ | ⟨e', rfl, k'⟩)
 case inr => rw [uh HE1] at e'; cases e'
 rw [uh HE1] at e'
 cases e'
 have HW2 := zh w'
 have HB2 := zh (uh HLow (uh HB1) k')
 clear w' k' HW1 HB1
 go_wp2_with fail
 refine (words_word (uh HW2)).mono ?_
 rintro e Y3 ⟨rfl, w', k'⟩
 have HW3 := zh w'
 have HB3 := zh (uh HLow (uh HB2) k')
 clear w' k' HW2 HB2
 obtain ⟨dm, D, B, ps, F, g, m, X, Nd, Fs, hI, hM⟩ := uh HGy Y3 (uh HB3)
 have c2 := hI.c2
 have HP := zh (hQ hI.gr)
 have HWz : Hid (∀ z, z ∈ lw -> -9223372036854775808 <= z /\ z <= 9223372036854775807) := fun z hz => kyOk_int (hI.gr.t.wf z (hN z hz))
 have HLn : Hid ((lw).length <= 4001) := hLen
 have HSu := zh (fun p n' c (e0 : Int) W (hb : Below y.heap.size y W) => sure_ints p n' c e0 W (uh HEr W hb))
 clear hI hM
 generalize lw = lz at *
 generalize e0 = pe at *
 go_wp2_with fail
 refine (uh HP).mono ?_
 rintro e Z1 ⟨v1, rfl, r1, b1⟩
 have HZ1 := zh ((uh HB3).trans (b1.mono (uh HB3).size))
 obtain ⟨gr, adr, cr, rfl, hcr⟩ := RowN.cells r1
 have HCr := zh hcr
 have HS1 := zh (uh HSu adr lz.length cr pe Z1 (uh HZ1))
 clear b1 HP HSu r1 hcr
 obtain ⟨ln, hln⟩ : ∃ n, n = lz.length := ⟨_, rfl⟩
 have HLz := zh hln
 rw [<- hln] at HS1 ⊢
 clear hln
 go_wp2_with fail
 refine (uh HS1).mono ?_
 by_cases he : pe = 0
 ·rw [if_pos he]
  rintro e Z2 ⟨rfl, b2⟩
  have HZ2 := zh ((uh HZ1).trans (b2.mono (uh HZ1).size))
  have hTl := tell_ints lz Lib.itoa ⟨#[32]⟩ Z2 adr gr cr (Nat.le_trans (uh HLn) (by decide)) (fun j hj => ⟨(uh HCr j hj).1, there_yet (uh HCr j hj).2 b2⟩) (fun z hz W hb => itoa z W (uh HWz z hz).1 (uh HWz z hz).2 (uh HT W ((uh HZ2).trans (hb.mono (uh HZ2).size)))) (fun z hz => Nat.le_trans (itoa_21 z (uh HWz z hz).1 (uh HWz z hz).2) (by decide)) (by decide)
  rw [<- uh HLz] at hTl
  have HTl := zh hTl
  have hln : (Lib.join (lz.map Lib.itoa) [32]).length <= 1000000 := by
   have h1 := join_le (lz.map Lib.itoa) [32] 21 (fun x hx => by
    obtain ⟨z, hz, rfl⟩ := List.mem_map.1 hx
    exact itoa_21 z (uh HWz z hz).1 (uh HWz z hz).2)
   rw [List.length_map] at h1
   have := uh HLn
   simp only [List.length_cons, List.length_nil] at h1
   omega
  clear b2 HS1 hTl
  obtain ⟨tb, htb⟩ : ∃ tb : ByteArray, tb = ⟨(Lib.join (lz.map Lib.itoa) [32]).toArray⟩ := ⟨_, rfl⟩
  have hts : tb.size <= 1000000 := by rw [htb]; show (Lib.join (lz.map Lib.itoa) [32]).toArray.size <= _; simpa using hln
  have HTb := zh htb
  have hTl2 : Calls Tryz.prog 57 #[.slice adr ln cr, .func (.func 11) #[] #[], .string ⟨#[32]⟩] Z2 fun e w' => e = .returned (.string tb) /\ Below Z2.heap.size Z2 w' := by rw [htb]; exact uh HTl
  have HTl2 := zh hTl2
  clear htb hln hTl2 HTl
  go_wp2_with fail
  refine (uh HTl2).mono ?_
  rintro e Z3 ⟨rfl, b3⟩
  have HF := zh (did_read (out := outP pe ([119, 97, 121, 32] ++ Lib.join (lz.map Lib.itoa) [32])) (uh HG) ((uh HZ2).trans (b3.mono (uh HZ2).size)) (e := .returned (.string (⟨#[119, 97, 121, 32]⟩ ++ tb))) (by
   unfold outP
   rw [if_pos he, uh HTb]
   exact congrArg (fun b => Ending.returned (.string b)) (ByteArray.ext (Array.toList_inj.1 (by simp)))))
  clear HTl2
  clear b3
  go_wp2
  go_ret
  exact uh HF
 ·rw [if_neg he]
  rintro e Z2 ⟨rfl, b2⟩
  have HF := zh (did_read (out := outP pe ([119, 97, 121, 32] ++ Lib.join (lz.map Lib.itoa) [32])) (uh HG) ((uh HZ1).trans (b2.mono (uh HZ1).size)) (e := thrown pe) (by unfold outP; rw [if_neg he]; rfl))
  clear b2 HS1
  go_wp2
  exact ⟨rfl, uh HF⟩
theorem refS_small {txs : List (List Fop)} (h : TxsOk txs) {k : Ky} {c : Nat} {t : Int} (hv : refS txs k c t ≠ ByteArray.empty) : KyOk k /\ k.word.size <= 30000 := by
 rcases Classical.em (∃ l, l ∈ txs /\ ∃ o, o ∈ l /\ kyO o = k) with ⟨l, hl, o, ho, rfl⟩ | q
 ·obtain ⟨h1, h2, _, _⟩ := h.fit hl ho
  exact ⟨h1, Nat.le_trans h2 (by decide)⟩
 ·exact absurd (refS_none (fun l hl o ho e => q ⟨l, hl, o, ho, e⟩) c t) hv
theorem countErr_le (n : Nat) (known a : Int) : 0 <= countErr n known a /\ countErr n known a <= 20 := by
 unfold countErr
 split
 ·decide
 ·split <;> decide
theorem dk_keys_bad0 {w y : World} {s : Nat} {M : Nat -> Prop} {st : DkS} {v : Value} (x0 x1 : ByteArray) (ht : Tab w) (hl : Libs w) (hg : ErrorType w) (h : DkG w y s M st) (hv : WsI y v [x0, x1]) (hx : numW x0 = none) :
  Calls Tryz.prog 20 #[.pointer (some ⟨s, 0, none⟩), v] y (Did w s M y st (.error 3)) := by
 obtain ⟨ad, cap, rfl, hcap, hw, hsz⟩ := hv
 have hb0 := below_box y (.cells #[.slice ad 2 cap] 56)
 have HW0 := zh (wd_new (y := y) (ad := ad) (n := 2) (cap := cap) ⟨ad, cap, rfl, hcap, hw, hsz⟩)
 have HB0 := zh hb0
 have HG := zh h
 have HSz := zh hsz
 have HNb := @zNb _ _ _ _ _ h hl ht
 have HKb := @zKb _ _ _ _ _ h hl ht
 have HSb := @zSb _ _ _ _ _ h hl ht
 have HLow := @zLo y
 have HT := zT h ht
 have HEr := zE h hg
 have HGy := zG h
 clear h hcap hw hsz ht hl hg hb0
 have HX := zh hx
 clear hx
 simp only [List.length_cons, List.length_nil, Nat.zero_add, Nat.reduceAdd]
 go_enter Tryz.func20, Tryz.ntmps20
 go_wp2_with fail
 generalize y.alloc (.cells #[.slice ad 2 cap] 56) = Y0 at *
 refine (uh HNb (uh HW0) (uh HB0)).mono ?_
 rintro e Y1 (⟨n', e', rfl, w', k'⟩ | ⟨e', rfl, k'⟩)
 case inl => rw [uh HX] at e'; cases e'
 have HF := zh (did_read (out := .error 3) (uh HG) (uh HLow (uh HB0) k') rfl)
 clear k' e'
 go_wp2
 exact ⟨rfl, uh HF⟩
theorem dk_keys_bad1 {w y : World} {s : Nat} {M : Nat -> Prop} {st : DkS} {v : Value} (x0 x1 : ByteArray) (ht : Tab w) (hl : Libs w) (hg : ErrorType w) (h : DkG w y s M st) (hv : WsI y v [x0, x1]) (a0 : Int) (q0 : numW x0 = some a0) (hx : numW x1 = none) :
  Calls Tryz.prog 20 #[.pointer (some ⟨s, 0, none⟩), v] y (Did w s M y st (.error 3)) := by
 obtain ⟨ad, cap, rfl, hcap, hw, hsz⟩ := hv
 have hb0 := below_box y (.cells #[.slice ad 2 cap] 56)
 have HW0 := zh (wd_new (y := y) (ad := ad) (n := 2) (cap := cap) ⟨ad, cap, rfl, hcap, hw, hsz⟩)
 have HB0 := zh hb0
 have HG := zh h
 have HSz := zh hsz
 have HNb := @zNb _ _ _ _ _ h hl ht
 have HKb := @zKb _ _ _ _ _ h hl ht
 have HSb := @zSb _ _ _ _ _ h hl ht
 have HLow := @zLo y
 have HT := zT h ht
 have HEr := zE h hg
 have HGy := zG h
 clear h hcap hw hsz ht hl hg hb0
 have HE0 := zh q0
 clear q0
 have HX := zh hx
 clear hx
 simp only [List.length_cons, List.length_nil, Nat.zero_add, Nat.reduceAdd]
 go_enter Tryz.func20, Tryz.ntmps20
 go_wp2_with fail
 generalize y.alloc (.cells #[.slice ad 2 cap] 56) = Y0 at *
 refine (uh HNb (uh HW0) (uh HB0)).mono ?_
 rintro e Y1 (⟨n', e', rfl, w', k'⟩ | ⟨e', rfl, k'⟩)
 case inr => rw [uh HE0] at e'; cases e'
 rw [uh HE0] at e'
 cases e'
 have HW1 := zh w'
 have HB1 := zh (uh HLow (uh HB0) k')
 clear w' k' HW0 HB0
 go_wp2_with fail
 refine (uh HNb (uh HW1) (uh HB1)).mono ?_
 rintro e Y2 (⟨n', e', rfl, w', k'⟩ | ⟨e', rfl, k'⟩)
 case inl => rw [uh HX] at e'; cases e'
 have HF := zh (did_read (out := .error 3) (uh HG) (uh HLow (uh HB1) k') rfl)
 clear k' e'
 go_wp2
 exact ⟨rfl, uh HF⟩
theorem dk_keys_ok {w y : World} {s : Nat} {M : Nat -> Prop} {st : DkS} {v : Value} (x0 x1 : ByteArray) (ht : Tab w) (hl : Libs w) (hg : ErrorType w) (h : DkG w y s M st) (hv : WsI y v [x0, x1]) (a0 : Int) (q0 : numW x0 = some a0) (a1 : Int) (q1 : numW x1 = some a1) (Lk : List Ky) (hU : ∀ Lz, KeyL (stE st.es).1 a0 a1 (keysE (stE st.es).1.length (stE st.es).2 a0 a1) Lz -> Lk = Lz) :
  Calls Tryz.prog 20 #[.pointer (some ⟨s, 0, none⟩), v] y (Did w s M y st (outP (keysE (stE st.es).1.length (stE st.es).2 a0 a1) ([107, 101, 121, 115, 32] ++ Lib.join (Lk.map keyL) [44, 32]))) := by
 obtain ⟨ad, cap, rfl, hcap, hw, hsz⟩ := hv
 have hb0 := below_box y (.cells #[.slice ad 2 cap] 56)
 have HW0 := zh (wd_new (y := y) (ad := ad) (n := 2) (cap := cap) ⟨ad, cap, rfl, hcap, hw, hsz⟩)
 have HB0 := zh hb0
 have HG := zh h
 have HSz := zh hsz
 have HNb := @zNb _ _ _ _ _ h hl ht
 have HKb := @zKb _ _ _ _ _ h hl ht
 have HSb := @zSb _ _ _ _ _ h hl ht
 have HLow := @zLo y
 have HT := zT h ht
 have HEr := zE h hg
 have HGy := zG h
 clear h hcap hw hsz ht hl hg hb0
 have HE0 := zh q0
 clear q0
 have HE1 := zh q1
 clear q1
 simp only [List.length_cons, List.length_nil, Nat.zero_add, Nat.reduceAdd]
 go_enter Tryz.func20, Tryz.ntmps20
 go_wp2_with fail
 generalize y.alloc (.cells #[.slice ad 2 cap] 56) = Y0 at *
 refine (uh HNb (uh HW0) (uh HB0)).mono ?_
 rintro e Y1 (⟨n', e', rfl, w', k'⟩ | ⟨e', rfl, k'⟩)
 case inr => rw [uh HE0] at e'; cases e'
 rw [uh HE0] at e'
 cases e'
 have HW1 := zh w'
 have HB1 := zh (uh HLow (uh HB0) k')
 clear w' k' HW0 HB0
 go_wp2_with fail
 refine (uh HNb (uh HW1) (uh HB1)).mono ?_
 rintro e Y2 (⟨n', e', rfl, w', k'⟩ | ⟨e', rfl, k'⟩)
 case inr => rw [uh HE1] at e'; cases e'
 rw [uh HE1] at e'
 cases e'
 have HW2 := zh w'
 have HB2 := zh (uh HLow (uh HB1) k')
 clear w' k' HW1 HB1
 obtain ⟨dm, D, B, ps, F, g, m, X, Nd, Fs, hI, hM⟩ := uh HGy Y2 (uh HB2)
 have c1 := hI.c1
 have hP := past_keys hI.past a0 a1 (numW_wf (uh HE1)).1 (numW_wf (uh HE1)).2
 have HP := zh hP
 have HOk := zh hI.ok
 have HU := zh hU
 have HSu := zh (fun p n' c (e0 : Int) W (hb : Below y.heap.size y W) => sure_keys p n' c e0 W (uh HEr W hb))
 clear hI hM hP hU
 generalize hpe : keysE (stE st.es).1.length (stE st.es).2 a0 a1 = pe at *
 clear hpe
 go_wp2_with fail
 refine (base_Past _ B).mono ?_
 rintro e Z0 ⟨rfl, hZ0⟩
 subst hZ0
 go_wp2_with fail
 refine (uh HP).mono ?_
 rintro e Z1 ⟨v1, Lz, rfl, r1, hk, b1⟩
 obtain rfl := uh HU Lz hk
 have HKz : Hid (∀ z, z ∈ Lk -> KyOk z /\ z.word.size <= 30000) := fun z hz => refS_small (uh HOk) ((hk.2.1 z).1 hz).2
 have HLn : Hid (Lk.length <= 4001) := Nat.le_trans hk.2.2 (by decide)
 have HZ1 := zh ((uh HB2).trans (b1.mono (uh HB2).size))
 clear hk b1 HP HU HOk
 obtain ⟨gr, adr, cr, rfl, hcr⟩ := RowY.cells r1
 have HCr := zh hcr
 have HS1 := zh (uh HSu adr (Lk).length cr pe Z1 (uh HZ1))
 clear hcr r1
 obtain ⟨ln, hln⟩ : ∃ n, n = (Lk).length := ⟨_, rfl⟩
 have HLz := zh hln
 rw [<- hln] at HS1 ⊢
 clear hln
 go_wp2_with fail
 refine (uh HS1).mono ?_
 by_cases he : pe = 0
 ·rw [if_pos he]
  rintro e Z2 ⟨rfl, b2⟩
  have HZ2 := zh ((uh HZ1).trans (b2.mono (uh HZ1).size))
  have hTl := tell_keys (Lk) keyL ⟨#[44, 32]⟩ Z2 adr gr cr (Nat.le_trans (uh HLn) (by decide)) (fun j hj => ⟨(uh HCr j hj).1, there_yet (uh HCr j hj).2.1 b2, there_yet (uh HCr j hj).2.2.1 b2, there_yet (uh HCr j hj).2.2.2.1 b2, there_yet (uh HCr j hj).2.2.2.2 b2⟩) (fun z hz W hb => key_text z W (uh HKz z hz).1 (uh HKz z hz).2 (uh HT W ((uh HZ2).trans (hb.mono (uh HZ2).size)))) (fun z hz => keyL_le z (uh HKz z hz).1 (uh HKz z hz).2) (by decide)
  rw [<- uh HLz] at hTl
  have HTl := zh hTl
  have hln : (Lib.join ((Lk).map keyL) [44, 32]).length <= 1500000000 := by
   have h1 := join_le ((Lk).map keyL) [44, 32] 200000 (fun x hx => by
    obtain ⟨z, hz, rfl⟩ := List.mem_map.1 hx
    exact (fun z hz => keyL_le z (uh HKz z hz).1 (uh HKz z hz).2) z hz)
   rw [List.length_map] at h1
   have := uh HLn
   simp only [List.length_cons, List.length_nil] at h1
   omega
  obtain ⟨tb, htb⟩ : ∃ tb : ByteArray, tb = ⟨(Lib.join ((Lk).map keyL) [44, 32]).toArray⟩ := ⟨_, rfl⟩
  have hts : tb.size <= 1500000000 := by rw [htb]; show (Lib.join ((Lk).map keyL) [44, 32]).toArray.size <= _; simpa using hln
  have HTb := zh htb
  have hTl2 : Calls Tryz.prog 45 #[.slice adr ln cr, .func (.func 47) #[] #[], .string ⟨#[44, 32]⟩] Z2 fun e w' => e = .returned (.string tb) /\ Below Z2.heap.size Z2 w' := by rw [htb]; exact uh HTl
  have HTl2 := zh hTl2
  clear b2 HS1 hTl htb hln hTl2 HTl
  go_wp2_with fail
  refine (uh HTl2).mono ?_
  rintro e Z3 ⟨rfl, b3⟩
  have HF := zh (did_read (out := outP pe ([107, 101, 121, 115, 32] ++ Lib.join ((Lk).map keyL) [44, 32])) (uh HG) ((uh HZ2).trans (b3.mono (uh HZ2).size)) (e := .returned (.string (⟨#[107, 101, 121, 115, 32]⟩ ++ tb))) (by
   unfold outP
   rw [if_pos he, uh HTb]
   exact congrArg (fun b => Ending.returned (.string b)) (ByteArray.ext (Array.toList_inj.1 (by simp)))))
  clear b3 HTl2
  go_wp2
  go_ret
  exact uh HF
 ·rw [if_neg he]
  rintro e Z2 ⟨rfl, b2⟩
  have HF := zh (did_read (out := outP pe ([107, 101, 121, 115, 32] ++ Lib.join ((Lk).map keyL) [44, 32])) (uh HG) ((uh HZ1).trans (b2.mono (uh HZ1).size)) (e := thrown pe) (by unfold outP; rw [if_neg he]; rfl))
  clear b2 HS1
  go_wp2
  exact ⟨rfl, uh HF⟩
theorem refS_key {txs : List (List Fop)} (h : TxsOk txs) {k : Ky} {c : Nat} {t : Int} (hv : refS txs k c t ≠ ByteArray.empty) : KyOk k /\ keyB k.kind k.a k.word k.b = true := by
 rcases Classical.em (∃ l, l ∈ txs /\ ∃ o, o ∈ l /\ kyO o = k) with ⟨l, hl, o, ho, rfl⟩ | q
 ·refine ⟨(h.fit hl ho).1, ?_⟩
  have hb := (h l hl).2.2 o ho
  unfold opB at hb
  simp only [Bool.and_eq_true] at hb
  exact hb.1.1
 ·exact absurd (refS_none (fun l hl o ho e => q ⟨l, hl, o, ho, e⟩) c t) hv
theorem keysE_zero {n : Nat} {known at_ t : Int} (h : keysE n known at_ t = 0) : countErr n known at_ = 0 /\ timedB t = true := by
 unfold keysE at h
 by_cases hc : countErr n known at_ = 0
 ·rw [if_pos hc] at h
  cases ht : timedB t with
  | true => exact ⟨hc, rfl⟩
  | false => rw [ht] at h; simp at h
 ·rw [if_neg hc] at h
  exact absurd h hc
theorem walk_at_bad {w : World} {P : Pl} {at_ t e0 : Int} (hk : Calls Tryz.prog 61 #[.pointer (some ⟨P.b, P.o, none⟩), .int .i64 at_, .int .i64 t] w fun e w' => ∃ v, e = .returned (.tuple #[v, .iface 25 (.int .i64 e0)]) /\ Below w.heap.size w w') :
  Calls Tryz.prog 38 #[.pointer (some ⟨P.b, P.o, none⟩), .int .i64 at_, .int .i64 t] w fun e w' => e = .returned (.tuple #[.pointer none, .iface 25 (.int .i64 e0)]) /\ Below w.heap.size w w' := by
 have HK := zh hk
 clear hk
 go_enter Tryz.func38, Tryz.ntmps38
 go_wp2_with fail
 refine (uh HK).mono ?_
 rintro e W1 ⟨v, rfl, b1⟩
 go_wp2
 go_ret2
 exact ⟨rfl, b1⟩
section
variable {w y : World} {s dm D B : Nat} {ps : Nat -> ByteArray} {F : Nat -> Prop} {g m : Nat} {X : List (Int × Nat)} {Nd : Nat -> Gn} {Fs : Nat -> Nat -> Prop} {st : DkS}
theorem past_at (h : DkI w y s dm D B ps F g m X Nd Fs st) (a t : Int) (t0 : -9223372036854775808 <= t) (t1 : t <= 9223372036854775807) :
  Calls Tryz.prog 38 #[.pointer (some ⟨B, 1, none⟩), .int .i64 a, .int .i64 t] y fun e y' => (keysE (stE st.es).1.length (stE st.es).2 a t = 0 /\ AtSays y (fun k => refS (stE st.es).1 k a.toNat t) e y') \/ (keysE (stE st.es).1.length (stE st.es).2 a t ≠ 0 /\ e = .returned (.tuple #[.pointer none, .iface 25 (.int .i64 (keysE (stE st.es).1.length (stE st.es).2 a t))]) /\ Below y.heap.size y y') := by
 by_cases he : keysE (stE st.es).1.length (stE st.es).2 a t = 0
 ·obtain ⟨hc, ht⟩ := keysE_zero he
  obtain ⟨h0, h1, h2⟩ := count_zero hc
  have ht' := of_decide_eq_true ht
  exact (walk_At h.past.p h.past.bd a t h0 h1 h2 ht'.1 ht'.2 (fun k hk => refS_key h.ok hk)).mono fun e y' q => .inl ⟨he, q⟩
 ·have key := past_keys h.past a t t0 t1
  rw [errV_some he] at key
  exact (walk_at_bad (P := plB B D st.es.length st.down) (key.mono fun _ _ ⟨u, _, e, _, _, hb⟩ => ⟨u, e, hb⟩)).mono fun e y' ⟨q1, q2⟩ => .inr ⟨he, q1, q2⟩
theorem DkI.look (h : DkI w y s dm D B ps F g m X Nd Fs st) {g' m' : Nat} {V' : Ky -> ByteArray} {L' : List Ky} {X' : List (Int × Nat)} {Nd' : Nat -> Gn} {Fs' : Nat -> Nat -> Prop} (hg : GrP y g' m' V' L' X' Nd' Fs') (hF : ∀ i, graphF g' m' X' Fs' i -> ¬ F i /\ i ≠ D /\ i ≠ s) :
  DkI w (y.setCell ⟨s, 2, none⟩ (.pointer (some ⟨g', 0, none⟩))) s dm D B ps F g' m' X' Nd' Fs' { st with V := V', L := L' } := by
 have hk := keeps_set y s 2 (.pointer (some ⟨g', 0, none⟩))
 refine ⟨?_, ?_, zs _ _ _ h.c2, ?_, fun i => by rw [World.frozen?_setCell]; exact h.f i, h.de.keeps hk (fun e => h.sd e.symm), h.bd.keeps hk (fun i hi e => h.fs (by rw [<- e]; exact hi)) h.ds, hg.keeps hk (fun i hi e => (hF i hi).2.2 e), h.fs, h.fd, h.ds, h.dd, h.sd, hF, h.fge, h.sge, h.dge, h.ok, h.low.setCell h.sge _⟩
 ·rw [zo _ _ _ _ (by simp)]; exact h.c0
 ·rw [zo _ _ _ _ (by simp)]; exact h.c1
 ·rw [zo _ _ _ _ (by simp)]; exact h.c3
end
def atE (st : DkS) (a t : Int) : Int := keysE (stE st.es).1.length (stE st.es).2 a t
def atSt (st : DkS) (a t : Int) (L : List Ky) : DkS := if atE st a t = 0 then { st with V := fun k => refS (stE st.es).1 k a.toNat t, L := L } else st
theorem dk_at_bad0 {w y : World} {s : Nat} {M : Nat -> Prop} {st : DkS} {v : Value} (x0 x1 : ByteArray) (ht : Tab w) (hl : Libs w) (hg : ErrorType w) (h : DkG w y s M st) (hv : WsI y v [x0, x1]) (hx : numW x0 = none) :
  Calls Tryz.prog 12 #[.pointer (some ⟨s, 0, none⟩), v] y (Did w s M y st (.error 3)) := by
 obtain ⟨ad, cap, rfl, hcap, hw, hsz⟩ := hv
 have hb0 := below_box y (.cells #[.slice ad 2 cap] 56)
 have HW0 := zh (wd_new (y := y) (ad := ad) (n := 2) (cap := cap) ⟨ad, cap, rfl, hcap, hw, hsz⟩)
 have HB0 := zh hb0
 have HG := zh h
 have HSz := zh hsz
 have HNb := @zNb _ _ _ _ _ h hl ht
 have HKb := @zKb _ _ _ _ _ h hl ht
 have HSb := @zSb _ _ _ _ _ h hl ht
 have HLow := @zLo y
 have HT := zT h ht
 have HEr := zE h hg
 have HGy := zG h
 clear h hcap hw hsz ht hl hg hb0
 have HX := zh hx
 clear hx
 simp only [List.length_cons, List.length_nil, Nat.zero_add, Nat.reduceAdd]
 go_enter Tryz.func12, Tryz.ntmps12
 go_wp2_with fail
 generalize y.alloc (.cells #[.slice ad 2 cap] 56) = Y0 at *
 refine (uh HNb (uh HW0) (uh HB0)).mono ?_
 rintro e Y1 (⟨n', e', rfl, w', k'⟩ | ⟨e', rfl, k'⟩)
 case inl => rw [uh HX] at e'; cases e'
 have HF := zh (did_read (out := .error 3) (uh HG) (uh HLow (uh HB0) k') rfl)
 clear k' e'
 go_wp2
 exact ⟨rfl, uh HF⟩
theorem dk_at_bad1 {w y : World} {s : Nat} {M : Nat -> Prop} {st : DkS} {v : Value} (x0 x1 : ByteArray) (ht : Tab w) (hl : Libs w) (hg : ErrorType w) (h : DkG w y s M st) (hv : WsI y v [x0, x1]) (a0 : Int) (q0 : numW x0 = some a0) (hx : numW x1 = none) :
  Calls Tryz.prog 12 #[.pointer (some ⟨s, 0, none⟩), v] y (Did w s M y st (.error 3)) := by
 obtain ⟨ad, cap, rfl, hcap, hw, hsz⟩ := hv
 have hb0 := below_box y (.cells #[.slice ad 2 cap] 56)
 have HW0 := zh (wd_new (y := y) (ad := ad) (n := 2) (cap := cap) ⟨ad, cap, rfl, hcap, hw, hsz⟩)
 have HB0 := zh hb0
 have HG := zh h
 have HSz := zh hsz
 have HNb := @zNb _ _ _ _ _ h hl ht
 have HKb := @zKb _ _ _ _ _ h hl ht
 have HSb := @zSb _ _ _ _ _ h hl ht
 have HLow := @zLo y
 have HT := zT h ht
 have HEr := zE h hg
 have HGy := zG h
 clear h hcap hw hsz ht hl hg hb0
 have HE0 := zh q0
 clear q0
 have HX := zh hx
 clear hx
 simp only [List.length_cons, List.length_nil, Nat.zero_add, Nat.reduceAdd]
 go_enter Tryz.func12, Tryz.ntmps12
 go_wp2_with fail
 generalize y.alloc (.cells #[.slice ad 2 cap] 56) = Y0 at *
 refine (uh HNb (uh HW0) (uh HB0)).mono ?_
 rintro e Y1 (⟨n', e', rfl, w', k'⟩ | ⟨e', rfl, k'⟩)
 case inr => rw [uh HE0] at e'; cases e'
 rw [uh HE0] at e'
 cases e'
 have HW1 := zh w'
 have HB1 := zh (uh HLow (uh HB0) k')
 clear w' k' HW0 HB0
 go_wp2_with fail
 refine (uh HNb (uh HW1) (uh HB1)).mono ?_
 rintro e Y2 (⟨n', e', rfl, w', k'⟩ | ⟨e', rfl, k'⟩)
 case inl => rw [uh HX] at e'; cases e'
 have HF := zh (did_read (out := .error 3) (uh HG) (uh HLow (uh HB1) k') rfl)
 clear k' e'
 go_wp2
 exact ⟨rfl, uh HF⟩
theorem dk_at_ok {w y : World} {s : Nat} {M : Nat -> Prop} {st : DkS} {v : Value} (x0 x1 : ByteArray) (ht : Tab w) (hl : Libs w) (hg : ErrorType w) (h : DkG w y s M st) (hv : WsI y v [x0, x1]) (a0 : Int) (q0 : numW x0 = some a0) (a1 : Int) (q1 : numW x1 = some a1) (Lk : List Ky) (hU : ∀ Lz : List Ky, Lz.Pairwise (fun a b => cfY a b < 0) -> (∀ k, k ∈ Lz ↔ refS (stE st.es).1 k a0.toNat a1 ≠ ByteArray.empty) -> Lz = Lk) :
  Calls Tryz.prog 12 #[.pointer (some ⟨s, 0, none⟩), v] y (Did w s M y (atSt st a0 a1 Lk) (outP (atE st a0 a1) [97, 116])) := by
 obtain ⟨ad, cap, rfl, hcap, hw, hsz⟩ := hv
 have hb0 := below_box y (.cells #[.slice ad 2 cap] 56)
 have HW0 := zh (wd_new (y := y) (ad := ad) (n := 2) (cap := cap) ⟨ad, cap, rfl, hcap, hw, hsz⟩)
 have HB0 := zh hb0
 have HG := zh h
 have HSz := zh hsz
 have HNb := @zNb _ _ _ _ _ h hl ht
 have HKb := @zKb _ _ _ _ _ h hl ht
 have HSb := @zSb _ _ _ _ _ h hl ht
 have HLow := @zLo y
 have HT := zT h ht
 have HEr := zE h hg
 have HGy := zG h
 clear h hcap hw hsz ht hl hg hb0
 have HE0 := zh q0
 clear q0
 have HE1 := zh q1
 clear q1
 simp only [List.length_cons, List.length_nil, Nat.zero_add, Nat.reduceAdd]
 go_enter Tryz.func12, Tryz.ntmps12
 go_wp2_with fail
 generalize y.alloc (.cells #[.slice ad 2 cap] 56) = Y0 at *
 refine (uh HNb (uh HW0) (uh HB0)).mono ?_
 rintro e Y1 (⟨n', e', rfl, w', k'⟩ | ⟨e', rfl, k'⟩)
 case inr => rw [uh HE0] at e'; cases e'
 rw [uh HE0] at e'
 cases e'
 have HW1 := zh w'
 have HB1 := zh (uh HLow (uh HB0) k')
 clear w' k' HW0 HB0
 go_wp2_with fail
 refine (uh HNb (uh HW1) (uh HB1)).mono ?_
 rintro e Y2 (⟨n', e', rfl, w', k'⟩ | ⟨e', rfl, k'⟩)
 case inr => rw [uh HE1] at e'; cases e'
 rw [uh HE1] at e'
 cases e'
 have HW2 := zh w'
 have HB2 := zh (uh HLow (uh HB1) k')
 clear w' k' HW1 HB1
 obtain ⟨dm, D, B, ps, F, g, m, X, Nd, Fs, hI, hM⟩ := uh HGy Y2 (uh HB2)
 have c1 := hI.c1
 have HI := zh hI
 have HM := zh hM
 have HP := zh (past_at hI a0 a1 (numW_wf (uh HE1)).1 (numW_wf (uh HE1)).2)
 have HU := zh hU
 have HSu := zh (fun p (e0 : Int) W (hb : Below y.heap.size y W) => sure_graph p e0 W (uh HEr W hb))
 clear hI hM hU
 go_wp2_with fail
 refine (base_Past _ B).mono ?_
 rintro e Z0 ⟨rfl, hZ0⟩
 subst hZ0
 go_wp2_with fail
 refine (uh HP).mono ?_
 rintro e Z1 (⟨he, g', m', L', X', Nd', Fs', rfl, hp, ho, hall, hlen, hfg, b1⟩ | ⟨he, rfl, b1⟩)
 ·have HZ1 := zh ((uh HB2).trans (b1.mono (uh HB2).size))
  have hS := uh HSu (some ⟨g', 0, none⟩) 0 Z1 (uh HZ1)
  rw [if_pos rfl] at hS
  have HS1 := zh hS
  obtain rfl := uh HU L' ho hall
  have HGr : Hid (GrP Z1 g' m' (fun k => refS (stE st.es).1 k a0.toNat a1) L' X' Nd' Fs') := ⟨hp, ⟨hall, fun k hk => refS_key (uh HI).ok ((hall k).1 hk), ho, hlen⟩⟩
  have HFg := zh hfg
  have HI1 := zh ((uh HI).below b1)
  have HSz := zh (uh HI).lt
  have HE := zh he
  clear hS hp ho hall hlen hfg b1 HP HU HSu he
  go_wp2_with fail
  refine (uh HS1).mono ?_
  rintro e Z2 ⟨rfl, b2⟩
  have hI2 := (uh HI1).below b2
  have d2 := hI2.c2
  have f2 := hI2.f 2
  have hL := hI2.look ((uh HGr).below b2) (fun i hi => by
   have q := uh HFg i hi
   refine ⟨fun r => ?_, fun r => ?_, fun r => ?_⟩
   ·have := uh HSz i (.inl r); omega
   ·have := uh HSz i (.inr (.inl r)); omega
   ·have := uh HSz i (.inr (.inr (.inl r))); omega)
  have hbb := (uh HZ1).trans (b2.mono (uh HZ1).size)
  have HF : Hid (Did w s M y (atSt st a0 a1 L') (outP (atE st a0 a1) [97, 116]) (.returned (.string ⟨#[97, 116]⟩)) (Z2.setCell ⟨s, 2, none⟩ (.pointer (some ⟨g', 0, none⟩)))) := by
   have he' : atE st a0 a1 = 0 := uh HE
   rw [show atSt st a0 a1 L' = _ from if_pos he']
   refine ⟨by unfold outP; rw [if_pos he']; rfl, fun i => F i \/ i = D \/ i = s \/ i = dm \/ graphF g' m' X' Fs' i, ⟨_, _, _, _, _, _, _, _, _, _, hL, fun _ => Iff.rfl⟩, ?_, ?_⟩
   ·rintro i (q | q | q | q | q)
    ·exact .inl ((uh HM i).2 (.inl q))
    ·exact .inl ((uh HM i).2 (.inr (.inl q)))
    ·exact .inl ((uh HM i).2 (.inr (.inr (.inl q))))
    ·exact .inl ((uh HM i).2 (.inr (.inr (.inr (.inl q)))))
    ·exact .inr (Nat.le_trans (uh HB2).size (uh HFg i q))
   exact (Keeps.of_below M hbb zr).then (keeps_set _ s 2 _) (fun i _ e => (uh HM i).2 (.inr (.inr (.inl e))))
  clear b2 hI2 hL hbb HS1
  go_wp2
  go_ret
  exact uh HF
 ·have HZ1 := zh ((uh HB2).trans (b1.mono (uh HB2).size))
  have hS := uh HSu none (keysE (stE st.es).1.length (stE st.es).2 a0 a1) Z1 (uh HZ1)
  rw [if_neg he, errV_some he] at hS
  have HS1 := zh hS
  have HE := zh he
  clear hS b1 HP HU HSu he
  generalize hpe : keysE (stE st.es).1.length (stE st.es).2 a0 a1 = pe at *
  go_wp2_with fail
  refine (uh HS1).mono ?_
  rintro e Z2 ⟨rfl, b2⟩
  have HF : Hid (Did w s M y (atSt st a0 a1 Lk) (outP (atE st a0 a1) [97, 116]) (thrown pe) Z2) := by
   have he' : atE st a0 a1 ≠ 0 := fun q => uh HE (hpe ▸ q)
   rw [show atSt st a0 a1 Lk = _ from if_neg he']
   exact did_read (out := outP (atE st a0 a1) [97, 116]) (uh HG) ((uh HZ1).trans (b2.mono (uh HZ1).size)) (e := thrown pe) (by unfold outP; rw [if_neg he']; show thrown pe = thrown (atE st a0 a1); rw [<- hpe]; rfl)
  clear b2 HS1
  go_wp2
  exact ⟨rfl, uh HF⟩
end Go.Proofs.YtbmkmfoaoganeaaGreatDoor

namespace Go.Proofs.YtbmkmfoaoganeaaGreatDoor
open Go.RowKit Go.Maps
def After (w : World) (s : Nat) (M : Nat -> Prop) (y : World) (st' : DkS) (y' : World) : Prop := ∃ M', DkG w y' s M' st' /\ (∀ i, M' i -> M i \/ y.heap.size <= i) /\ Keeps M y y'
theorem After.low {w y y' : World} {s : Nat} {M : Nat -> Prop} {st' : DkS} (h : After w s M y st' y') : Below w.heap.size w y' := by
 obtain ⟨_, h, _, _⟩ := h
 exact h.low
theorem After.below {w y y' y2 : World} {s : Nat} {M : Nat -> Prop} {st' : DkS} (h : After w s M y st' y') (hb : Below y'.heap.size y' y2) : After w s M y st' y2 := by
 obtain ⟨M', h, q, hk⟩ := h
 exact ⟨M', h.below hb, q, hk.then (Keeps.of_below (fun _ => False) hb zr) (fun _ _ f => f.elim)⟩
theorem After.did {w y y' : World} {s : Nat} {M : Nat -> Prop} {st' : DkS} {out : Except Int (List UInt8)} {e : Ending} (h : After w s M y st' y') (he : e = outE out) : Did w s M y st' out e y' := ⟨he, h⟩
theorem After.from {w y y0 y' : World} {s : Nat} {M : Nat -> Prop} {st' : DkS} (hb : Below y.heap.size y y0) (h : After w s M y0 st' y') : After w s M y st' y' := by
 obtain ⟨M', h, q, hk⟩ := h
 exact ⟨M', h, fun i hi => (q i hi).imp id (fun r => Nat.le_trans hb.size r), (Keeps.of_below M hb zr).then hk (fun _ _ q => q)⟩
section
variable {w y y' : World} {s dm D B : Nat} {ps : Nat -> ByteArray} {F : Nat -> Prop} {g m : Nat} {X : List (Int × Nat)} {Nd : Nat -> Gn} {Fs : Nat -> Nat -> Prop} {st : DkS} {M : Nat -> Prop}
theorem DkI.cutting {c : Bool} {l : Int} (h : DkI w y s dm D B ps F g m X Nd Fs st) (hd : DiskW y' D ps c l) (hk : Keeps (· = D) y y') : DkI w y' s dm D B ps F g m X Nd Fs { st with cut := c, left := l } := by
 have hs : s ≠ D := fun e => h.ds e.symm
 have hc : ∀ {i : Nat} {v : Value}, y.cell? ⟨s, i, none⟩ = some v -> y'.cell? ⟨s, i, none⟩ = some v := fun {i v} e => (hk.cell (p := ⟨s, i, none⟩) h.slt hs).trans e
 refine ⟨hc h.c0, hc h.c1, hc h.c2, hc h.c3, fun i => (hk.frozen (p := ⟨s, i, none⟩) h.slt hs).trans (h.f i), h.de.keeps hk (fun q => h.dd q.symm), ⟨h.bd.base.keeps hk (fun i hi q => ?_), hd, h.bd.holds, h.bd.apart, h.bd.most⟩, h.gr.keeps hk (fun i hi q => (h.gF i hi).2.1 q), h.fs, h.fd, h.ds, h.dd, h.sd, h.gF, h.fge, h.sge, h.dge, h.ok, h.low.trans (keeps_below hk (fun i q => by subst q; exact h.dge) h.low.size)⟩
 subst q
 exact h.bd.apart hi
theorem DkI.after_cut {c : Bool} {l : Int} (h : DkI w y s dm D B ps F g m X Nd Fs st) (hM : ∀ i, M i ↔ F i \/ i = D \/ i = s \/ i = dm \/ graphF g m X Fs i) (hd : DiskW y' D ps c l) (hk : Keeps (· = D) y y') : After w s M y { st with cut := c, left := l } y' :=
 ⟨M, ⟨_, _, _, _, _, _, _, _, _, _, h.cutting hd hk, hM⟩, fun _ q => .inl q, hk.mono (fun i _ e => (hM i).2 (.inr (.inl e)))⟩
theorem DkI.went {F' : Nat -> Prop} {ps' : Nat -> ByteArray} {es' : List (List Fop ⊕ Int)} {d' c' : Bool} {l' : Int} (h : DkI w y s dm D B ps F g m X Nd Fs st) (hb : BdW y' B D es' d' ps' c' l' F') (hw : Went y D F F' y') (hok : TxsOk (stE es').1) : DkI w y' s dm D B ps' F' g m X Nd Fs { st with es := es', down := d', cut := c', left := l' } := by
 obtain ⟨w1, hk⟩ := hw
 have hs : ¬ (F s \/ s = D) := fun e => e.elim h.fs (fun e => h.ds e.symm)
 have hc : ∀ {i : Nat} {v : Value}, y.cell? ⟨s, i, none⟩ = some v -> y'.cell? ⟨s, i, none⟩ = some v := fun {i v} e => (hk.cell (p := ⟨s, i, none⟩) h.slt hs).trans e
 have hsl := h.slt
 have hdl := h.de.lt
 have hN : ∀ i, i < y.heap.size -> ¬ F i -> ¬ F' i := fun i hi hn q => by
  rcases w1 i q with r | r
  ·exact hn r
  ·omega
 refine ⟨hc h.c0, hc h.c1, hc h.c2, hc h.c3, fun i => (hk.frozen (p := ⟨s, i, none⟩) h.slt hs).trans (h.f i), h.de.keeps hk (fun q => q.elim h.fd (fun e => h.dd e.symm)), hb, h.gr.keeps hk (fun i hi q => q.elim (h.gF i hi).1 (h.gF i hi).2.1), hN s hsl h.fs, hN dm hdl h.fd, h.ds, h.dd, h.sd, fun i hi => ⟨hN i (h.gr.p.gx.lt i hi) (h.gF i hi).1, (h.gF i hi).2⟩, fun i hi => ?_, h.sge, h.dge, hok, ?_⟩
 ·rcases w1 i hi with r | r
  ·exact h.fge i r
  ·exact Nat.le_trans h.low.size r
 ·exact h.low.trans (keeps_below hk (fun i q => by
   rcases q with q | rfl
   ·exact h.fge i q
   ·exact h.dge) h.low.size)
theorem DkI.after_went {F' : Nat -> Prop} {ps' : Nat -> ByteArray} {es' : List (List Fop ⊕ Int)} {d' c' : Bool} {l' : Int} (h : DkI w y s dm D B ps F g m X Nd Fs st) (hM : ∀ i, M i ↔ F i \/ i = D \/ i = s \/ i = dm \/ graphF g m X Fs i) (hb : BdW y' B D es' d' ps' c' l' F') (hw : Went y D F F' y') (hok : TxsOk (stE es').1) : After w s M y { st with es := es', down := d', cut := c', left := l' } y' := by
 refine ⟨fun i => F' i \/ i = D \/ i = s \/ i = dm \/ graphF g m X Fs i, ⟨_, _, _, _, _, _, _, _, _, _, h.went hb hw hok, fun _ => Iff.rfl⟩, fun i q => ?_, hw.2.mono (fun i _ e => (hM i).2 (e.elim .inl (fun e => .inr (.inl e))))⟩
 rcases q with q | q
 ·rcases hw.1 i q with r | r
  ·exact .inl ((hM i).2 (.inl r))
  ·exact .inr r
 ·exact .inl ((hM i).2 (.inr q))
theorem DkI.went_cell {F' : Nat -> Prop} (h : DkI w y s dm D B ps F g m X Nd Fs st) (hw : Went y D F F' y') : ∀ i v, y.cell? ⟨s, i, none⟩ = some v -> y'.cell? ⟨s, i, none⟩ = some v :=
 fun i _ q => (hw.2.cell (p := ⟨s, i, none⟩) h.slt (fun e => e.elim h.fs (fun e => h.ds e.symm))).trans q
theorem DkI.after_read (h : DkI w y s dm D B ps F g m X Nd Fs st) (hM : ∀ i, M i ↔ F i \/ i = D \/ i = s \/ i = dm \/ graphF g m X Fs i) (hb : Below y.heap.size y y') : After w s M y st y' :=
 ⟨M, ⟨_, _, _, _, _, _, _, _, _, _, h.below hb, hM⟩, fun _ q => .inl q, Keeps.of_below M hb zr⟩
end
def fgE (st : DkS) (a : Int) : Int := if roomE st.es.length st.down = 0 then if a < 0 \/ ((stE st.es).1.length : Int) < a \/ a < (stE st.es).2 then forgetErr (stE st.es).1.length a else if st.cut = true /\ st.left = 0 then 14 else 0 else roomE st.es.length st.down
def fgSt (st : DkS) (a : Int) : DkS := if roomE st.es.length st.down = 0 then if a < 0 \/ ((stE st.es).1.length : Int) < a \/ a < (stE st.es).2 then st else if st.cut = true /\ st.left = 0 then { st with es := st.es, down := true, cut := true, left := 0 } else { st with es := st.es ++ [.inr a], down := false, cut := st.cut, left := nextL st.cut st.left } else st
theorem forgetErr_ne' (n at_ : Int) : forgetErr n at_ ≠ 0 := by
 unfold forgetErr
 split <;> decide
theorem room_lt {es : List (List Fop ⊕ Int)} {down : Bool} (h : roomE es.length down = 0) : down = false /\ es.length < 150 := by
 have hdown : down = false := by
  cases down with
  | true => exact absurd h (by first | decide | (show ¬ (6 : Int) = 0; decide))
  | false => rfl
 subst hdown
 refine ⟨rfl, ?_⟩
 unfold roomE at h
 by_cases q : (150 : Int) <= (es.length : Int)
 ·rw [if_neg (by simp), if_pos q] at h
  exact absurd h (by first | decide | (show ¬ (4 : Int) = 0; decide))
 ·omega
theorem forget_any {w y : World} {s dm D B : Nat} {ps : Nat -> ByteArray} {F : Nat -> Prop} {g m : Nat} {X : List (Int × Nat)} {Nd : Nat -> Gn} {Fs : Nat -> Nat -> Prop} {st : DkS} {M : Nat -> Prop} (h : DkI w y s dm D B ps F g m X Nd Fs st) (hM : ∀ i, M i ↔ F i \/ i = D \/ i = s \/ i = dm \/ graphF g m X Fs i) (ht : Tab w) (hl : Libs w) (a torn : Int) :
  Calls Tryz.prog 53 #[.pointer (some ⟨B, 0, none⟩), .int .i64 a, .int .i64 torn] y fun e y' => e = .returned (errV (fgE st a)) /\ After w s M y (fgSt st a) y' /\ ∀ i v, y.cell? ⟨s, i, none⟩ = some v -> y'.cell? ⟨s, i, none⟩ = some v := by
 have hty := ht.carry h.low
 by_cases hroom : roomE st.es.length st.down = 0
 ·obtain ⟨hdown, hlt⟩ := room_lt hroom
  unfold fgE fgSt
  rw [if_pos hroom, if_pos hroom]
  by_cases hbad : a < 0 \/ ((stE st.es).1.length : Int) < a \/ a < (stE st.es).2
  ·rw [if_pos hbad, if_pos hbad, errV_some (forgetErr_ne' _ _)]
   have hbd := h.bd
   rw [hdown] at hbd
   refine (base_forget_bad hbd hlt a torn hbad).mono ?_
   rintro e y1 ⟨rfl, b1⟩
   exact ⟨rfl, h.after_read hM b1, fun i v q => there_yet q b1⟩
  ·rw [if_neg hbad, if_neg hbad]
   have hbd := h.bd
   rw [hdown] at hbd
   by_cases hoff : st.cut = true /\ st.left = 0
   ·rw [if_pos hoff, if_pos hoff]
    rw [hoff.1, hoff.2] at hbd
    refine (base_forget_off hbd hlt a torn (by omega) (by omega) (by omega) hty).mono ?_
    rintro e y1 ⟨rfl, ps', hb, hw⟩
    exact ⟨rfl, h.after_went hM hb hw h.ok, h.went_cell hw⟩
   ·rw [if_neg hoff, if_neg hoff]
    have hp : st.cut = false \/ st.left ≠ 0 := by
     cases hc : st.cut with
     | false => exact .inl rfl
     | true => exact .inr (fun e => hoff ⟨hc, e⟩)
    refine (base_forget_on hbd hlt a torn (by omega) (by omega) (by omega) hp h.low h.dge ht hl).mono ?_
    rintro e y1 ⟨rfl, F', ps', hb, hw⟩
    have hsn : stE (st.es ++ [.inr a]) = ((stE st.es).1, a) := stE_snoc _ _
    exact ⟨rfl, h.after_went hM hb hw (by rw [hsn]; exact h.ok), h.went_cell hw⟩
 ·unfold fgE fgSt
  rw [if_neg hroom, if_neg hroom, errV_some hroom]
  refine (base_forget_no (base_ready h.bd hroom) a torn).mono ?_
  rintro e y1 ⟨rfl, b1⟩
  exact ⟨rfl, h.after_read hM b1, fun i v q => there_yet q b1⟩
end Go.Proofs.YtbmkmfoaoganeaaGreatDoor
