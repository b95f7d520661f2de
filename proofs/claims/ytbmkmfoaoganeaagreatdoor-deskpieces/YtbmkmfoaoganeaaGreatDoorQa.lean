/- Texts of one proof, one behind the other. -/
import Derived.Test.YtbmkmfoaoganeaaGreatDoorPj
set_option maxRecDepth 100000
set_option maxHeartbeats 16000000
namespace Go.Proofs.YtbmkmfoaoganeaaGreatDoor
open Go.RowKit Go.Maps
theorem dk_ever_bad0 {w y : World} {s : Nat} {M : Nat -> Prop} {st : DkS} {v : Value} (x0 x1 x2 x3 x4 x5 x6 x7 : ByteArray) (ht : Tab w) (hl : Libs w) (hg : ErrorType w) (h : DkG w y s M st) (hv : WsI y v [x0, x1, x2, x3, x4, x5, x6, x7]) (hx : keyW x0 x1 x2 x3 = none) :
  Calls Tryz.prog 16 #[.pointer (some ⟨s, 0, none⟩), v] y (Did w s M y st (.error 3)) := by
 obtain ⟨ad, cap, rfl, hcap, hw, hsz⟩ := hv
 have hb0 := below_box y (.cells #[.slice ad 8 cap] 56)
 have HW0 := zh (wd_new (y := y) (ad := ad) (n := 8) (cap := cap) ⟨ad, cap, rfl, hcap, hw, hsz⟩)
 have HB0 := zh hb0
 have HG := zh h
 have HSz := zh hsz
 have HNb := @zNb _ _ _ _ _ h hl ht
 have HKb := @zKb _ _ _ _ _ h hl ht
 have HSb := @zSb _ _ _ _ _ h hl ht
 have HLow := @zLo y
 have HT := zT h ht
 have HEr := zE h hg
 have HGy := zG h
 clear h hcap hw hsz ht hl hg hb0
 have HX := zh hx
 clear hx
 simp only [List.length_cons, List.length_nil, Nat.zero_add, Nat.reduceAdd]
 go_enter Tryz.func16, Tryz.ntmps16
 go_wp2_with fail
 generalize y.alloc (.cells #[.slice ad 8 cap] 56) = Y0 at *
 refine (uh HKb (uh HW0) (uh HB0)).mono ?_
 rintro e Y1 (⟨n', e', rfl, w', k'⟩ | ⟨e', rfl, k'⟩)
 case inl => rw [uh HX] at e'; cases e'
 have HF := zh (did_read (out := .error 3) (uh HG) (uh HLow (uh HB0) k') rfl)
 clear k' e'
 go_wp2
 exact ⟨rfl, uh HF⟩
theorem dk_ever_bad1 {w y : World} {s : Nat} {M : Nat -> Prop} {st : DkS} {v : Value} (x0 x1 x2 x3 x4 x5 x6 x7 : ByteArray) (ht : Tab w) (hl : Libs w) (hg : ErrorType w) (h : DkG w y s M st) (hv : WsI y v [x0, x1, x2, x3, x4, x5, x6, x7]) (a0 : Ky) (q0 : keyW x0 x1 x2 x3 = some a0) (hx : numW x4 = none) :
  Calls Tryz.prog 16 #[.pointer (some ⟨s, 0, none⟩), v] y (Did w s M y st (.error 3)) := by
 obtain ⟨ad, cap, rfl, hcap, hw, hsz⟩ := hv
 have hb0 := below_box y (.cells #[.slice ad 8 cap] 56)
 have HW0 := zh (wd_new (y := y) (ad := ad) (n := 8) (cap := cap) ⟨ad, cap, rfl, hcap, hw, hsz⟩)
 have HB0 := zh hb0
 have HG := zh h
 have HSz := zh hsz
 have HNb := @zNb _ _ _ _ _ h hl ht
 have HKb := @zKb _ _ _ _ _ h hl ht
 have HSb := @zSb _ _ _ _ _ h hl ht
 have HLow := @zLo y
 have HT := zT h ht
 have HEr := zE h hg
 have HGy := zG h
 clear h hcap hw hsz ht hl hg hb0
 have HE0 := zh q0
 clear q0
 have HX := zh hx
 clear hx
 simp only [List.length_cons, List.length_nil, Nat.zero_add, Nat.reduceAdd]
 go_enter Tryz.func16, Tryz.ntmps16
 go_wp2_with fail
 generalize y.alloc (.cells #[.slice ad 8 cap] 56) = Y0 at *
 refine (uh HKb (uh HW0) (uh HB0)).mono ?_
 rintro e Y1 (⟨n', e', rfl, w', k'⟩ | ⟨e', rfl, k'⟩)
 case inr => rw [uh HE0] at e'; cases e'
 rw [uh HE0] at e'
 cases e'
 have HW1 := zh w'
 have HB1 := zh (uh HLow (uh HB0) k')
 clear w' k' HW0 HB0
 go_wp2_with fail
 refine (uh HNb (uh HW1) (uh HB1)).mono ?_
 rintro e Y2 (⟨n', e', rfl, w', k'⟩ | ⟨e', rfl, k'⟩)
 case inl => rw [uh HX] at e'; cases e'
 have HF := zh (did_read (out := .error 3) (uh HG) (uh HLow (uh HB1) k') rfl)
 clear k' e'
 go_wp2
 exact ⟨rfl, uh HF⟩
theorem dk_ever_bad2 {w y : World} {s : Nat} {M : Nat -> Prop} {st : DkS} {v : Value} (x0 x1 x2 x3 x4 x5 x6 x7 : ByteArray) (ht : Tab w) (hl : Libs w) (hg : ErrorType w) (h : DkG w y s M st) (hv : WsI y v [x0, x1, x2, x3, x4, x5, x6, x7]) (a0 : Ky) (q0 : keyW x0 x1 x2 x3 = some a0) (a1 : Int) (q1 : numW x4 = some a1) (hx : numW x5 = none) :
  Calls Tryz.prog 16 #[.pointer (some ⟨s, 0, none⟩), v] y (Did w s M y st (.error 3)) := by
 obtain ⟨ad, cap, rfl, hcap, hw, hsz⟩ := hv
 have hb0 := below_box y (.cells #[.slice ad 8 cap] 56)
 have HW0 := zh (wd_new (y := y) (ad := ad) (n := 8) (cap := cap) ⟨ad, cap, rfl, hcap, hw, hsz⟩)
 have HB0 := zh hb0
 have HG := zh h
 have HSz := zh hsz
 have HNb := @zNb _ _ _ _ _ h hl ht
 have HKb := @zKb _ _ _ _ _ h hl ht
 have HSb := @zSb _ _ _ _ _ h hl ht
 have HLow := @zLo y
 have HT := zT h ht
 have HEr := zE h hg
 have HGy := zG h
 clear h hcap hw hsz ht hl hg hb0
 have HE0 := zh q0
 clear q0
 have HE1 := zh q1
 clear q1
 have HX := zh hx
 clear hx
 simp only [List.length_cons, List.length_nil, Nat.zero_add, Nat.reduceAdd]
 go_enter Tryz.func16, Tryz.ntmps16
 go_wp2_with fail
 generalize y.alloc (.cells #[.slice ad 8 cap] 56) = Y0 at *
 refine (uh HKb (uh HW0) (uh HB0)).mono ?_
 rintro e Y1 (⟨n', e', rfl, w', k'⟩ | ⟨e', rfl, k'⟩)
 case inr => rw [uh HE0] at e'; cases e'
 rw [uh HE0] at e'
 cases e'
 have HW1 := zh w'
 have HB1 := zh (uh HLow (uh HB0) k')
 clear w' k' HW0 HB0
 go_wp2_with fail
 refine (uh HNb (uh HW1) (uh HB1)).mono ?_
 rintro e Y2 (⟨n', e', rfl, w', k'⟩ | ⟨e', rfl, k'⟩)
 case inr => rw [uh HE1] at e'; cases e'
 rw [uh HE1] at e'
 cases e'
 have HW2 := zh w'
 have HB2 := zh (uh HLow (uh HB1) k')
 clear w' k' HW1 HB1
 go_wp2_with fail
 refine (uh HNb (uh HW2) (uh HB2)).mono ?_
 rintro e Y3 (⟨n', e', rfl, w', k'⟩ | ⟨e', rfl, k'⟩)
 case inl => rw [uh HX] at e'; cases e'
 have HF := zh (did_read (out := .error 3) (uh HG) (uh HLow (uh HB2) k') rfl)
 clear k' e'
 go_wp2
 exact ⟨rfl, uh HF⟩
theorem dk_ever_bad3 {w y : World} {s : Nat} {M : Nat -> Prop} {st : DkS} {v : Value} (x0 x1 x2 x3 x4 x5 x6 x7 : ByteArray) (ht : Tab w) (hl : Libs w) (hg : ErrorType w) (h : DkG w y s M st) (hv : WsI y v [x0, x1, x2, x3, x4, x5, x6, x7]) (a0 : Ky) (q0 : keyW x0 x1 x2 x3 = some a0) (a1 : Int) (q1 : numW x4 = some a1) (a2 : Int) (q2 : numW x5 = some a2) (hx : numW x6 = none \/ numW x7 = none) :
  Calls Tryz.prog 16 #[.pointer (some ⟨s, 0, none⟩), v] y (Did w s M y st (.error 3)) := by
 obtain ⟨ad, cap, rfl, hcap, hw, hsz⟩ := hv
 have hb0 := below_box y (.cells #[.slice ad 8 cap] 56)
 have HW0 := zh (wd_new (y := y) (ad := ad) (n := 8) (cap := cap) ⟨ad, cap, rfl, hcap, hw, hsz⟩)
 have HB0 := zh hb0
 have HG := zh h
 have HSz := zh hsz
 have HNb := @zNb _ _ _ _ _ h hl ht
 have HKb := @zKb _ _ _ _ _ h hl ht
 have HSb := @zSb _ _ _ _ _ h hl ht
 have HLow := @zLo y
 have HT := zT h ht
 have HEr := zE h hg
 have HGy := zG h
 clear h hcap hw hsz ht hl hg hb0
 have HE0 := zh q0
 clear q0
 have HE1 := zh q1
 clear q1
 have HE2 := zh q2
 clear q2
 have HX := zh hx
 clear hx
 simp only [List.length_cons, List.length_nil, Nat.zero_add, Nat.reduceAdd]
 go_enter Tryz.func16, Tryz.ntmps16
 go_wp2_with fail
 generalize y.alloc (.cells #[.slice ad 8 cap] 56) = Y0 at *
 refine (uh HKb (uh HW0) (uh HB0)).mono ?_
 rintro e Y1 (⟨n', e', rfl, w', k'⟩ | ⟨e', rfl, k'⟩)
 case inr => rw [uh HE0] at e'; cases e'
 rw [uh HE0] at e'
 cases e'
 have HW1 := zh w'
 have HB1 := zh (uh HLow (uh HB0) k')
 clear w' k' HW0 HB0
 go_wp2_with fail
 refine (uh HNb (uh HW1) (uh HB1)).mono ?_
 rintro e Y2 (⟨n', e', rfl, w', k'⟩ | ⟨e', rfl, k'⟩)
 case inr => rw [uh HE1] at e'; cases e'
 rw [uh HE1] at e'
 cases e'
 have HW2 := zh w'
 have HB2 := zh (uh HLow (uh HB1) k')
 clear w' k' HW1 HB1
 go_wp2_with fail
 refine (uh HNb (uh HW2) (uh HB2)).mono ?_
 rintro e Y3 (⟨n', e', rfl, w', k'⟩ | ⟨e', rfl, k'⟩)
 case inr => rw [uh HE2] at e'; cases e'
 rw [uh HE2] at e'
 cases e'
 have HW3 := zh w'
 have HB3 := zh (uh HLow (uh HB2) k')
 clear w' k' HW2 HB2
 go_wp2_with fail
 refine (uh HSb (uh HW3) (uh HB3)).mono ?_
 rintro e Y4 (⟨n', m', e', e2', rfl, w', k'⟩ | ⟨e', rfl, k'⟩)
 case inl => (rcases uh HX with q | q; (rw [q] at e'; cases e'); (rw [q] at e2'; cases e2'))
 have HF := zh (did_read (out := .error 3) (uh HG) (uh HLow (uh HB3) k') rfl)
 clear k' e'
 go_wp2
 exact ⟨rfl, uh HF⟩
theorem dk_ever_ok {w y : World} {s : Nat} {M : Nat -> Prop} {st : DkS} {v : Value} (x0 x1 x2 x3 x4 x5 x6 x7 : ByteArray) (ht : Tab w) (hl : Libs w) (hg : ErrorType w) (h : DkG w y s M st) (hv : WsI y v [x0, x1, x2, x3, x4, x5, x6, x7]) (a0 : Ky) (q0 : keyW x0 x1 x2 x3 = some a0) (a1 : Int) (q1 : numW x4 = some a1) (a2 : Int) (q2 : numW x5 = some a2) (a3 b3 : Int) (q3 : numW x6 = some a3 /\ numW x7 = some b3) (Lk : List (List UInt8)) (hU : ∀ Lz, EverL (stE st.es).1 a0 a1 a2 a3 b3 (everE (stE st.es).1.length (stE st.es).2 a0 a1 a2 a3 b3) Lz -> Lk = Lz) :
  Calls Tryz.prog 16 #[.pointer (some ⟨s, 0, none⟩), v] y (Did w s M y st (outP (everE (stE st.es).1.length (stE st.es).2 a0 a1 a2 a3 b3) ([101, 118, 101, 114, 32] ++ Lib.join Lk [32]))) := by
 obtain ⟨ad, cap, rfl, hcap, hw, hsz⟩ := hv
 have hb0 := below_box y (.cells #[.slice ad 8 cap] 56)
 have HW0 := zh (wd_new (y := y) (ad := ad) (n := 8) (cap := cap) ⟨ad, cap, rfl, hcap, hw, hsz⟩)
 have HB0 := zh hb0
 have HG := zh h
 have HSz := zh hsz
 have HNb := @zNb _ _ _ _ _ h hl ht
 have HKb := @zKb _ _ _ _ _ h hl ht
 have HSb := @zSb _ _ _ _ _ h hl ht
 have HLow := @zLo y
 have HT := zT h ht
 have HEr := zE h hg
 have HGy := zG h
 clear h hcap hw hsz ht hl hg hb0
 have HE0 := zh q0
 clear q0
 have HE1 := zh q1
 clear q1
 have HE2 := zh q2
 clear q2
 have HE3 := zh q3
 clear q3
 simp only [List.length_cons, List.length_nil, Nat.zero_add, Nat.reduceAdd]
 go_enter Tryz.func16, Tryz.ntmps16
 go_wp2_with fail
 generalize y.alloc (.cells #[.slice ad 8 cap] 56) = Y0 at *
 refine (uh HKb (uh HW0) (uh HB0)).mono ?_
 rintro e Y1 (⟨n', e', rfl, w', k'⟩ | ⟨e', rfl, k'⟩)
 case inr => rw [uh HE0] at e'; cases e'
 rw [uh HE0] at e'
 cases e'
 have HW1 := zh w'
 have HB1 := zh (uh HLow (uh HB0) k')
 clear w' k' HW0 HB0
 go_wp2_with fail
 refine (uh HNb (uh HW1) (uh HB1)).mono ?_
 rintro e Y2 (⟨n', e', rfl, w', k'⟩ | ⟨e', rfl, k'⟩)
 case inr => rw [uh HE1] at e'; cases e'
 rw [uh HE1] at e'
 cases e'
 have HW2 := zh w'
 have HB2 := zh (uh HLow (uh HB1) k')
 clear w' k' HW1 HB1
 go_wp2_with fail
 refine (uh HNb (uh HW2) (uh HB2)).mono ?_
 rintro e Y3 (⟨n', e', rfl, w', k'⟩ | ⟨e', rfl, k'⟩)
 case inr => rw [uh HE2] at e'; cases e'
 rw [uh HE2] at e'
 cases e'
 have HW3 := zh w'
 have HB3 := zh (uh HLow (uh HB2) k')
 clear w' k' HW2 HB2
 go_wp2_with fail
 refine (uh HSb (uh HW3) (uh HB3)).mono ?_
 rintro e Y4 (⟨n', m', e', e2', rfl, w', k'⟩ | ⟨e', rfl, k'⟩)
 case inr => (rcases e' with e' | e'; (rw [(uh HE3).1] at e'; cases e'); (rw [(uh HE3).2] at e'; cases e'))
 rw [(uh HE3).1] at e'
 rw [(uh HE3).2] at e2'
 cases e'
 cases e2'
 have HW4 := zh w'
 have HB4 := zh (uh HLow (uh HB3) k')
 clear w' k' HW3 HB3
 go_upto_region 2 with fail
 have hb0 := below_box Y4 (.cells #[.int .i64 a0.kind, .int .i64 a0.a, .string a0.word, .int .i64 a0.b] 73)
 have hbx := boxK_new Y4 a0
 have hb1 := below_box (Y4.alloc (.cells #[.int .i64 a0.kind, .int .i64 a0.a, .string a0.word, .int .i64 a0.b] 73)) (.cells #[.int .i64 a3, .int .i64 b3] 79)
 have hs0 : ((Y4.alloc (.cells #[.int .i64 a0.kind, .int .i64 a0.a, .string a0.word, .int .i64 a0.b] 73)).alloc (.cells #[.int .i64 a3, .int .i64 b3] 79)).cell? ⟨Y4.heap.size + 1, 0, none⟩ = some (.int .i64 a3) := by
  rw [show Y4.heap.size + 1 = (Y4.alloc (.cells #[.int .i64 a0.kind, .int .i64 a0.a, .string a0.word, .int .i64 a0.b] 73)).heap.size by simp]
  simp
 have hs1 : ((Y4.alloc (.cells #[.int .i64 a0.kind, .int .i64 a0.a, .string a0.word, .int .i64 a0.b] 73)).alloc (.cells #[.int .i64 a3, .int .i64 b3] 79)).cell? ⟨Y4.heap.size + 1, 1, none⟩ = some (.int .i64 b3) := by
  rw [show Y4.heap.size + 1 = (Y4.alloc (.cells #[.int .i64 a0.kind, .int .i64 a0.a, .string a0.word, .int .i64 a0.b] 73)).heap.size by simp]
  simp
 have hbx := hbx.below hb1
 have hb2 := hb0.trans (hb1.mono hb0.size)
 have HY0 := zh ((uh HB4).trans (hb2.mono (uh HB4).size))
 clear hb0 hb1 hb2
 generalize (Y4.alloc (.cells #[.int .i64 a0.kind, .int .i64 a0.a, .string a0.word, .int .i64 a0.b] 73)).alloc (.cells #[.int .i64 a3, .int .i64 b3] 79) = W0 at *
 obtain ⟨dm, D, B, ps, F, g, m, X, Nd, Fs, hI, hM⟩ := uh HGy W0 (uh HY0)
 have HI := zh (fun W (hb : Below W0.heap.size W0 W) => hI.below hb)
 have HSx : Hid (∀ W, Below W0.heap.size W0 W -> W.cell? ⟨s, 1, none⟩ = some (.pointer (some ⟨B, 0, none⟩)) /\ W.cell? ⟨Y4.heap.size, 0, none⟩ = some (.int .i64 a0.kind) /\ W.cell? ⟨Y4.heap.size, 1, none⟩ = some (.int .i64 a0.a) /\ W.cell? ⟨Y4.heap.size, 2, none⟩ = some (.string a0.word) /\ W.cell? ⟨Y4.heap.size, 3, none⟩ = some (.int .i64 a0.b) /\ W.cell? ⟨Y4.heap.size + 1, 0, none⟩ = some (.int .i64 a3) /\ W.cell? ⟨Y4.heap.size + 1, 1, none⟩ = some (.int .i64 b3)) := fun W hb => ⟨(hI.below hb).c1, (hbx.below hb).c0, (hbx.below hb).c1, (hbx.below hb).c2, (hbx.below hb).c3, there_yet hs0 hb, there_yet hs1 hb⟩
 have HKy := zh (keyW_ok (uh HE0) (uh HSz x2 (by simp)))
 have HBd := zh (below_drew W0)
 have HEw := zh (fun W (hb : Below W0.heap.size W0 W) => uh HEr W ((uh HY0).trans (hb.mono (uh HY0).size)))
 clear hI hM hbx hs0 hs1
 have HP := zh (past_ever (uh HI _ (uh HBd)).past a0 (uh HKy) a1 a2 a3 b3)
 have HU := zh hU
 have HOk := zh (uh HI _ (uh HBd)).past
 clear hU
 generalize hpe : everE (stE st.es).1.length (stE st.es).2 a0 a1 a2 a3 b3 = pe at *
 clear hpe
 refine wp_region_held_drew (S := fun W => W.cell? ⟨s, 1, none⟩ = some (.pointer (some ⟨B, 0, none⟩)) /\ W.cell? ⟨Y4.heap.size, 0, none⟩ = some (.int .i64 a0.kind) /\ W.cell? ⟨Y4.heap.size, 1, none⟩ = some (.int .i64 a0.a) /\ W.cell? ⟨Y4.heap.size, 2, none⟩ = some (.string a0.word) /\ W.cell? ⟨Y4.heap.size, 3, none⟩ = some (.int .i64 a0.b) /\ W.cell? ⟨Y4.heap.size + 1, 0, none⟩ = some (.int .i64 a3) /\ W.cell? ⟨Y4.heap.size + 1, 1, none⟩ = some (.int .i64 b3)) (by kernel_rfl) (uh HSx _ (uh HBd)) (fun hHeld => ?_)
 refine takeH 0 (h := ?_)
 try simp only [Act.put, sI, sZ, sS]
 refine takeH 1 (h := ?_)
 try simp only [Act.put, sI, sZ, sS]
 refine takeH 2 (h := ?_)
 try simp only [Act.put, sI, sZ, sS]
 refine takeH 3 (h := ?_)
 try simp only [Act.put, sI, sZ, sS]
 refine takeH 5 (h := ?_)
 try simp only [Act.put, sI, sZ, sS]
 refine takeH 6 (h := ?_)
 try simp only [Act.put, sI, sZ, sS]
 refine takeH 7 (h := ?_)
 try simp only [Act.put, sI, sZ, sS]
 refine takeH 8 (h := ?_)
 try simp only [Act.put, sI, sZ, sS]
 refine readyH 4 (h := fun K hK => ?_)
 go_simp
 refine (base_Past _ B).mono ?_
 rintro e Z0 ⟨rfl, hZ0⟩
 subst hZ0
 refine hK.out _ _ (uh HSx _ (uh HBd)) (fun hHeld => ?_)
 clear hK K
 try simp only [Act.put, sI, sZ, sS]
 refine readyH 9 (h := fun K hK => ?_)
 go_simp
 refine (uh HP).mono ?_
 rintro e Z1 ⟨v1, Lz, rfl, r1, hk, b1⟩
 obtain rfl := uh HU Lz hk
 have HZ1 := zh ((uh HBd).trans (b1.mono (uh HBd).size))
 obtain ⟨fw1, fw2⟩ := ever_few (uh HOk).ok (uh HOk).most hk
 have HLn : Hid (Lk.length <= 4001) := fw1
 have HLe : Hid (∀ z, z ∈ Lk -> z.length <= 200000) := fun z hz => Nat.le_trans (fw2 z hz) (by decide)
 clear hk b1 HP HU HOk fw1 fw2
 obtain ⟨adr, cr, rfl⟩ := RowT.slice r1
 have HCr := zh r1
 have HS1 := zh (sure_texts adr Lk.length cr pe Z1 (uh HEw Z1 (uh HZ1)))
 clear r1
 obtain ⟨ln, hln⟩ : ∃ n, n = Lk.length := ⟨_, rfl⟩
 rw [<- hln] at HS1 HCr ⊢
 clear hln
 refine hK.out _ _ (uh HSx Z1 (uh HZ1)) (fun hHeld => ?_)
 clear hK K
 try simp only [Act.put, sI, sZ, sS]
 refine takeH 10 (h := ?_)
 try simp only [Act.put, sI, sZ, sS]
 refine takeH 11 (h := ?_)
 try simp only [Act.put, sI, sZ, sS]
 refine readyH 12 (h := fun K hK => ?_)
 go_simp
 refine (uh HS1).mono ?_
 by_cases he : pe = 0
 ·rw [if_pos he]
  rintro e Z2 ⟨rfl, b2⟩
  have HZ2 := zh ((uh HZ1).trans (b2.mono (uh HZ1).size))
  have hTl := row_join ((uh HCr).carry b2) ⟨#[32]⟩ (Nat.le_trans (uh HLn) (by decide)) (uh HLe) (by decide)
  have hln : (Lib.join Lk [32]).length <= 1500000000 := by
   have h1 := join_le Lk [32] 200000 (uh HLe)
   have := uh HLn
   simp only [List.length_cons, List.length_nil] at h1
   omega
  obtain ⟨tb, htb⟩ : ∃ tb : ByteArray, tb = ⟨(Lib.join Lk [32]).toArray⟩ := ⟨_, rfl⟩
  have hts : tb.size <= 1500000000 := by rw [htb]; show (Lib.join Lk [32]).toArray.size <= _; simpa using hln
  have HTb := zh htb
  have hTl2 : Calls Tryz.prog 50 #[.slice adr ln cr, .string ⟨#[32]⟩] Z2 fun e w' => e = .returned (.string tb) /\ Below Z2.heap.size Z2 w' := by rw [htb]; exact hTl
  have HTl2 := zh hTl2
  clear b2 HS1 hTl htb hln hTl2 HCr
  refine hK.out _ _ (uh HSx Z2 (uh HZ2)) (fun hHeld => ?_)
  clear hK K
  try simp only [Act.put, sI, sZ, sS]
  refine readyH 13 (h := fun K hK => ?_)
  go_simp
  refine (uh HTl2).mono ?_
  rintro e Z3 ⟨rfl, b3⟩
  have HZ3 := zh ((uh HZ2).trans (b3.mono (uh HZ2).size))
  have HF := zh (did_read (out := outP pe ([101, 118, 101, 114, 32] ++ Lib.join (Lk) [32])) (uh HG) ((uh HY0).trans ((uh HZ3).mono (uh HY0).size)) (e := .returned (.string (⟨#[101, 118, 101, 114, 32]⟩ ++ tb))) (by
   unfold outP
   rw [if_pos he, uh HTb]
   exact congrArg (fun b => Ending.returned (.string b)) (ByteArray.ext (Array.toList_inj.1 (by simp)))))
  clear b3 HTl2
  refine hK.out _ _ (uh HSx Z3 (uh HZ3)) (fun hHeld => ?_)
  clear hK K
  try simp only [Act.put, sI, sZ, sS]
  refine readyH 14 (h := fun K hK => ?_)
  go_simp
  rw [if_neg (by omega)]
  try simp only [Result.andThen]
  refine hK.out _ _ (uh HSx Z3 (uh HZ3)) (fun hHeld => ?_)
  clear hK K
  try simp only [Act.put, sI, sZ, sS]
  refine takeH 15 (h := ?_)
  try simp only [Act.put, sI, sZ, sS]
  refine wpAnyH_done (by kernel_rfl) ?_ _
  clear hHeld
  go_wp2
  go_ret
  exact uh HF
 ·rw [if_neg he]
  rintro e Z2 ⟨rfl, b2⟩
  have hz := (uh HZ1).trans (b2.mono (uh HZ1).size)
  have HF := zh (did_read (out := outP pe ([101, 118, 101, 114, 32] ++ Lib.join (Lk) [32])) (uh HG) ((uh HY0).trans (hz.mono (uh HY0).size)) (e := thrown pe) (by unfold outP; rw [if_neg he]; rfl))
  clear b2 HS1 hK hz
  go_wp2
  exact ⟨rfl, uh HF⟩
section
variable {w y y' : World} {s dm D B : Nat} {ps : Nat -> ByteArray} {F : Nat -> Prop} {g m : Nat} {X : List (Int × Nat)} {Nd : Nat -> Gn} {Fs : Nat -> Nat -> Prop} {st : DkS} {M : Nat -> Prop}
theorem DkI.opened {B' : Nat} {F' : Nat -> Prop} (h : DkI w y s dm D B ps F g m X Nd Fs st) (hB : BaseW y' B' D st.es.length false (stE st.es).1 (stE st.es).2 F') (hF : ∀ i, F' i -> y.heap.size <= i) (hb : Below y.heap.size y y') :
  DkI w (y'.setCell ⟨s, 1, none⟩ (.pointer (some ⟨B', 0, none⟩))) s dm D B' ps F' g m X Nd Fs { st with down := false } := by
 have h1 := h.below hb
 have hk := keeps_set y' s 1 (.pointer (some ⟨B', 0, none⟩))
 have hlt := h.lt
 have hN : ∀ i, i < y.heap.size -> ¬ F' i := fun i hi q => by
  have := hF i q
  omega
 refine ⟨?_, zs _ _ _ h1.c1, ?_, ?_, fun i => by rw [World.frozen?_setCell]; exact h1.f i, h1.de.keeps hk (fun e => h.sd e.symm), ⟨hB.keeps hk (fun i hi e => ?_), h1.bd.disk.keeps hk h.ds, h.bd.holds, hN D (hlt D (.inr (.inl rfl))), h.bd.most⟩, h1.gr.keeps hk (fun i hi e => (h.gF i hi).2.2 e), hN s h.slt, hN dm h.de.lt, h.ds, h.dd, h.sd, fun i hi => ⟨hN i (hlt i (.inr (.inr (.inr (.inr hi))))), (h.gF i hi).2⟩, fun i hi => Nat.le_trans h.low.size (hF i hi), h.sge, h.dge, h.ok, h1.low.setCell h.sge _⟩
 ·rw [zo _ _ _ _ (by simp)]; exact h1.c0
 ·rw [zo _ _ _ _ (by simp)]; exact h1.c2
 ·rw [zo _ _ _ _ (by simp)]; exact h1.c3
 ·subst e
  exact hN _ h.slt hi
theorem DkI.after_open {B' : Nat} {F' : Nat -> Prop} (h : DkI w y s dm D B ps F g m X Nd Fs st) (hM : ∀ i, M i ↔ F i \/ i = D \/ i = s \/ i = dm \/ graphF g m X Fs i) (hB : BaseW y' B' D st.es.length false (stE st.es).1 (stE st.es).2 F') (hF : ∀ i, F' i -> y.heap.size <= i) (hb : Below y.heap.size y y') :
  After w s M y { st with down := false } (y'.setCell ⟨s, 1, none⟩ (.pointer (some ⟨B', 0, none⟩))) := by
 refine ⟨fun i => F' i \/ i = D \/ i = s \/ i = dm \/ graphF g m X Fs i, ⟨_, _, _, _, _, _, _, _, _, _, h.opened hB hF hb, fun _ => Iff.rfl⟩, fun i q => ?_, (Keeps.of_below M hb zr).then (keeps_set _ s 1 _) (fun i _ e => (hM i).2 (.inr (.inr (.inl e))))⟩
 rcases q with q | q
 ·exact .inr (hF i q)
 ·exact .inl ((hM i).2 (.inr q))
end
theorem After.next {w y y1 y2 : World} {s : Nat} {M M1 : Nat -> Prop} {st2 : DkS} (q1 : ∀ i, M1 i -> M i \/ y.heap.size <= i) (k1 : Keeps M y y1) (h2 : After w s M1 y1 st2 y2) : After w s M y st2 y2 := by
 obtain ⟨M2, g2, q2, k2⟩ := h2
 refine ⟨M2, g2, fun i hi => ?_, k1.then k2 (fun i hi q => ?_)⟩
 ·rcases q2 i hi with q | q
  ·exact q1 i q
  ·exact .inr (Nat.le_trans k1.size q)
 ·rcases q1 i q with r | r
  ·exact r
  ·omega
theorem dk_open_ok {w y : World} {s : Nat} {M : Nat -> Prop} {st : DkS} {v : Value} (ht : Tab w) (hl : Libs w) (hg : ErrorType w) (h : DkG w y s M st) (hv : WsI y v []) :
  Calls Tryz.prog 24 #[.pointer (some ⟨s, 0, none⟩), v] y (Did w s M y { st with down := false, cut := false, left := 0 } (.ok [111, 112, 101, 110])) := by
 obtain ⟨ad, cap, rfl, hcap, hw, hsz⟩ := hv
 obtain ⟨dm, D, B, ps, F, g, m, X, Nd, Fs, hI, hM⟩ := h
 have c0 := hI.c0
 have HI := zh hI
 have HM := zh hM
 have HP := zh (disk_Cut hI.bd.disk (-1) (by decide))
 have HTw := zh ht
 have HLw := zh hl
 have HGw := zh hg
 clear hI hM hcap hw hsz ht hl hg
 simp only [List.length_nil]
 go_enter Tryz.func24, Tryz.ntmps24
 go_wp2_with fail
 refine (uh HP).mono ?_
 rintro e Y1 ⟨rfl, hd, hk⟩
 have hI1 := (uh HI).cutting hd hk
 have d0 := hI1.c0
 have HI1 := zh hI1
 have HK := zh hk
 have HO := zh (base_Open hI1.bd.disk hI1.bd.holds hI1.bd.most ((uh HTw).carry hI1.low) ((uh HLw).carry hI1.low))
 clear hd hk HP hI1
 go_wp2_with fail
 refine (uh HO).mono ?_
 rintro e Y2 ⟨B', F', rfl, hB, hF, b2⟩
 have HI2 := zh ((uh HI1).below b2)
 have hS := sure_base (some ⟨B', 0, none⟩) 0 Y2 ((uh HGw).carry (uh HI2).low)
 rw [if_pos rfl] at hS
 have HS := zh hS
 have HB := zh hB
 have HFn := zh hF
 have HB2 := zh b2
 clear hB hF b2 HO hS
 go_wp2_with fail
 refine (uh HS).mono ?_
 rintro e Y3 ⟨rfl, b3⟩
 have hI3 := (uh HI2).below b3
 have e1 := hI3.c1
 have f1 := hI3.f 1
 have hA := (uh HI1).after_open (M := M) (uh HM) ((uh HB).below b3) (uh HFn) ((uh HB2).trans (b3.mono (uh HB2).size))
 have HF : Hid (Did w s M y { st with down := false, cut := false, left := 0 } (.ok [111, 112, 101, 110]) (.returned (.string ⟨#[111, 112, 101, 110]⟩)) (Y3.setCell ⟨s, 1, none⟩ (.pointer (some ⟨B', 0, none⟩)))) :=
  (After.next (M1 := M) (fun _ q => .inl q) ((uh HK).mono (fun i _ e => (uh HM i).2 (.inr (.inl e)))) hA).did rfl
 clear b3 hI3 hA HS
 go_wp2
 go_ret
 exact uh HF
end Go.Proofs.YtbmkmfoaoganeaaGreatDoor

namespace Go.Proofs.YtbmkmfoaoganeaaGreatDoor
open Go.RowKit Go.Maps
theorem zeros_all : (List.range 150).all (fun j => match Tryz.zeroCells98[j]? with | some (.string s) => decide (s.data = #[]) | _ => false) = true := by kernel_rfl
theorem zeros_at (j : Nat) (hj : j < 150) : Tryz.zeroCells98[j]? = some (.string ⟨#[]⟩) := by
 have h := List.all_eq_true.1 zeros_all j (List.mem_range.2 hj)
 split at h
 ·rename_i s e
  have := of_decide_eq_true h
  rw [e]
  cases s
  dsimp only at this
  rw [this]
 ·cases h
theorem zeros_c : Tryz.zeroCells98[150]? = some (.bool false) := by kernel_rfl
theorem zeros_l : Tryz.zeroCells98[151]? = some (.int .i64 0) := by kernel_rfl
theorem disk_new (w : World) : DiskW (w.alloc (.cells Tryz.zeroCells98 98)) w.heap.size (fun _ => ⟨#[]⟩) false 0 := by
 have key : ∀ j, (w.alloc (.cells Tryz.zeroCells98 98)).cell? ⟨w.heap.size, j, none⟩ = Tryz.zeroCells98[j]? := fun j => by
  unfold World.cell?
  rw [heap_alloc_new]
  rfl
 exact ⟨fun j hj => (key j).trans (zeros_at j hj), (key 150).trans zeros_c, (key 151).trans zeros_l, fun i => by simp, fun j => by show (0 : Nat) < 50000; decide, by decide⟩
structure SitI (w y : World) (s dm : Nat) (v0 v1 v2 : Value) : Prop where
 c0 : y.cell? ⟨s, 0, none⟩ = some v0
 c1 : y.cell? ⟨s, 1, none⟩ = some v1
 c2 : y.cell? ⟨s, 2, none⟩ = some v2
 c3 : y.cell? ⟨s, 3, none⟩ = some (.map (some dm))
 f : ∀ i, y.frozen? ⟨s, i, none⟩ = false
 de : DeedsW y dm s deeds
 sd : s ≠ dm
 sge : w.heap.size <= s
 low : Below w.heap.size w y
theorem SitI.below {w y y' : World} {s dm : Nat} {v0 v1 v2 : Value} (h : SitI w y s dm v0 v1 v2) (hb : Below y.heap.size y y') : SitI w y' s dm v0 v1 v2 :=
 ⟨there_yet h.c0 hb, there_yet h.c1 hb, there_yet h.c2 hb, there_yet h.c3 hb, fun i => ((Keeps.of_below (fun _ => False) hb zr).frozen (p := ⟨s, i, none⟩) (show s < y.heap.size from lt_of_cell h.c0) (fun q => q)).trans (h.f i), h.de.below hb, h.sd, h.sge, h.low.trans (hb.mono h.low.size)⟩
theorem SitI.set0 {w y : World} {s dm : Nat} {v0 v1 v2 : Value} (h : SitI w y s dm v0 v1 v2) (u : Value) : SitI w (y.setCell ⟨s, 0, none⟩ u) s dm u v1 v2 :=
 ⟨zs _ _ _ h.c0, by rw [zo _ _ _ _ (by simp)]; exact h.c1, by rw [zo _ _ _ _ (by simp)]; exact h.c2, by rw [zo _ _ _ _ (by simp)]; exact h.c3, fun i => by rw [World.frozen?_setCell]; exact h.f i, h.de.keeps (keeps_set y s 0 u) (fun e => h.sd e.symm), h.sd, h.sge, h.low.setCell h.sge _⟩
theorem SitI.set1 {w y : World} {s dm : Nat} {v0 v1 v2 : Value} (h : SitI w y s dm v0 v1 v2) (u : Value) : SitI w (y.setCell ⟨s, 1, none⟩ u) s dm v0 u v2 :=
 ⟨by rw [zo _ _ _ _ (by simp)]; exact h.c0, zs _ _ _ h.c1, by rw [zo _ _ _ _ (by simp)]; exact h.c2, by rw [zo _ _ _ _ (by simp)]; exact h.c3, fun i => by rw [World.frozen?_setCell]; exact h.f i, h.de.keeps (keeps_set y s 1 u) (fun e => h.sd e.symm), h.sd, h.sge, h.low.setCell h.sge _⟩
theorem SitI.set2 {w y : World} {s dm : Nat} {v0 v1 v2 : Value} (h : SitI w y s dm v0 v1 v2) (u : Value) : SitI w (y.setCell ⟨s, 2, none⟩ u) s dm v0 v1 u :=
 ⟨by rw [zo _ _ _ _ (by simp)]; exact h.c0, by rw [zo _ _ _ _ (by simp)]; exact h.c1, zs _ _ _ h.c2, by rw [zo _ _ _ _ (by simp)]; exact h.c3, fun i => by rw [World.frozen?_setCell]; exact h.f i, h.de.keeps (keeps_set y s 2 u) (fun e => h.sd e.symm), h.sd, h.sge, h.low.setCell h.sge _⟩
theorem txs_past {w : World} {B D : Nat} {F : Nat -> Prop} (h : BaseW w B D 0 false [] 0 F) : OneP w (plB B D 0 false) [] 0 F := ⟨h, by decide, fun l hl => (by cases hl)⟩
def st0 : DkS := ⟨[], false, false, 0, fun k => refS [] k (0 : Int).toNat 0, []⟩
theorem refS_nil (k : Ky) (c : Nat) (t : Int) : refS [] k c t = ByteArray.empty := by
 unfold refS
 rw [List.take_nil]
 rfl
def Renewed (w : World) (s dm : Nat) (y : World) (e : Ending) (y' : World) : Prop := e = .returned (.string ⟨#[110, 101, 119]⟩) /\ ∃ M', DkG w y' s M' st0 /\ (∀ i, M' i -> i = s \/ i = dm \/ y.heap.size <= i) /\ Keeps (· = s) y y'
theorem renew_ends {w y Y1 Y3 Y6 : World} {s dm D B g m : Nat} {v2 : Value} {F : Nat -> Prop} {X : List (Int × Nat)} {Nd : Nat -> Gn} {Fs : Nat -> Nat -> Prop} {L : List Ky} (hS : SitI w Y6 s dm (.pointer (some ⟨D, 0, none⟩)) (.pointer (some ⟨B, 0, none⟩)) v2) (hs : s < y.heap.size) (hdm : dm < y.heap.size) (hD0 : D = y.heap.size) (hw : w.heap.size <= y.heap.size) (hD : DiskW Y6 D (fun _ => ⟨#[]⟩) false 0) (hB : BaseW Y6 B D 0 false [] 0 F) (hF : ∀ i, F i -> Y1.heap.size <= i) (hy1 : y.heap.size < Y1.heap.size) (hF4 : ∀ i, F i -> i < Y3.heap.size)
  (hgr : GrI Y6 g m (fun k => refS [] k (0 : Int).toNat 0) L X Nd Fs) (hall : ∀ k, k ∈ L ↔ refS [] k (0 : Int).toNat 0 ≠ ByteArray.empty) (hgF : ∀ i, graphF g m X Fs i -> Y3.heap.size <= i) (hy3 : Y1.heap.size <= Y3.heap.size) :
  ∃ M', DkG w (Y6.setCell ⟨s, 2, none⟩ (.pointer (some ⟨g, 0, none⟩))) s M' st0 /\ (∀ i, M' i -> i = s \/ i = dm \/ y.heap.size <= i) := by
 have hL : L = [] := List.eq_nil_iff_forall_not_mem.2 (fun k hk => (hall k).1 hk (refS_nil _ _ _))
 subst hL
 have h2 := hS.set2 (.pointer (some ⟨g, 0, none⟩))
 have hk := keeps_set Y6 s 2 (.pointer (some ⟨g, 0, none⟩))
 refine ⟨fun i => F i \/ i = D \/ i = s \/ i = dm \/ graphF g m X Fs i, ⟨dm, D, B, fun _ => ⟨#[]⟩, F, g, m, X, Nd, Fs, ⟨h2.c0, h2.c1, h2.c2, h2.c3, h2.f, h2.de, ⟨hB.keeps hk (fun i hi e => ?_), hD.keeps hk (show ¬ D = s by omega), holds_nil, fun q => ?_, by decide⟩, ⟨⟨hgr.gx.keeps hk (fun i hi e => ?_), hgr.ids, hgr.nd⟩, ⟨hall, fun k hk => (by cases hk), List.Pairwise.nil, by decide⟩⟩, fun q => ?_, fun q => ?_, by omega, by omega, h2.sd, fun i hi => ?_, fun i hi => ?_, h2.sge, by omega, fun l hl => (by cases hl), h2.low⟩, fun _ => Iff.rfl⟩, ?_⟩
 ·have := hF i hi; omega
 ·have := hF D q; omega
 ·have := hgF i hi; omega
 ·have := hF s q; omega
 ·have := hF dm q; omega
 ·have := hgF i hi
  refine ⟨fun q => ?_, by omega, by omega⟩
  have := hF4 i q
  omega
 ·have := hF i hi; omega
 ·rintro i (q | q | q | q | q)
  ·have := hF i q
   right; right; omega
  ·right; right; omega
  ·exact .inl q
  ·exact .inr (.inl q)
  ·have := hgF i q
   right; right; omega
theorem renew_any {w y : World} {s dm : Nat} {v0 v1 v2 : Value} {ad : Option Addr} {n cap : Nat} (ht : Tab w) (hl : Libs w) (hg : ErrorType w) (h : SitI w y s dm v0 v1 v2) :
  Calls Tryz.prog 21 #[.pointer (some ⟨s, 0, none⟩), .slice ad n cap] y (Renewed w s dm y) := by
 have hb0 := below_box y (.cells Tryz.zeroCells98 98)
 have hsz : (y.alloc (.cells Tryz.zeroCells98 98)).heap.size = y.heap.size + 1 := by simp
 have hsl : s < y.heap.size := lt_of_cell h.c0
 have hI0 := h.below hb0
 have c0 := hI0.c0
 have f0 := hI0.f 0
 have hI1 := hI0.set0 (.pointer (some ⟨y.heap.size, 0, none⟩))
 have hk0 := keeps_set (y.alloc (.cells Tryz.zeroCells98 98)) s 0 (.pointer (some ⟨y.heap.size, 0, none⟩))
 have hD1 := (disk_new y).keeps hk0 (show ¬ y.heap.size = s by omega)
 have HD1 := zh hD1
 have HI1 := zh hI1
 have HH := zh h
 have HK := zh ((Keeps.of_below (· = s) hb0 zr).then hk0 (fun _ _ e => e))
 have hs1 : ((y.alloc (.cells Tryz.zeroCells98 98)).setCell ⟨s, 0, none⟩ (.pointer (some ⟨y.heap.size, 0, none⟩))).heap.size = y.heap.size + 1 := by simp [hsz]
 have HO := zh (base_Open (es := []) hD1 holds_nil (by decide) (ht.carry hI1.low) (hl.carry hI1.low))
 have HGw := zh hg
 have HS1 := zh hs1
 clear h hb0 hI0 hk0 hD1 ht hl hg hI1 hs1 hsz
 have HSl := zh hsl
 clear hsl
 go_enter Tryz.func21, Tryz.ntmps21
 go_upto_region 2 with fail
 generalize (y.alloc (.cells Tryz.zeroCells98 98)).setCell ⟨s, 0, none⟩ (.pointer (some ⟨y.heap.size, 0, none⟩)) = Y1 at *
 have d0 := (uh HI1).c0
 go_wp2_with fail
 refine (uh HO).mono ?_
 rintro e Y2 ⟨B, F, rfl, hB, hF, b2⟩
 have HI2 := zh ((uh HI1).below b2)
 have hS := sure_base (some ⟨B, 0, none⟩) 0 Y2 ((uh HGw).carry (uh HI2).low)
 rw [if_pos rfl] at hS
 have HS := zh hS
 have HB := zh hB
 have HFn := zh hF
 have HB2 := zh b2
 clear hB hF b2 HO hS
 go_wp2_with fail
 refine (uh HS).mono ?_
 rintro e Y3 ⟨rfl, b3⟩
 have hI3 := (uh HI2).below b3
 have e1 := hI3.c1
 have f1 := hI3.f 1
 have hI4 := hI3.set1 (.pointer (some ⟨B, 0, none⟩))
 have hk3 := keeps_set Y3 s 1 (.pointer (some ⟨B, 0, none⟩))
 have hb13 := (uh HB2).trans (b3.mono (uh HB2).size)
 have hB3 := (uh HB).below b3
 have hFs : ∀ i, F i -> ¬ i = s := fun i hi e => by
  have := uh HFn i hi
  have := uh HS1
  have := uh HSl
  omega
 have HB4 := zh (hB3.keeps hk3 hFs)
 have HD4 := zh (((uh HD1).below hb13).keeps hk3 (show ¬ y.heap.size = s from fun e => by have := uh HSl; omega))
 have HFl : Hid (∀ i, F i -> i < Y3.heap.size) := BaseW.lt hB3
 have HK4 := zh (((uh HK).then (Keeps.of_below (· = s) hb13 zr) (fun _ _ e => e)).then hk3 (fun _ _ e => e))
 have HI4 := zh hI4
 have HS3 : Hid (Y1.heap.size <= Y3.heap.size) := hb13.size
 have HZ4 : Hid ((Y3.setCell ⟨s, 1, none⟩ (.pointer (some ⟨B, 0, none⟩))).heap.size = Y3.heap.size) := zh (by simp)
 clear b3 hI3 hI4 HS hk3 hb13 hB3 hFs HB HB2
 go_upto_region 3 with fail
 generalize Y3.setCell ⟨s, 1, none⟩ (.pointer (some ⟨B, 0, none⟩)) = Y4 at *
 have g1 := (uh HI4).c1
 have HA := zh (walk_At (P := plB B y.heap.size 0 false) (txs_past (uh HB4)).p (txs_past (uh HB4)).bd 0 0 (by decide) (by decide) (by decide) (by decide) (by decide) (fun k hk => absurd (refS_nil _ _ _) hk))
 go_wp2_with fail
 refine (base_Past _ B).mono ?_
 rintro e Z0 ⟨rfl, hZ0⟩
 subst hZ0
 go_wp2_with fail
 refine (uh HA).mono ?_
 rintro e Y5 ⟨g, m, L, X, Nd, Fs, rfl, hp, ho, hall, hlen, hfg, b5⟩
 have hI5 := (uh HI4).below b5
 have hS := sure_graph (some ⟨g, 0, none⟩) 0 Y5 ((uh HGw).carry hI5.low)
 rw [if_pos rfl] at hS
 have HS := zh hS
 have HP := zh hp
 have HAll := zh hall
 have HFg := zh hfg
 have HB5 := zh b5
 have HI5 := zh hI5
 clear hS hp ho hall hlen hfg b5 hI5 HA
 go_wp2_with fail
 refine (uh HS).mono ?_
 rintro e Y6 ⟨rfl, b6⟩
 have hI6 := (uh HI5).below b6
 have e2 := hI6.c2
 have f2 := hI6.f 2
 have hb46 := (uh HB5).trans (b6.mono (uh HB5).size)
 have HF : Hid (Renewed w s dm y (.returned (.string ⟨#[110, 101, 119]⟩)) (Y6.setCell ⟨s, 2, none⟩ (.pointer (some ⟨g, 0, none⟩)))) := by
  have hz4 := uh HZ4
  have hz1 := uh HS1
  obtain ⟨M', q1, q2⟩ := renew_ends (y := y) (Y1 := Y1) (Y3 := Y3) hI6 (uh HSl) (uh HH).de.lt rfl (uh HH).low.size ((uh HD4).below hb46) ((uh HB4).below hb46) (uh HFn) (by omega) (uh HFl) ⟨(uh HP).gx.keeps (Keeps.of_below (fun _ => False) b6 zr) (fun _ _ q => q), (uh HP).ids, (uh HP).nd⟩ (uh HAll) (fun i hi => by have := uh HFg i hi; omega) (uh HS3)
  exact ⟨rfl, M', q1, q2, ((uh HK4).then (Keeps.of_below (· = s) hb46 zr) (fun _ _ e => e)).then (keeps_set _ s 2 _) (fun _ _ e => e)⟩
 clear b6 hI6 hb46 HS
 go_wp2
 go_ret
 exact uh HF
theorem dk_new_ok {w y : World} {s : Nat} {M : Nat -> Prop} {st : DkS} {v : Value} (ht : Tab w) (hl : Libs w) (hg : ErrorType w) (h : DkG w y s M st) (hv : WsI y v []) :
  Calls Tryz.prog 21 #[.pointer (some ⟨s, 0, none⟩), v] y (Did w s M y st0 (.ok [110, 101, 119])) := by
 obtain ⟨ad, cap, rfl, hcap, hw, hsz⟩ := hv
 obtain ⟨dm, D, B, ps, F, g, m, X, Nd, Fs, hI, hM⟩ := h
 refine (renew_any ht hl hg ⟨hI.c0, hI.c1, hI.c2, hI.c3, hI.f, hI.de, hI.sd, hI.sge, hI.low⟩).mono ?_
 rintro e y' ⟨rfl, M', q1, q2, hk⟩
 exact ⟨rfl, M', q1, fun i hi => (by
  rcases q2 i hi with e | e | e
  ·exact .inl ((hM i).2 (.inr (.inr (.inl e))))
  ·exact .inl ((hM i).2 (.inr (.inr (.inr (.inl e)))))
  ·exact .inr e), hk.mono (fun i _ e => (hM i).2 (.inr (.inr (.inl e))))⟩
def boolL (b : Bool) : List UInt8 := if b then [116, 114, 117, 101] else [102, 97, 108, 115, 101]
theorem format_bool (b : Bool) (w : World) : Calls Tryz.prog 67 #[.bool b] w fun e w' => e = .returned (.string ⟨(boolL b).toArray⟩) /\ w' = w := by
 cases b with
 | true =>
  go_enter Tryz.func67, Tryz.ntmps67
  go_wp2
  go_ret
  exact ⟨rfl, rfl⟩
 | false =>
  go_enter Tryz.func67, Tryz.ntmps67
  go_wp2
  go_ret
  exact ⟨rfl, rfl⟩
def nowL (st : DkS) : List UInt8 := Lib.join ([((stE st.es).1.length : Int), (stE st.es).2, (st.es.length : Int)].map Lib.itoa) [32] ++ [32] ++ boolL st.down
theorem dk_now_ok {w y : World} {s : Nat} {M : Nat -> Prop} {st : DkS} {v : Value} (ht : Tab w) (h : DkG w y s M st) (hv : WsI y v []) :
  Calls Tryz.prog 23 #[.pointer (some ⟨s, 0, none⟩), v] y (Did w s M y st (.ok (nowL st))) := by
 obtain ⟨ad, cap, rfl, hcap, hw, hsz⟩ := hv
 obtain ⟨dm, D, B, ps, F, g, m, X, Nd, Fs, hI, hM⟩ := id h
 have c1 := hI.c1
 have HG := zh h
 have HI := zh (fun W (hb : Below y.heap.size y W) => hI.below hb)
 have HSx : Hid (∀ W, Below y.heap.size y W -> W.cell? ⟨s, 1, none⟩ = some (.pointer (some ⟨B, 0, none⟩))) := fun W hb => (hI.below hb).c1
 have HT := zT h ht
 obtain ⟨s1, s2, s3⟩ := stE_bounds hI.bd.holds.good
 have s4 := hI.bd.most
 obtain ⟨lz, hlz⟩ : ∃ lz : List Int, lz = [((stE st.es).1.length : Int), (stE st.es).2, (st.es.length : Int)] := ⟨_, rfl⟩
 have HWz : Hid (∀ z, z ∈ lz -> -9223372036854775808 <= z /\ z <= 9223372036854775807) := fun z hz => by
  rw [hlz] at hz
  simp only [List.mem_cons, List.mem_nil_iff, or_false] at hz
  rcases hz with rfl | rfl | rfl <;> omega
 have HLe : Hid (∀ z, z ∈ lz -> (Lib.itoa z).length <= 200000) := fun z hz => Nat.le_trans (itoa_21 z (uh HWz z hz).1 (uh HWz z hz).2) (by decide)
 have HLz := zh hlz
 have HNow : Hid (nowL st = Lib.join (lz.map Lib.itoa) [32] ++ [32] ++ boolL st.down) := by rw [hlz]; rfl
 have hBw : ∀ W, Below y.heap.size y W -> BaseW W B D st.es.length st.down (stE st.es).1 (stE st.es).2 F := fun W hb => (hI.below hb).bd.base
 have HBw := zh hBw
 clear h hI hM hcap hw hsz ht hlz s1 s2 s3 s4 hBw
 generalize nowL st = nl at *
 simp only [List.length_nil]
 go_enter Tryz.func23, Tryz.ntmps23
 go_wp2_with fail
 refine (base_Past _ B).mono ?_
 rintro e Z0 ⟨rfl, hZ0⟩
 subst hZ0
 go_upto_region 2 with fail
 have HBd := zh (below_drew Z0)
 obtain ⟨na, hna⟩ : ∃ n : Int, n = ((stE st.es).1.length : Int) := ⟨_, rfl⟩
 obtain ⟨nb, hnb⟩ : ∃ n : Int, n = (stE st.es).2 := ⟨_, rfl⟩
 obtain ⟨nc, hnc⟩ : ∃ n : Int, n = (st.es.length : Int) := ⟨_, rfl⟩
 have HN := zh (base_now (uh HBw _ (uh HBd)))
 have HKn := zh (base_known (uh HBw _ (uh HBd)))
 have HUs := zh (base_Used (uh HBw _ (uh HBd)))
 rw [<- hna] at HN HLz
 rw [<- hnb] at HKn HLz
 rw [<- hnc] at HUs HLz
 clear hna hnb hnc
 refine wp_region_held_drew (S := fun W => W.cell? ⟨s, 1, none⟩ = some (.pointer (some ⟨B, 0, none⟩))) (by kernel_rfl) (uh HSx _ (uh HBd)) (fun hHeld => ?_)
 generalize Z0.drew = Zd at *
 refine takeH 0 (h := ?_)
 try simp only [Act.put, sI, sZ, sS]
 refine takeH 2 (h := ?_)
 try simp only [Act.put, sI, sZ, sS]
 refine takeH 4 (h := ?_)
 try simp only [Act.put, sI, sZ, sS]
 refine takeH 5 (h := ?_)
 try simp only [Act.put, sI, sZ, sS]
 refine takeH 6 (h := ?_)
 try simp only [Act.put, sI, sZ, sS]
 refine takeH 7 (h := ?_)
 try simp only [Act.put, sI, sZ, sS]
 refine takeH 12 (h := ?_)
 try simp only [Act.put, sI, sZ, sS]
 refine takeH 13 (h := ?_)
 try simp only [Act.put, sI, sZ, sS]
 refine takeH 14 (h := ?_)
 try simp only [Act.put, sI, sZ, sS]
 refine takeH 15 (h := ?_)
 try simp only [Act.put, sI, sZ, sS]
 refine readyH 1 (h := fun K hK => ?_)
 go_simp
 refine (uh HN).mono ?_
 rintro e Zq ⟨rfl, hZq⟩
 obtain rfl : Zd = Zq := hZq.symm
 refine hK.out _ _ (uh HSx _ (uh HBd)) (fun hHeld => ?_)
 clear hK K
 try simp only [Act.put, sI, sZ, sS]
 refine readyH 3 (h := fun K hK => ?_)
 go_simp
 refine (uh HKn).mono ?_
 rintro e Zq ⟨rfl, hZq⟩
 obtain rfl : Zd = Zq := hZq.symm
 refine hK.out _ _ (uh HSx _ (uh HBd)) (fun hHeld => ?_)
 clear hK K
 try simp only [Act.put, sI, sZ, sS]
 refine readyH 8 (h := fun K hK => ?_)
 go_simp
 refine (uh HUs).mono ?_
 rintro e Zq ⟨rfl, hZq⟩
 obtain rfl : Zd = Zq := hZq.symm
 refine hK.out _ _ (uh HSx _ (uh HBd)) (fun hHeld => ?_)
 clear hK K
 try simp only [Act.put, sI, sZ, sS]
 refine readyH 9 (h := fun K hK => ?_)
 go_simp
 have hb1 := below_box Zd (.cells #[.int .i64 na, .int .i64 nb, .int .i64 nc] 3)
 have HZ1 := zh ((uh HBd).trans (hb1.mono (uh HBd).size))
 refine hK.out _ _ (uh HSx _ (uh HZ1)) (fun hHeld => ?_)
 clear hK K
 try simp only [Act.put, sI, sZ, sS]
 have hTl := tell_ints lz Lib.itoa ⟨#[32]⟩ (Zd.alloc (.cells #[.int .i64 na, .int .i64 nb, .int .i64 nc] 3)) (some ⟨Zd.heap.size, 0, none⟩) Zd.heap.size 3 (by rw [uh HLz]; show (3 : Nat) <= 5000; decide) (fun j hj => ⟨rfl, by
  have e := uh HLz
  subst e
  rcases j with _ | _ | _ | j
  ·simp
  ·simp
  ·simp
  ·simp at hj; omega⟩) (fun z hz W hb => itoa z W (uh HWz z hz).1 (uh HWz z hz).2 (uh HT W ((uh HZ1).trans (hb.mono (uh HZ1).size)))) (uh HLe) (by decide)
 have hln : (Lib.join (lz.map Lib.itoa) [32]).length <= 1500000000 := by
  have h1 := join_le (lz.map Lib.itoa) [32] 200000 (fun x hx => by
   obtain ⟨z, hz, rfl⟩ := List.mem_map.1 hx
   exact uh HLe z hz)
  rw [List.length_map, uh HLz] at h1
  simp only [List.length_cons, List.length_nil] at h1
  rw [uh HLz]
  omega
 obtain ⟨tb, htb⟩ : ∃ tb : ByteArray, tb = ⟨(Lib.join (lz.map Lib.itoa) [32]).toArray⟩ := ⟨_, rfl⟩
 have hts : tb.size <= 1500000000 := by rw [htb]; show (Lib.join (lz.map Lib.itoa) [32]).toArray.size <= _; simpa using hln
 have HTb := zh htb
 rw [show lz.length = 3 by rw [uh HLz]; rfl] at hTl
 have HTl : Hid (Calls Tryz.prog 57 #[.slice (some ⟨Zd.heap.size, 0, none⟩) 3 3, .func (.func 11) #[] #[], .string ⟨#[32]⟩] (Zd.alloc (.cells #[.int .i64 na, .int .i64 nb, .int .i64 nc] 3)) fun e w' => e = .returned (.string tb) /\ Below (Zd.alloc (.cells #[.int .i64 na, .int .i64 nb, .int .i64 nc] 3)).heap.size (Zd.alloc (.cells #[.int .i64 na, .int .i64 nb, .int .i64 nc] 3)) w') := by rw [htb]; exact hTl
 clear hb1 hTl hln htb
 refine readyH 10 (h := fun K hK => ?_)
 go_simp
 refine (uh HTl).mono ?_
 rintro e Z2 ⟨rfl, b2⟩
 have HZ2 := zh ((uh HZ1).trans (b2.mono (uh HZ1).size))
 have HDw := zh (base_Down (uh HBw Z2 (uh HZ2)))
 clear b2 HTl
 refine hK.out _ _ (uh HSx Z2 (uh HZ2)) (fun hHeld => ?_)
 clear hK K
 try simp only [Act.put, sI, sZ, sS]
 refine wpAnyH_take (i := 11) (oi := ?tco) (v := .string (tb ++ ⟨#[32]⟩)) ?tch (by kernel_rfl) (by kernel_rfl) (by kernel_rfl) ?tcq (Or.inl ⟨?tcw, ?tcy⟩) (by assumption) ?tcr
 case tch => (simp only [gA, gZ, gS]; rfl)
 case tcq => exact fun _ _ _ h => h
 case tcw => rfl
 case tcy => (intro w' hSw; (try dsimp only at hSw); go_simp; omega)
 try simp only [Act.put, sI, sZ, sS]
 refine readyH 16 (h := fun K hK => ?_)
 go_simp
 refine (uh HDw).mono ?_
 rintro e Zq ⟨rfl, hZq⟩
 obtain rfl : Z2 = Zq := hZq.symm
 refine hK.out _ _ (uh HSx _ (uh HZ2)) (fun hHeld => ?_)
 clear hK K
 try simp only [Act.put, sI, sZ, sS]
 obtain ⟨fb, hfb⟩ : ∃ fb : ByteArray, fb = ⟨(boolL st.down).toArray⟩ := ⟨_, rfl⟩
 have hfs : fb.size <= 10 := by rw [hfb]; unfold boolL; cases st.down <;> decide
 have hFb := format_bool st.down Z2
 rw [<- hfb] at hFb
 have HFb := zh hFb
 have HFe := zh hfb
 clear hFb hfb HDw
 refine readyH 17 (h := fun K hK => ?_)
 go_simp
 refine (uh HFb).mono ?_
 rintro e Zr ⟨rfl, hZr⟩
 obtain rfl : Z2 = Zr := hZr.symm
 refine hK.out _ _ (uh HSx _ (uh HZ2)) (fun hHeld => ?_)
 clear hK K
 try simp only [Act.put, sI, sZ, sS]
 refine wpAnyH_take (i := 18) (oi := ?tdo) (v := .string (tb ++ ⟨#[32]⟩ ++ fb)) ?tdh (by kernel_rfl) (by kernel_rfl) (by kernel_rfl) ?tdq (Or.inl ⟨?tdw, ?tdy⟩) (by assumption) ?tdr
 case tdh => (simp only [gA, gZ, gS]; rfl)
 case tdq => exact fun _ _ _ h => h
 case tdw => rfl
 case tdy => (intro w' hSw; (try dsimp only at hSw); go_simp; omega)
 try simp only [Act.put, sI, sZ, sS]
 refine takeH 19 (h := ?_)
 try simp only [Act.put, sI, sZ, sS]
 refine wpAnyH_done (by kernel_rfl) ?_ _
 have HF := zh (did_read (out := .ok nl) (uh HG) (uh HZ2) (e := .returned (.string (tb ++ ⟨#[32]⟩ ++ fb))) (by
  rw [uh HNow, uh HTb, uh HFe]
  exact congrArg (fun b => Ending.returned (.string b)) (ByteArray.ext (Array.toList_inj.1 (by simp)))))
 clear hHeld
 go_wp2
 go_ret
 exact uh HF
end Go.Proofs.YtbmkmfoaoganeaaGreatDoor
