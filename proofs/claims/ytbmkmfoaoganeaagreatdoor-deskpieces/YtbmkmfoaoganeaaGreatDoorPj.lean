/- Texts of one proof, one behind the other. -/
import Derived.Test.YtbmkmfoaoganeaaGreatDoorPi
set_option maxRecDepth 100000
set_option maxHeartbeats 16000000
namespace Go.Proofs.YtbmkmfoaoganeaaGreatDoor
open Go.RowKit Go.Maps
theorem dk_cut_bad0 {w y : World} {s : Nat} {M : Nat -> Prop} {st : DkS} {v : Value} (x0 : ByteArray) (ht : Tab w) (hl : Libs w) (hg : ErrorType w) (h : DkG w y s M st) (hv : WsI y v [x0]) (hx : numW x0 = none) :
  Calls Tryz.prog 14 #[.pointer (some ⟨s, 0, none⟩), v] y (Did w s M y st (.error 3)) := by
 obtain ⟨ad, cap, rfl, hcap, hw, hsz⟩ := hv
 have hb0 := below_box y (.cells #[.slice ad 1 cap] 56)
 have HW0 := zh (wd_new (y := y) (ad := ad) (n := 1) (cap := cap) ⟨ad, cap, rfl, hcap, hw, hsz⟩)
 have HB0 := zh hb0
 have HG := zh h
 have HSz := zh hsz
 have HNb := @zNb _ _ _ _ _ h hl ht
 have HKb := @zKb _ _ _ _ _ h hl ht
 have HSb := @zSb _ _ _ _ _ h hl ht
 have HLow := @zLo y
 have HT := zT h ht
 have HEr := zE h hg
 have HTw := zh ht
 have HLw := zh hl
 have HGw := zh hg
 obtain ⟨dm, D, B, ps, F, g, m, X, Nd, Fs, hI, hM⟩ := id h
 have HI := zh (fun W (hb : Below y.heap.size y W) => hI.below hb)
 have HM := zh hM
 have HSx : Hid (∀ W, Below y.heap.size y W -> W.cell? ⟨s, 0, none⟩ = some (.pointer (some ⟨D, 0, none⟩))) := fun W hb => (hI.below hb).c0
 clear h hI hM hcap hw hsz ht hl hg hb0
 have HX := zh hx
 clear hx
 simp only [List.length_cons, List.length_nil, Nat.zero_add]
 go_enter Tryz.func14, Tryz.ntmps14
 go_upto_region 1 with fail
 generalize y.alloc (.cells #[.slice ad 1 cap] 56) = Y0 at *
 have HWd := zh ((uh HW0).below (below_drew Y0))
 have HBd := zh ((uh HB0).trans ((below_drew Y0).mono (uh HB0).size))
 clear HW0 HB0
 refine wp_region_held_drew (S := fun x => x.cell? ⟨s, 0, none⟩ = some (.pointer (some ⟨D, 0, none⟩))) (by kernel_rfl) (uh HSx _ (uh HBd)) (fun hHeld => ?_)
 refine takeH 0 (h := ?_)
 try simp only [Act.put, sI, sZ, sS]
 refine takeH 1 (h := ?_)
 try simp only [Act.put, sI, sZ, sS]
 refine takeH 2 (h := ?_)
 try simp only [Act.put, sI, sZ, sS]
 refine takeH 3 (h := ?_)
 try simp only [Act.put, sI, sZ, sS]
 refine readyH 4 (h := fun K hK => ?_)
 go_simp
 refine (uh HNb (uh HWd) (uh HBd)).mono ?_
 rintro e Y1 (⟨n', e', rfl, w', k'⟩ | ⟨e', rfl, k'⟩)
 case inl => rw [uh HX] at e'; cases e'
 have HF := zh (did_read (out := .error 3) (uh HG) (uh HLow (uh HBd) k') rfl)
 clear k' e' hK
 go_wp2
 exact ⟨rfl, uh HF⟩
theorem dk_cut_ok {w y : World} {s : Nat} {M : Nat -> Prop} {st : DkS} {v : Value} (x0 : ByteArray) (ht : Tab w) (hl : Libs w) (hg : ErrorType w) (h : DkG w y s M st) (hv : WsI y v [x0]) (a0 : Int) (q0 : numW x0 = some a0) :
  Calls Tryz.prog 14 #[.pointer (some ⟨s, 0, none⟩), v] y (Did w s M y { st with cut := decide (0 <= a0), left := max a0 0 } (.ok [99, 117, 116])) := by
 obtain ⟨ad, cap, rfl, hcap, hw, hsz⟩ := hv
 have hb0 := below_box y (.cells #[.slice ad 1 cap] 56)
 have HW0 := zh (wd_new (y := y) (ad := ad) (n := 1) (cap := cap) ⟨ad, cap, rfl, hcap, hw, hsz⟩)
 have HB0 := zh hb0
 have HG := zh h
 have HSz := zh hsz
 have HNb := @zNb _ _ _ _ _ h hl ht
 have HKb := @zKb _ _ _ _ _ h hl ht
 have HSb := @zSb _ _ _ _ _ h hl ht
 have HLow := @zLo y
 have HT := zT h ht
 have HEr := zE h hg
 have HTw := zh ht
 have HLw := zh hl
 have HGw := zh hg
 obtain ⟨dm, D, B, ps, F, g, m, X, Nd, Fs, hI, hM⟩ := id h
 have HI := zh (fun W (hb : Below y.heap.size y W) => hI.below hb)
 have HM := zh hM
 have HSx : Hid (∀ W, Below y.heap.size y W -> W.cell? ⟨s, 0, none⟩ = some (.pointer (some ⟨D, 0, none⟩))) := fun W hb => (hI.below hb).c0
 clear h hI hM hcap hw hsz ht hl hg hb0
 have HE0 := zh q0
 clear q0
 simp only [List.length_cons, List.length_nil, Nat.zero_add]
 go_enter Tryz.func14, Tryz.ntmps14
 go_upto_region 1 with fail
 generalize y.alloc (.cells #[.slice ad 1 cap] 56) = Y0 at *
 have HWd := zh ((uh HW0).below (below_drew Y0))
 have HBd := zh ((uh HB0).trans ((below_drew Y0).mono (uh HB0).size))
 clear HW0 HB0
 refine wp_region_held_drew (S := fun x => x.cell? ⟨s, 0, none⟩ = some (.pointer (some ⟨D, 0, none⟩))) (by kernel_rfl) (uh HSx _ (uh HBd)) (fun hHeld => ?_)
 refine takeH 0 (h := ?_)
 try simp only [Act.put, sI, sZ, sS]
 refine takeH 1 (h := ?_)
 try simp only [Act.put, sI, sZ, sS]
 refine takeH 2 (h := ?_)
 try simp only [Act.put, sI, sZ, sS]
 refine takeH 3 (h := ?_)
 try simp only [Act.put, sI, sZ, sS]
 refine readyH 4 (h := fun K hK => ?_)
 go_simp
 refine (uh HNb (uh HWd) (uh HBd)).mono ?_
 rintro e Y1 (⟨n', e', rfl, w', k'⟩ | ⟨e', rfl, k'⟩)
 case inr => rw [uh HE0] at e'; cases e'
 rw [uh HE0] at e'
 cases e'
 have HB1 := zh (uh HLow (uh HBd) k')
 clear w' k' HWd
 refine hK.out _ _ (uh HSx Y1 (uh HB1)) (fun hHeld => ?_)
 clear hK K
 try simp only [Act.put, sI, sZ, sS]
 refine readyH 5 (h := fun K hK => ?_)
 go_simp
 refine (disk_Cut (uh HI Y1 (uh HB1)).bd.disk a0 (numW_wf (uh HE0)).2).mono ?_
 rintro e Z1 ⟨rfl, hd, hk⟩
 have HF := zh (((uh HI Y1 (uh HB1)).after_cut (uh HM) hd hk).from (uh HB1) |>.did (out := .ok [99, 117, 116]) (e := .returned (.string ⟨#[99, 117, 116]⟩)) rfl)
 have hS := (hk.cell (p := ⟨s, 0, none⟩) (uh HI Y1 (uh HB1)).slt (fun e => (uh HI Y1 (uh HB1)).ds e.symm)).trans (uh HSx Y1 (uh HB1))
 clear hd hk
 refine hK.out _ _ hS (fun hHeld => ?_)
 clear hK K
 try simp only [Act.put, sI, sZ, sS]
 refine wpAnyH_done (by kernel_rfl) ?_ _
 clear hHeld hS
 go_wp2
 go_ret
 exact uh HF
theorem dk_forget_bad0 {w y : World} {s : Nat} {M : Nat -> Prop} {st : DkS} {v : Value} (x0 : ByteArray) (ht : Tab w) (hl : Libs w) (hg : ErrorType w) (h : DkG w y s M st) (hv : WsI y v [x0]) (hx : numW x0 = none) :
  Calls Tryz.prog 17 #[.pointer (some ⟨s, 0, none⟩), v] y (Did w s M y st (.error 3)) := by
 obtain ⟨ad, cap, rfl, hcap, hw, hsz⟩ := hv
 have hb0 := below_box y (.cells #[.slice ad 1 cap] 56)
 have HW0 := zh (wd_new (y := y) (ad := ad) (n := 1) (cap := cap) ⟨ad, cap, rfl, hcap, hw, hsz⟩)
 have HB0 := zh hb0
 have HG := zh h
 have HSz := zh hsz
 have HNb := @zNb _ _ _ _ _ h hl ht
 have HKb := @zKb _ _ _ _ _ h hl ht
 have HSb := @zSb _ _ _ _ _ h hl ht
 have HLow := @zLo y
 have HT := zT h ht
 have HEr := zE h hg
 have HTw := zh ht
 have HLw := zh hl
 have HGw := zh hg
 obtain ⟨dm, D, B, ps, F, g, m, X, Nd, Fs, hI, hM⟩ := id h
 have HI := zh (fun W (hb : Below y.heap.size y W) => hI.below hb)
 have HM := zh hM
 have HSx : Hid (∀ W, Below y.heap.size y W -> W.cell? ⟨s, 1, none⟩ = some (.pointer (some ⟨B, 0, none⟩))) := fun W hb => (hI.below hb).c1
 clear h hI hM hcap hw hsz ht hl hg hb0
 have HX := zh hx
 clear hx
 simp only [List.length_cons, List.length_nil, Nat.zero_add]
 go_enter Tryz.func17, Tryz.ntmps17
 go_upto_region 1 with fail
 generalize y.alloc (.cells #[.slice ad 1 cap] 56) = Y0 at *
 have HWd := zh ((uh HW0).below (below_drew Y0))
 have HBd := zh ((uh HB0).trans ((below_drew Y0).mono (uh HB0).size))
 clear HW0 HB0
 refine wp_region_held_drew (S := fun x => x.cell? ⟨s, 1, none⟩ = some (.pointer (some ⟨B, 0, none⟩))) (by kernel_rfl) (uh HSx _ (uh HBd)) (fun hHeld => ?_)
 refine takeH 0 (h := ?_)
 try simp only [Act.put, sI, sZ, sS]
 refine takeH 1 (h := ?_)
 try simp only [Act.put, sI, sZ, sS]
 refine takeH 2 (h := ?_)
 try simp only [Act.put, sI, sZ, sS]
 refine takeH 3 (h := ?_)
 try simp only [Act.put, sI, sZ, sS]
 refine readyH 4 (h := fun K hK => ?_)
 go_simp
 refine (uh HNb (uh HWd) (uh HBd)).mono ?_
 rintro e Y1 (⟨n', e', rfl, w', k'⟩ | ⟨e', rfl, k'⟩)
 case inl => rw [uh HX] at e'; cases e'
 have HF := zh (did_read (out := .error 3) (uh HG) (uh HLow (uh HBd) k') rfl)
 clear k' e' hK
 go_wp2
 exact ⟨rfl, uh HF⟩
theorem dk_forget_ok {w y : World} {s : Nat} {M : Nat -> Prop} {st : DkS} {v : Value} (x0 : ByteArray) (ht : Tab w) (hl : Libs w) (hg : ErrorType w) (h : DkG w y s M st) (hv : WsI y v [x0]) (a0 : Int) (q0 : numW x0 = some a0) :
  Calls Tryz.prog 17 #[.pointer (some ⟨s, 0, none⟩), v] y (Did w s M y (fgSt st a0) (outP (fgE st a0) [102, 111, 114, 103, 101, 116])) := by
 obtain ⟨ad, cap, rfl, hcap, hw, hsz⟩ := hv
 have hb0 := below_box y (.cells #[.slice ad 1 cap] 56)
 have HW0 := zh (wd_new (y := y) (ad := ad) (n := 1) (cap := cap) ⟨ad, cap, rfl, hcap, hw, hsz⟩)
 have HB0 := zh hb0
 have HG := zh h
 have HSz := zh hsz
 have HNb := @zNb _ _ _ _ _ h hl ht
 have HKb := @zKb _ _ _ _ _ h hl ht
 have HSb := @zSb _ _ _ _ _ h hl ht
 have HLow := @zLo y
 have HT := zT h ht
 have HEr := zE h hg
 have HTw := zh ht
 have HLw := zh hl
 have HGw := zh hg
 obtain ⟨dm, D, B, ps, F, g, m, X, Nd, Fs, hI, hM⟩ := id h
 have HI := zh (fun W (hb : Below y.heap.size y W) => hI.below hb)
 have HM := zh hM
 have HSx : Hid (∀ W, Below y.heap.size y W -> W.cell? ⟨s, 1, none⟩ = some (.pointer (some ⟨B, 0, none⟩))) := fun W hb => (hI.below hb).c1
 clear h hI hM hcap hw hsz ht hl hg hb0
 have HE0 := zh q0
 clear q0
 simp only [List.length_cons, List.length_nil, Nat.zero_add]
 go_enter Tryz.func17, Tryz.ntmps17
 go_upto_region 1 with fail
 generalize y.alloc (.cells #[.slice ad 1 cap] 56) = Y0 at *
 have HWd := zh ((uh HW0).below (below_drew Y0))
 have HBd := zh ((uh HB0).trans ((below_drew Y0).mono (uh HB0).size))
 clear HW0 HB0
 refine wp_region_held_drew (S := fun x => x.cell? ⟨s, 1, none⟩ = some (.pointer (some ⟨B, 0, none⟩))) (by kernel_rfl) (uh HSx _ (uh HBd)) (fun hHeld => ?_)
 refine takeH 0 (h := ?_)
 try simp only [Act.put, sI, sZ, sS]
 refine takeH 1 (h := ?_)
 try simp only [Act.put, sI, sZ, sS]
 refine takeH 2 (h := ?_)
 try simp only [Act.put, sI, sZ, sS]
 refine takeH 3 (h := ?_)
 try simp only [Act.put, sI, sZ, sS]
 refine readyH 4 (h := fun K hK => ?_)
 go_simp
 refine (uh HNb (uh HWd) (uh HBd)).mono ?_
 rintro e Y1 (⟨n', e', rfl, w', k'⟩ | ⟨e', rfl, k'⟩)
 case inr => rw [uh HE0] at e'; cases e'
 rw [uh HE0] at e'
 cases e'
 have HB1 := zh (uh HLow (uh HBd) k')
 clear w' k' HWd
 refine hK.out _ _ (uh HSx Y1 (uh HB1)) (fun hHeld => ?_)
 clear hK K
 try simp only [Act.put, sI, sZ, sS]
 have HCk := zh (fun W (hb : Below w.heap.size w W) => check_any (fgE st a0) W ((uh HGw).carry hb))
 generalize hpe : fgE st a0 = pe at *
 refine readyH 5 (h := fun K hK => ?_)
 go_simp
 refine ((forget_any (uh HI Y1 (uh HB1)) (uh HM) (uh HTw) (uh HLw) a0 (-1))).mono ?_
 rintro e Z1 ⟨rfl, hA, hS⟩
 rw [hpe]
 have HA := zh (hA.from (uh HB1))
 have HC1 := zh (uh HCk Z1 hA.low)
 have hS1 := hS 1 _ (uh HSx Y1 (uh HB1))
 clear hA hS HCk
 refine hK.out _ _ hS1 (fun hHeld => ?_)
 clear hK K
 try simp only [Act.put, sI, sZ, sS]
 refine readyH 6 (h := fun K hK => ?_)
 go_simp
 refine (uh HC1).mono ?_
 by_cases he : pe = 0
 ·rw [if_pos he]
  rintro e Z2 ⟨rfl, b2⟩
  have HF := zh (((uh HA).below b2).did (out := outP pe [102, 111, 114, 103, 101, 116]) (e := .returned (.string ⟨#[102, 111, 114, 103, 101, 116]⟩)) (by unfold outP; rw [if_pos he]; rfl))
  have hS2 := there_yet hS1 b2
  clear b2 HC1
  refine hK.out _ _ hS2 (fun hHeld => ?_)
  clear hK K
  try simp only [Act.put, sI, sZ, sS]
  refine wpAnyH_done (by kernel_rfl) ?_ _
  clear hHeld hS1 hS2
  go_wp2
  go_ret
  exact uh HF
 ·rw [if_neg he]
  rintro e Z2 ⟨rfl, b2⟩
  have HF := zh (((uh HA).below b2).did (out := outP pe [102, 111, 114, 103, 101, 116]) (e := thrown pe) (by unfold outP; rw [if_neg he]; rfl))
  clear b2 HC1 hK
  go_wp2
  exact ⟨rfl, uh HF⟩
theorem keyB_small {k : Ky} (h : keyB k.kind k.a k.word k.b = true) : k.word.size <= 30000 :=
 Nat.le_trans (op_fit (o := { kind := k.kind, a := k.a, word := k.word, b := k.b, lo := 0, hi := 1, value := ⟨#[]⟩ }) (by unfold opB; rw [show keyB k.kind k.a k.word k.b = true from h, show emptyB (⟨#[]⟩ : ByteArray) = true from empty_is]; rfl)).2.1 (by decide)
theorem dk_edges_ok {w y : World} {s : Nat} {M : Nat -> Prop} {st : DkS} {v : Value} (ht : Tab w) (h : DkG w y s M st) (hv : WsI y v []) :
  Calls Tryz.prog 15 #[.pointer (some ⟨s, 0, none⟩), v] y (Did w s M y st (.ok ([101, 100, 103, 101, 115, 32] ++ Lib.join ((st.L.filter (edgeB st.V)).map keyL) [44, 32]))) := by
 obtain ⟨ad, cap, rfl, hcap, hw, hsz⟩ := hv
 obtain ⟨dm, D, B, ps, F, g, m, X, Nd, Fs, hI, hM⟩ := id h
 have c2 := hI.c2
 have HG := zh h
 have HP := zh (q_edges hI.gr)
 have HT := zT h ht
 have HKz : Hid (∀ z, z ∈ st.L.filter (edgeB st.V) -> KyOk z /\ z.word.size <= 30000) := fun z hz => ⟨(hI.gr.t.ok z (List.mem_filter.1 hz).1).1, keyB_small (hI.gr.t.ok z (List.mem_filter.1 hz).1).2⟩
 have HLe : Hid (∀ z, z ∈ st.L.filter (edgeB st.V) -> (keyL z).length <= 200000) := fun z hz => keyL_le z (uh HKz z hz).1 (uh HKz z hz).2
 have HLn : Hid ((st.L.filter (edgeB st.V)).length <= 4001) := Nat.le_trans (Nat.le_trans (List.length_filter_le _ _) hI.gr.t.len) (by decide)
 clear h hI hM hcap hw hsz ht
 generalize st.L.filter (edgeB st.V) = lk at *
 simp only [List.length_nil]
 go_enter Tryz.func15, Tryz.ntmps15
 go_wp2_with fail
 refine (uh HP).mono ?_
 rintro e Z1 ⟨v1, rfl, r1, b1⟩
 have HZ1 := zh b1
 obtain ⟨gr, adr, cr, rfl, hcr⟩ := RowY.cells r1
 have hTl := tell_keys lk keyL ⟨#[44, 32]⟩ Z1 adr gr cr (Nat.le_trans (uh HLn) (by decide)) (fun j hj => ⟨(hcr j hj).1, (hcr j hj).2.1, (hcr j hj).2.2.1, (hcr j hj).2.2.2.1, (hcr j hj).2.2.2.2⟩) (fun z hz W hb => key_text z W (uh HKz z hz).1 (uh HKz z hz).2 (uh HT W ((uh HZ1).trans (hb.mono (uh HZ1).size)))) (uh HLe) (by decide)
 have hln : (Lib.join ((lk).map keyL) [44, 32]).length <= 1500000000 := by
  have h1 := join_le ((lk).map keyL) [44, 32] 200000 (fun x hx => by
   obtain ⟨z, hz, rfl⟩ := List.mem_map.1 hx
   exact uh HLe z hz)
  rw [List.length_map] at h1
  have := uh HLn
  simp only [List.length_cons, List.length_nil] at h1
  omega
 obtain ⟨tb, htb⟩ : ∃ tb : ByteArray, tb = ⟨(Lib.join ((lk).map keyL) [44, 32]).toArray⟩ := ⟨_, rfl⟩
 have hts : tb.size <= 1500000000 := by rw [htb]; show (Lib.join ((lk).map keyL) [44, 32]).toArray.size <= _; simpa using hln
 obtain ⟨ln, hlz⟩ : ∃ n, n = (lk).length := ⟨_, rfl⟩
 have HTb := zh htb
 have hTl2 : Calls Tryz.prog 45 #[.slice adr ln cr, .func (.func 47) #[] #[], .string ⟨#[44, 32]⟩] Z1 fun e w' => e = .returned (.string tb) /\ Below Z1.heap.size Z1 w' := by rw [htb, hlz]; exact hTl
 have HTl := zh hTl2
 rw [<- hlz]
 clear hcr hTl hTl2 htb hln hlz
 clear r1 b1 HP
 go_wp2_with fail
 refine (uh HTl).mono ?_
 rintro e Z3 ⟨rfl, b3⟩
 have HF := zh (did_read (out := .ok ([101, 100, 103, 101, 115, 32] ++ Lib.join (lk.map keyL) [44, 32])) (uh HG) ((uh HZ1).trans (b3.mono (uh HZ1).size)) (e := .returned (.string (⟨#[101, 100, 103, 101, 115, 32]⟩ ++ tb))) (by
  rw [uh HTb]
  exact congrArg (fun b => Ending.returned (.string b)) (ByteArray.ext (Array.toList_inj.1 (by simp)))))
 clear b3 HTl
 go_wp2
 go_ret
 exact uh HF
theorem dk_nodes_ok {w y : World} {s : Nat} {M : Nat -> Prop} {st : DkS} {v : Value} (x0 : ByteArray) (ht : Tab w) (hl : Libs w) (hg : ErrorType w) (h : DkG w y s M st) (hv : WsI y v [x0]) :
  Calls Tryz.prog 22 #[.pointer (some ⟨s, 0, none⟩), v] y (Did w s M y st (.ok ([110, 111, 100, 101, 115, 32] ++ Lib.join ((sortedI (nodesR st.V (textB x0) st.L)).map Lib.itoa) [32]))) := by
 obtain ⟨ad, cap, rfl, hcap, hw, hsz⟩ := hv
 have hb0 := below_box y (.cells #[.slice ad 1 cap] 56)
 have HW0 := zh (wd_new (y := y) (ad := ad) (n := 1) (cap := cap) ⟨ad, cap, rfl, hcap, hw, hsz⟩)
 have HB0 := zh hb0
 have HG := zh h
 have HSz := zh hsz
 have HNb := @zNb _ _ _ _ _ h hl ht
 have HKb := @zKb _ _ _ _ _ h hl ht
 have HSb := @zSb _ _ _ _ _ h hl ht
 have HLow := @zLo y
 have HT := zT h ht
 have HEr := zE h hg
 have HTw := zh ht
 have HLw := zh hl
 have HGw := zh hg
 obtain ⟨dm, D, B, ps, F, g, m, X, Nd, Fs, hI, hM⟩ := id h
 have HI := zh (fun W (hb : Below y.heap.size y W) => hI.below hb)
 have HM := zh hM
 have HSx : Hid (∀ W, Below y.heap.size y W -> W.cell? ⟨s, 2, none⟩ = some (.pointer (some ⟨g, 0, none⟩))) := fun W hb => (hI.below hb).c2
 clear h hI hM hcap hw hsz ht hl hg hb0
 simp only [List.length_cons, List.length_nil, Nat.zero_add]
 go_enter Tryz.func22, Tryz.ntmps22
 go_upto_region 1 with fail
 generalize y.alloc (.cells #[.slice ad 1 cap] 56) = Y0 at *
 have HWd := zh ((uh HW0).below (below_drew Y0))
 have HBd := zh ((uh HB0).trans ((below_drew Y0).mono (uh HB0).size))
 clear HW0 HB0
 refine wp_region_held_drew (S := fun x => x.cell? ⟨s, 2, none⟩ = some (.pointer (some ⟨g, 0, none⟩))) (by kernel_rfl) (uh HSx _ (uh HBd)) (fun hHeld => ?_)
 refine takeH 0 (h := ?_)
 try simp only [Act.put, sI, sZ, sS]
 refine takeH 1 (h := ?_)
 try simp only [Act.put, sI, sZ, sS]
 refine takeH 2 (h := ?_)
 try simp only [Act.put, sI, sZ, sS]
 refine takeH 3 (h := ?_)
 try simp only [Act.put, sI, sZ, sS]
 refine readyH 4 (h := fun K hK => ?_)
 go_simp
 refine (words_word (uh HWd)).mono ?_
 rintro e Y1 ⟨rfl, w', k'⟩
 have HB1 := zh (uh HLow (uh HBd) k')
 clear w' k' HWd
 refine hK.out _ _ (uh HSx Y1 (uh HB1)) (fun hHeld => ?_)
 clear hK K
 try simp only [Act.put, sI, sZ, sS]
 have HI1 := zh (uh HI Y1 (uh HB1))
 have HWz : Hid (∀ z, z ∈ sortedI (nodesR st.V (textB x0) st.L) -> -9223372036854775808 <= z /\ z <= 9223372036854775807) := fun z hz => kyOk_int ((uh HI1).gr.t.wf z (nodesR_in (textB x0) z (sortedI_mem.1 hz)))
 have HLe : Hid (∀ z, z ∈ sortedI (nodesR st.V (textB x0) st.L) -> (Lib.itoa z).length <= 200000) := fun z hz => Nat.le_trans (itoa_21 z (uh HWz z hz).1 (uh HWz z hz).2) (by decide)
 have HLn : Hid ((sortedI (nodesR st.V (textB x0) st.L)).length <= 4001) := by
  have h1 : (sortedI (nodesR st.V (textB x0) st.L)).length = (nodesR st.V (textB x0) st.L).length := (List.mergeSort_perm _ _).length_eq
  have h2 := nodesR_le st.V (textB x0) st.L
  have h3 := (uh HI1).gr.t.len
  show (sortedI (nodesR st.V (textB x0) st.L)).length <= 4001
  omega
 have HP := zh (q_nodes (uh HI1).gr (textB x0))
 generalize sortedI (nodesR st.V (textB x0) st.L) = lz at *
 refine readyH 5 (h := fun K hK => ?_)
 go_simp
 refine (uh HP).mono ?_
 rintro e Z1 ⟨v1, rfl, r1, b1⟩
 have HZ1 := zh ((uh HB1).trans (b1.mono (uh HB1).size))
 have hS1 := uh HSx Z1 (uh HZ1)
 obtain ⟨gr, adr, cr, rfl, hcr⟩ := RowN.cells r1
 have hTl := tell_ints lz Lib.itoa ⟨#[32]⟩ Z1 adr gr cr (Nat.le_trans (uh HLn) (by decide)) (fun j hj => ⟨(hcr j hj).1, (hcr j hj).2⟩) (fun z hz W hb => itoa z W (uh HWz z hz).1 (uh HWz z hz).2 (uh HT W ((uh HZ1).trans (hb.mono (uh HZ1).size)))) (uh HLe) (by decide)
 have hln : (Lib.join ((lz).map Lib.itoa) [32]).length <= 1500000000 := by
  have h1 := join_le ((lz).map Lib.itoa) [32] 200000 (fun x hx => by
   obtain ⟨z, hz, rfl⟩ := List.mem_map.1 hx
   exact uh HLe z hz)
  rw [List.length_map] at h1
  have := uh HLn
  simp only [List.length_cons, List.length_nil] at h1
  omega
 obtain ⟨tb, htb⟩ : ∃ tb : ByteArray, tb = ⟨(Lib.join ((lz).map Lib.itoa) [32]).toArray⟩ := ⟨_, rfl⟩
 have hts : tb.size <= 1500000000 := by rw [htb]; show (Lib.join ((lz).map Lib.itoa) [32]).toArray.size <= _; simpa using hln
 obtain ⟨ln, hlz⟩ : ∃ n, n = (lz).length := ⟨_, rfl⟩
 have HTb := zh htb
 have hTl2 : Calls Tryz.prog 57 #[.slice adr ln cr, .func (.func 11) #[] #[], .string ⟨#[32]⟩] Z1 fun e w' => e = .returned (.string tb) /\ Below Z1.heap.size Z1 w' := by rw [htb, hlz]; exact hTl
 have HTl := zh hTl2
 rw [<- hlz]
 clear hcr hTl hTl2 htb hln hlz
 clear r1 b1 HP
 refine hK.out _ _ hS1 (fun hHeld => ?_)
 clear hK K
 try simp only [Act.put, sI, sZ, sS]
 refine readyH 6 (h := fun K hK => ?_)
 go_simp
 refine (uh HTl).mono ?_
 rintro e Z3 ⟨rfl, b3⟩
 have hbz := (uh HZ1).trans (b3.mono (uh HZ1).size)
 have HF := zh (did_read (out := .ok ([110, 111, 100, 101, 115, 32] ++ Lib.join (lz.map Lib.itoa) [32])) (uh HG) hbz (e := .returned (.string (⟨#[110, 111, 100, 101, 115, 32]⟩ ++ tb))) (by
  rw [uh HTb]
  exact congrArg (fun b => Ending.returned (.string b)) (ByteArray.ext (Array.toList_inj.1 (by simp)))))
 have hS2 := uh HSx Z3 hbz
 clear b3 HTl hbz
 refine hK.out _ _ hS2 (fun hHeld => ?_)
 clear hK K
 try simp only [Act.put, sI, sZ, sS]
 refine readyH 7 (h := fun K hK => ?_)
 go_simp
 rw [if_neg (by omega)]
 try simp only [Result.andThen]
 refine hK.out _ _ hS2 (fun hHeld => ?_)
 clear hK K
 try simp only [Act.put, sI, sZ, sS]
 refine takeH 8 (h := ?_)
 try simp only [Act.put, sI, sZ, sS]
 refine wpAnyH_done (by kernel_rfl) ?_ _
 clear hHeld hS1 hS2
 go_wp2
 go_ret
 exact uh HF
theorem dk_value_bad0 {w y : World} {s : Nat} {M : Nat -> Prop} {st : DkS} {v : Value} (x0 x1 x2 x3 x4 x5 : ByteArray) (ht : Tab w) (hl : Libs w) (hg : ErrorType w) (h : DkG w y s M st) (hv : WsI y v [x0, x1, x2, x3, x4, x5]) (hx : keyW x0 x1 x2 x3 = none) :
  Calls Tryz.prog 27 #[.pointer (some ⟨s, 0, none⟩), v] y (Did w s M y st (.error 3)) := by
 obtain ⟨ad, cap, rfl, hcap, hw, hsz⟩ := hv
 have hb0 := below_box y (.cells #[.slice ad 6 cap] 56)
 have HW0 := zh (wd_new (y := y) (ad := ad) (n := 6) (cap := cap) ⟨ad, cap, rfl, hcap, hw, hsz⟩)
 have HB0 := zh hb0
 have HG := zh h
 have HSz := zh hsz
 have HNb := @zNb _ _ _ _ _ h hl ht
 have HKb := @zKb _ _ _ _ _ h hl ht
 have HSb := @zSb _ _ _ _ _ h hl ht
 have HLow := @zLo y
 have HT := zT h ht
 have HEr := zE h hg
 have HGy := zG h
 clear h hcap hw hsz ht hl hg hb0
 have HX := zh hx
 clear hx
 simp only [List.length_cons, List.length_nil, Nat.zero_add, Nat.reduceAdd]
 go_enter Tryz.func27, Tryz.ntmps27
 go_wp2_with fail
 generalize y.alloc (.cells #[.slice ad 6 cap] 56) = Y0 at *
 refine (uh HKb (uh HW0) (uh HB0)).mono ?_
 rintro e Y1 (⟨n', e', rfl, w', k'⟩ | ⟨e', rfl, k'⟩)
 case inl => rw [uh HX] at e'; cases e'
 have HF := zh (did_read (out := .error 3) (uh HG) (uh HLow (uh HB0) k') rfl)
 clear k' e'
 go_wp2
 exact ⟨rfl, uh HF⟩
theorem dk_value_bad1 {w y : World} {s : Nat} {M : Nat -> Prop} {st : DkS} {v : Value} (x0 x1 x2 x3 x4 x5 : ByteArray) (ht : Tab w) (hl : Libs w) (hg : ErrorType w) (h : DkG w y s M st) (hv : WsI y v [x0, x1, x2, x3, x4, x5]) (a0 : Ky) (q0 : keyW x0 x1 x2 x3 = some a0) (hx : numW x4 = none) :
  Calls Tryz.prog 27 #[.pointer (some ⟨s, 0, none⟩), v] y (Did w s M y st (.error 3)) := by
 obtain ⟨ad, cap, rfl, hcap, hw, hsz⟩ := hv
 have hb0 := below_box y (.cells #[.slice ad 6 cap] 56)
 have HW0 := zh (wd_new (y := y) (ad := ad) (n := 6) (cap := cap) ⟨ad, cap, rfl, hcap, hw, hsz⟩)
 have HB0 := zh hb0
 have HG := zh h
 have HSz := zh hsz
 have HNb := @zNb _ _ _ _ _ h hl ht
 have HKb := @zKb _ _ _ _ _ h hl ht
 have HSb := @zSb _ _ _ _ _ h hl ht
 have HLow := @zLo y
 have HT := zT h ht
 have HEr := zE h hg
 have HGy := zG h
 clear h hcap hw hsz ht hl hg hb0
 have HE0 := zh q0
 clear q0
 have HX := zh hx
 clear hx
 simp only [List.length_cons, List.length_nil, Nat.zero_add, Nat.reduceAdd]
 go_enter Tryz.func27, Tryz.ntmps27
 go_wp2_with fail
 generalize y.alloc (.cells #[.slice ad 6 cap] 56) = Y0 at *
 refine (uh HKb (uh HW0) (uh HB0)).mono ?_
 rintro e Y1 (⟨n', e', rfl, w', k'⟩ | ⟨e', rfl, k'⟩)
 case inr => rw [uh HE0] at e'; cases e'
 rw [uh HE0] at e'
 cases e'
 have HW1 := zh w'
 have HB1 := zh (uh HLow (uh HB0) k')
 clear w' k' HW0 HB0
 go_wp2_with fail
 refine (uh HNb (uh HW1) (uh HB1)).mono ?_
 rintro e Y2 (⟨n', e', rfl, w', k'⟩ | ⟨e', rfl, k'⟩)
 case inl => rw [uh HX] at e'; cases e'
 have HF := zh (did_read (out := .error 3) (uh HG) (uh HLow (uh HB1) k') rfl)
 clear k' e'
 go_wp2
 exact ⟨rfl, uh HF⟩
theorem dk_value_bad2 {w y : World} {s : Nat} {M : Nat -> Prop} {st : DkS} {v : Value} (x0 x1 x2 x3 x4 x5 : ByteArray) (ht : Tab w) (hl : Libs w) (hg : ErrorType w) (h : DkG w y s M st) (hv : WsI y v [x0, x1, x2, x3, x4, x5]) (a0 : Ky) (q0 : keyW x0 x1 x2 x3 = some a0) (a1 : Int) (q1 : numW x4 = some a1) (hx : numW x5 = none) :
  Calls Tryz.prog 27 #[.pointer (some ⟨s, 0, none⟩), v] y (Did w s M y st (.error 3)) := by
 obtain ⟨ad, cap, rfl, hcap, hw, hsz⟩ := hv
 have hb0 := below_box y (.cells #[.slice ad 6 cap] 56)
 have HW0 := zh (wd_new (y := y) (ad := ad) (n := 6) (cap := cap) ⟨ad, cap, rfl, hcap, hw, hsz⟩)
 have HB0 := zh hb0
 have HG := zh h
 have HSz := zh hsz
 have HNb := @zNb _ _ _ _ _ h hl ht
 have HKb := @zKb _ _ _ _ _ h hl ht
 have HSb := @zSb _ _ _ _ _ h hl ht
 have HLow := @zLo y
 have HT := zT h ht
 have HEr := zE h hg
 have HGy := zG h
 clear h hcap hw hsz ht hl hg hb0
 have HE0 := zh q0
 clear q0
 have HE1 := zh q1
 clear q1
 have HX := zh hx
 clear hx
 simp only [List.length_cons, List.length_nil, Nat.zero_add, Nat.reduceAdd]
 go_enter Tryz.func27, Tryz.ntmps27
 go_wp2_with fail
 generalize y.alloc (.cells #[.slice ad 6 cap] 56) = Y0 at *
 refine (uh HKb (uh HW0) (uh HB0)).mono ?_
 rintro e Y1 (⟨n', e', rfl, w', k'⟩ | ⟨e', rfl, k'⟩)
 case inr => rw [uh HE0] at e'; cases e'
 rw [uh HE0] at e'
 cases e'
 have HW1 := zh w'
 have HB1 := zh (uh HLow (uh HB0) k')
 clear w' k' HW0 HB0
 go_wp2_with fail
 refine (uh HNb (uh HW1) (uh HB1)).mono ?_
 rintro e Y2 (⟨n', e', rfl, w', k'⟩ | ⟨e', rfl, k'⟩)
 case inr => rw [uh HE1] at e'; cases e'
 rw [uh HE1] at e'
 cases e'
 have HW2 := zh w'
 have HB2 := zh (uh HLow (uh HB1) k')
 clear w' k' HW1 HB1
 go_wp2_with fail
 refine (uh HNb (uh HW2) (uh HB2)).mono ?_
 rintro e Y3 (⟨n', e', rfl, w', k'⟩ | ⟨e', rfl, k'⟩)
 case inl => rw [uh HX] at e'; cases e'
 have HF := zh (did_read (out := .error 3) (uh HG) (uh HLow (uh HB2) k') rfl)
 clear k' e'
 go_wp2
 exact ⟨rfl, uh HF⟩
theorem dk_value_ok {w y : World} {s : Nat} {M : Nat -> Prop} {st : DkS} {v : Value} (x0 x1 x2 x3 x4 x5 : ByteArray) (ht : Tab w) (hl : Libs w) (hg : ErrorType w) (h : DkG w y s M st) (hv : WsI y v [x0, x1, x2, x3, x4, x5]) (a0 : Ky) (q0 : keyW x0 x1 x2 x3 = some a0) (a1 : Int) (q1 : numW x4 = some a1) (a2 : Int) (q2 : numW x5 = some a2) :
  Calls Tryz.prog 27 #[.pointer (some ⟨s, 0, none⟩), v] y (Did w s M y st (outP (valE (stE st.es).1.length (stE st.es).2 a0 a1 a2) (dashB (valV (stE st.es).1 a0 a1 a2 (valE (stE st.es).1.length (stE st.es).2 a0 a1 a2))).data.toList)) := by
 obtain ⟨ad, cap, rfl, hcap, hw, hsz⟩ := hv
 have hb0 := below_box y (.cells #[.slice ad 6 cap] 56)
 have HW0 := zh (wd_new (y := y) (ad := ad) (n := 6) (cap := cap) ⟨ad, cap, rfl, hcap, hw, hsz⟩)
 have HB0 := zh hb0
 have HG := zh h
 have HSz := zh hsz
 have HNb := @zNb _ _ _ _ _ h hl ht
 have HKb := @zKb _ _ _ _ _ h hl ht
 have HSb := @zSb _ _ _ _ _ h hl ht
 have HLow := @zLo y
 have HT := zT h ht
 have HEr := zE h hg
 have HGy := zG h
 clear h hcap hw hsz ht hl hg hb0
 have HE0 := zh q0
 clear q0
 have HE1 := zh q1
 clear q1
 have HE2 := zh q2
 clear q2
 simp only [List.length_cons, List.length_nil, Nat.zero_add, Nat.reduceAdd]
 go_enter Tryz.func27, Tryz.ntmps27
 go_wp2_with fail
 generalize y.alloc (.cells #[.slice ad 6 cap] 56) = Y0 at *
 refine (uh HKb (uh HW0) (uh HB0)).mono ?_
 rintro e Y1 (⟨n', e', rfl, w', k'⟩ | ⟨e', rfl, k'⟩)
 case inr => rw [uh HE0] at e'; cases e'
 rw [uh HE0] at e'
 cases e'
 have HW1 := zh w'
 have HB1 := zh (uh HLow (uh HB0) k')
 clear w' k' HW0 HB0
 go_wp2_with fail
 refine (uh HNb (uh HW1) (uh HB1)).mono ?_
 rintro e Y2 (⟨n', e', rfl, w', k'⟩ | ⟨e', rfl, k'⟩)
 case inr => rw [uh HE1] at e'; cases e'
 rw [uh HE1] at e'
 cases e'
 have HW2 := zh w'
 have HB2 := zh (uh HLow (uh HB1) k')
 clear w' k' HW1 HB1
 go_wp2_with fail
 refine (uh HNb (uh HW2) (uh HB2)).mono ?_
 rintro e Y3 (⟨n', e', rfl, w', k'⟩ | ⟨e', rfl, k'⟩)
 case inr => rw [uh HE2] at e'; cases e'
 rw [uh HE2] at e'
 cases e'
 have HW3 := zh w'
 have HB3 := zh (uh HLow (uh HB2) k')
 clear w' k' HW2 HB2
 go_upto_region 2 with fail
 have hb0 := below_box Y3 (.cells #[.int .i64 a0.kind, .int .i64 a0.a, .string a0.word, .int .i64 a0.b] 73)
 have hbx := boxK_new Y3 a0
 have HY0 := zh ((uh HB3).trans (hb0.mono (uh HB3).size))
 clear hb0
 generalize Y3.alloc (.cells #[.int .i64 a0.kind, .int .i64 a0.a, .string a0.word, .int .i64 a0.b] 73) = W0 at *
 obtain ⟨dm, D, B, ps, F, g, m, X, Nd, Fs, hI, hM⟩ := uh HGy W0 (uh HY0)
 have HI := zh (fun W (hb : Below W0.heap.size W0 W) => hI.below hb)
 have HSx : Hid (∀ W, Below W0.heap.size W0 W -> W.cell? ⟨s, 1, none⟩ = some (.pointer (some ⟨B, 0, none⟩)) /\ W.cell? ⟨Y3.heap.size, 0, none⟩ = some (.int .i64 a0.kind) /\ W.cell? ⟨Y3.heap.size, 1, none⟩ = some (.int .i64 a0.a) /\ W.cell? ⟨Y3.heap.size, 2, none⟩ = some (.string a0.word) /\ W.cell? ⟨Y3.heap.size, 3, none⟩ = some (.int .i64 a0.b)) := fun W hb => ⟨(hI.below hb).c1, (hbx.below hb).c0, (hbx.below hb).c1, (hbx.below hb).c2, (hbx.below hb).c3⟩
 have HKy := zh (keyW_ok (uh HE0) (uh HSz x2 (by simp)))
 have HBd := zh (below_drew W0)
 have HEw := zh (fun W (hb : Below W0.heap.size W0 W) => uh HEr W ((uh HY0).trans (hb.mono (uh HY0).size)))
 clear hI hM hbx
 have HP := zh (past_value (uh HI _ (uh HBd)).past a0 (uh HKy) a1 a2 (numW_wf (uh HE2)).1 (numW_wf (uh HE2)).2)
 generalize valV (stE st.es).1 a0 a1 a2 (valE (stE st.es).1.length (stE st.es).2 a0 a1 a2) = pv at *
 generalize valE (stE st.es).1.length (stE st.es).2 a0 a1 a2 = pe at *
 refine wp_region_held_drew (S := fun W => W.cell? ⟨s, 1, none⟩ = some (.pointer (some ⟨B, 0, none⟩)) /\ W.cell? ⟨Y3.heap.size, 0, none⟩ = some (.int .i64 a0.kind) /\ W.cell? ⟨Y3.heap.size, 1, none⟩ = some (.int .i64 a0.a) /\ W.cell? ⟨Y3.heap.size, 2, none⟩ = some (.string a0.word) /\ W.cell? ⟨Y3.heap.size, 3, none⟩ = some (.int .i64 a0.b)) (by kernel_rfl) (uh HSx _ (uh HBd)) (fun hHeld => ?_)
 refine takeH 0 (h := ?_)
 try simp only [Act.put, sI, sZ, sS]
 refine takeH 1 (h := ?_)
 try simp only [Act.put, sI, sZ, sS]
 refine takeH 2 (h := ?_)
 try simp only [Act.put, sI, sZ, sS]
 refine takeH 3 (h := ?_)
 try simp only [Act.put, sI, sZ, sS]
 refine takeH 5 (h := ?_)
 try simp only [Act.put, sI, sZ, sS]
 refine takeH 6 (h := ?_)
 try simp only [Act.put, sI, sZ, sS]
 refine takeH 7 (h := ?_)
 try simp only [Act.put, sI, sZ, sS]
 refine readyH 4 (h := fun K hK => ?_)
 go_simp
 refine (base_Past _ B).mono ?_
 rintro e Z0 ⟨rfl, hZ0⟩
 subst hZ0
 refine hK.out _ _ (uh HSx _ (uh HBd)) (fun hHeld => ?_)
 clear hK K
 try simp only [Act.put, sI, sZ, sS]
 refine readyH 8 (h := fun K hK => ?_)
 go_simp
 refine (uh HP).mono ?_
 rintro e Z1 ⟨rfl, b1⟩
 have HZ1 := zh ((uh HBd).trans (b1.mono (uh HBd).size))
 have HS1 := zh (sure_text pv pe Z1 (uh HEw Z1 (uh HZ1)))
 clear b1 HP
 refine hK.out _ _ (uh HSx Z1 (uh HZ1)) (fun hHeld => ?_)
 clear hK K
 try simp only [Act.put, sI, sZ, sS]
 refine takeH 9 (h := ?_)
 try simp only [Act.put, sI, sZ, sS]
 refine takeH 10 (h := ?_)
 try simp only [Act.put, sI, sZ, sS]
 refine readyH 11 (h := fun K hK => ?_)
 go_simp
 refine (uh HS1).mono ?_
 by_cases he : pe = 0
 ·rw [if_pos he]
  rintro e Z2 ⟨rfl, b2⟩
  have HZ2 := zh ((uh HZ1).trans (b2.mono (uh HZ1).size))
  clear b2 HS1
  refine hK.out _ _ (uh HSx Z2 (uh HZ2)) (fun hHeld => ?_)
  clear hK K
  try simp only [Act.put, sI, sZ, sS]
  refine readyH 12 (h := fun K hK => ?_)
  go_simp
  refine (desk_dash pv Z2).mono ?_
  rintro e Z3 ⟨rfl, hZ3⟩
  subst hZ3
  refine hK.out _ _ (uh HSx _ (uh HZ2)) (fun hHeld => ?_)
  clear hK K
  try simp only [Act.put, sI, sZ, sS]
  refine takeH 13 (h := ?_)
  try simp only [Act.put, sI, sZ, sS]
  refine wpAnyH_done (by kernel_rfl) ?_ _
  have HF := zh (did_read (out := outP pe (dashB pv).data.toList) (uh HG) ((uh HY0).trans ((uh HZ2).mono (uh HY0).size)) (e := .returned (.string (dashB pv))) (by unfold outP; rw [if_pos he]; rfl))
  clear hHeld
  go_wp2
  go_ret
  exact uh HF
 ·rw [if_neg he]
  rintro e Z2 ⟨rfl, b2⟩
  have hz := (uh HZ1).trans (b2.mono (uh HZ1).size)
  have HF := zh (did_read (out := outP pe (dashB pv).data.toList) (uh HG) ((uh HY0).trans (hz.mono (uh HY0).size)) (e := thrown pe) (by unfold outP; rw [if_neg he]; rfl))
  clear b2 HS1 hK hz
  go_wp2
  exact ⟨rfl, uh HF⟩
theorem refS_flat (txs : List (List Fop)) (k : Ky) (c : Nat) (t : Int) : refS txs k c t = ((txs.take c).flatten).foldl (stepV k t) ⟨#[]⟩ := by
 unfold refS
 rw [List.foldl_flatten]
 rfl
theorem flat_len : ∀ (txs : List (List Fop)), TxsOk txs -> txs.flatten.length <= 8 * txs.length
 | [], _ => by simp
 | l :: txs, h => by
  have h1 := (h l (by simp)).2.1
  have h2 := flat_len txs (fun x hx => h x (List.mem_cons_of_mem _ hx))
  simp only [List.flatten_cons, List.length_append, List.length_cons]
  omega
theorem flat_of {txs : List (List Fop)} {c : Nat} {o : Fop} (h : o ∈ (txs.take c).flatten) : o ∈ txs.flatten := by
 obtain ⟨l, hl, ho⟩ := List.mem_flatten.1 h
 exact List.mem_flatten.2 ⟨l, List.mem_of_mem_take hl, ho⟩
theorem fold_same {k : Ky} {t : Int} : ∀ (ops : List Fop) (v : ByteArray), (∀ o, o ∈ ops -> o.lo ≠ t /\ o.hi ≠ t) -> ops.foldl (stepV k (t - 1)) v = ops.foldl (stepV k t) v
 | [], _, _ => rfl
 | o :: ops, v, h => by
  have h0 := h o (by simp)
  have e : stepV k (t - 1) v o = stepV k t v o := by
   unfold stepV
   rw [show decide (o.lo <= t - 1 /\ t - 1 < o.hi) = decide (o.lo <= t /\ t < o.hi) from decide_eq_decide.2 (by omega)]
  rw [List.foldl_cons, List.foldl_cons, e]
  exact fold_same ops _ (fun x hx => h x (List.mem_cons_of_mem _ hx))
theorem fold_mem {k : Ky} {t : Int} : ∀ (ops : List Fop) (v : ByteArray), ops.foldl (stepV k t) v = v \/ ∃ o, o ∈ ops /\ ops.foldl (stepV k t) v = o.value
 | [], _ => .inl rfl
 | o :: ops, v => by
  rw [List.foldl_cons]
  rcases fold_mem ops (stepV k t v o) with e | ⟨x, hx, e⟩
  ·unfold stepV at e ⊢
   split at e
   ·rename_i q
    rw [if_pos q]
    exact .inr ⟨o, by simp, e⟩
   ·rename_i q
    rw [if_neg q]
    exact .inl e
  ·exact .inr ⟨x, List.mem_cons_of_mem _ hx, e⟩
def marks (txs : List (List Fop)) : List Int := txs.flatten.map (·.lo) ++ txs.flatten.map (·.hi)
theorem marks_len {txs : List (List Fop)} (h : TxsOk txs) (hl : txs.length <= 150) : (marks txs).length <= 2400 := by
 have := flat_len txs h
 unfold marks
 simp only [List.length_append, List.length_map]
 omega
theorem ref_mark {txs : List (List Fop)} {k : Ky} {c : Nat} {t : Int} (h : refS txs k c (t - 1) ≠ refS txs k c t) : t ∈ marks txs := by
 rcases Classical.em (t ∈ marks txs) with q | q
 ·exact q
 ·refine absurd ?_ h
  rw [refS_flat, refS_flat]
  refine fold_same _ _ (fun o ho => ⟨fun e => q ?_, fun e => q ?_⟩)
  ·exact List.mem_append.2 (.inl (List.mem_map.2 ⟨o, flat_of ho, e⟩))
  ·exact List.mem_append.2 (.inr (List.mem_map.2 ⟨o, flat_of ho, e⟩))
theorem right_all {p : Int × Int × ByteArray} (h : rightB p.1 p.2.1 = true) : -1099511627776 <= p.1 /\ p.2.1 <= 1099511627776 /\ p.1 < p.2.1 := of_decide_eq_true h
theorem piece_mark {txs : List (List Fop)} {k : Ky} {c : Nat} {ps : List (Int × Int × ByteArray)} (hc : Canon ps) (hf : Covers ps (fun t => refS txs k c t)) (i : Nat) (hi : i < ps.length) : ps[i].1 ∈ marks txs := by
 apply ref_mark (k := k) (c := c)
 intro e
 have hr := right_all (hc.right _ (List.getElem_mem hi)).1
 have hv := (hf ps[i].1).1 ps[i] (List.getElem_mem hi) (Int.le_refl _) hr.2.2
 have hne := (hc.right _ (List.getElem_mem hi)).2
 have hv' : ps[i].2.2 = refS txs k c ps[i].1 := hv
 rw [hv'] at hne
 rw [<- e] at hne
 obtain ⟨p, hp, h1, h2⟩ := (hf (ps[i].1 - 1)).2 hne
 have hpv : p.2.2 = refS txs k c (ps[i].1 - 1) := (hf (ps[i].1 - 1)).1 p hp h1 h2
 obtain ⟨j, hj, rfl⟩ := List.getElem_of_mem hp
 rcases Nat.lt_trichotomy j i with q | q | q
 ·have hrise := List.pairwise_iff_getElem.1 hc.rise
  have hji := hrise j i hj hi q
  have hj1 : j + 1 < ps.length := by omega
  rcases Nat.lt_or_ge (j + 1) i with r | r
  ·have a1 := hrise j (j + 1) hj hj1 (by omega)
   have a2 := hrise (j + 1) i hj1 hi r
   have a3 := right_all (hc.right _ (List.getElem_mem hj1)).1
   omega
  ·have : i = j + 1 := by omega
   subst this
   refine hc.parted j hj1 ⟨by omega, ?_⟩
   rw [hpv, hv', e]
 ·subst q
  omega
 ·have hrise := List.pairwise_iff_getElem.1 hc.rise
  have := hrise i j hi hj q
  omega
theorem pieces_few {txs : List (List Fop)} (h : TxsOk txs) (hl : txs.length <= 150) {k : Ky} {a n : Int} {ps : List (Int × Int × ByteArray)} (hp : PieSay txs k a n ps) : ps.length <= 4001 /\ ∀ p, p ∈ ps -> (-9223372036854775808 <= p.1 /\ p.1 <= 9223372036854775807) /\ (-9223372036854775808 <= p.2.1 /\ p.2.1 <= 9223372036854775807) /\ p.2.2.size <= 30000 := by
 obtain ⟨hc, hf⟩ := hp
 by_cases hn : n = 0
 ·simp only [if_pos hn] at hf
  refine ⟨?_, fun p hp => ?_⟩
  ·have h1 : (ps.map (·.1)).Nodup := by
    rw [List.nodup_iff_pairwise_ne, List.pairwise_map]
    refine (List.pairwise_iff_getElem.2 fun i j hi hj q => ?_)
    have := List.pairwise_iff_getElem.1 hc.rise i j hi hj q
    have := right_all (hc.right _ (List.getElem_mem hi)).1
    omega
   have h2 := nodup_len (ps.map (·.1)) (marks txs) h1 (fun z hz => by
    obtain ⟨p, hp, rfl⟩ := List.mem_map.1 hz
    obtain ⟨i, hi, rfl⟩ := List.getElem_of_mem hp
    exact piece_mark hc hf i hi)
   rw [List.length_map] at h2
   have := marks_len h hl
   omega
  ·have hr := right_all (hc.right p hp).1
   refine ⟨by omega, by omega, ?_⟩
   have := (hf p.1).1 p hp (Int.le_refl _) hr.2.2
   rw [this]
   exact Nat.le_trans (refS_size h _ _ _) (by decide)
 ·simp only [if_neg hn] at hf
  have : ps = [] := by
   rcases ps with _ | ⟨p, ps⟩
   ·rfl
   ·have hr := hc.right p (by simp)
    exact absurd ((hf p.1).1 p (by simp) (Int.le_refl _) (right_all hr.1).2.2) hr.2
  subst this
  exact ⟨by simp, by simp⟩
theorem ever_few {txs : List (List Fop)} (h : TxsOk txs) (hl : txs.length <= 150) {k : Ky} {a b lo hi n : Int} {L : List (List UInt8)} (hp : EverL txs k a b lo hi n L) : L.length <= 4001 /\ ∀ x, x ∈ L -> x.length <= 12 := by
 refine ⟨?_, fun x hx => ?_⟩
 ·have hn : L.Nodup := hp.1.imp (fun {a b} q e => by subst e; exact lt_irr _ q)
  have h2 := nodup_len L (txs.flatten.map (fun o => o.value.data.toList)) hn (fun x hx => by
   obtain ⟨_, hne, c, t, _, _, _, _, e⟩ := (hp.2 x).1 hx
   rw [refS_flat] at e
   rcases fold_mem ((txs.take c.toNat).flatten) (⟨#[]⟩ : ByteArray) (k := k) (t := t) with q | ⟨o, ho, q⟩
   ·rw [q] at e
    exact absurd e.symm hne
   ·rw [q] at e
    exact List.mem_map.2 ⟨o, flat_of ho, e⟩)
  rw [List.length_map] at h2
  have := flat_len txs h
  omega
 ·obtain ⟨_, _, c, t, _, _, _, _, rfl⟩ := (hp.2 x).1 hx
  have := refS_size h k c.toNat t
  simpa using this
theorem RowP.cells {W : World} {base : Nat} {v : Value} {L : List (Int × Int × ByteArray)} (h : RowP W base v L) : ∃ g ad c, v = .slice ad L.length c /\ ∀ j, (hj : j < L.length) -> ad = some ⟨g, 0, none⟩ /\ W.cell? ⟨g, j * 3, none⟩ = some (.int .i64 L[j].1) /\ W.cell? ⟨g, j * 3 + 1, none⟩ = some (.int .i64 L[j].2.1) /\ W.cell? ⟨g, j * 3 + 2, none⟩ = some (.string L[j].2.2) := by
 rcases (show World.ownsRow _ _ _ _ _ _ _ from h).2 with ⟨h1, h2⟩ | ⟨g, cap, cur, hv, _, hh, _, _, _, h6⟩
 ·exact ⟨0, none, 0, by rw [h1, h2], fun j hj => by omega⟩
 ·refine ⟨g, _, cap, hv, fun j hj => ⟨rfl, ?_⟩⟩
  have key : ∀ i u, i < L.length * 3 -> (encP L)[i]? = some u -> W.cell? ⟨g, i, none⟩ = some u := fun i u hi e => by
   unfold World.cell?
   simp only [hh]
   have q : cur.toList[i]? = (encP L)[i]? := by rw [<- h6, List.getElem?_take_of_lt (by omega)]
   rw [e] at q
   simpa using q
  obtain ⟨e0, e1, e2⟩ := encP_at L j hj
  exact ⟨key _ _ (by omega) e0, key _ _ (by omega) e1, key _ _ (by omega) e2⟩
theorem RowT.slice {W : World} {base : Nat} {v : Value} {L : List (List UInt8)} (h : RowT W base v L) : ∃ ad c, v = .slice ad L.length c := by
 rcases (show World.ownsRow _ _ _ _ _ _ _ from h).2 with ⟨h1, h2⟩ | ⟨g, cap, cur, hv, _⟩
 ·exact ⟨none, 0, by rw [h1, h2]⟩
 ·exact ⟨_, _, hv⟩
theorem RowT.carry {W W' : World} {base : Nat} {v : Value} {L : List (List UInt8)} (h : RowT W base v L) (hb : Below W.heap.size W W') : RowT W' base v L := ownsRow_carry h hb
theorem row_join {W : World} {base : Nat} {v : Value} {L : List (List UInt8)} (h : RowT W base v L) (sep : ByteArray) (hn : L.length <= 5000) (hs : ∀ x, x ∈ L -> x.length <= 200000) (hsep : sep.size <= 10) :
  Calls Tryz.prog 50 #[v, .string sep] W fun e w' => e = .returned (.string ⟨(Lib.join L sep.data.toList).toArray⟩) /\ Below W.heap.size W w' := by
 rcases (show World.ownsRow _ _ _ _ _ _ _ from h).2 with ⟨h1, h2⟩ | ⟨g, cap, cur, hv, _, hh, h3, h4, h5, h6⟩
 ·subst h1
  have : L = [] := List.eq_nil_of_length_eq_zero h2
  subst this
  exact (join_none sep W).mono fun e w' ⟨q, r⟩ => ⟨by rw [q]; rfl, by rw [r]; exact Below.refl _ _⟩
 ·subst hv
  have hmap : (L.map fun z => (⟨z.toArray⟩ : ByteArray)).map (·.data.toList) = L := by
   rw [List.map_map, show ((fun x : ByteArray => x.data.toList) ∘ fun z : List UInt8 => (⟨z.toArray⟩ : ByteArray)) = id from funext fun z => by simp]
   exact List.map_id L
  have hlen : (Lib.join L sep.data.toList).length <= 140737488355328 := by
   have h1 := join_le L sep.data.toList 200000 hs
   have h2 : sep.data.toList.length = sep.size := by show sep.data.toList.length = sep.data.size; simp
   rw [h2] at h1
   have h3 : L.length * (200000 + sep.size) <= 5000 * 200010 := Nat.mul_le_mul hn (by omega)
   omega
  have hg : g < W.heap.size := by
   rcases Nat.lt_or_ge g W.heap.size with q | q
   ·exact q
   ·rw [Array.getElem?_eq_none q] at hh
    cases hh
  have key := Tryz.strings_Join g 0 cap (L.map fun z => (⟨z.toArray⟩ : ByteArray)) sep W (fun j x hj => by
   rw [List.getElem?_map] at hj
   unfold World.cell?
   simp only [hh]
   cases e : L[j]? with
   | none => rw [e] at hj; cases hj
   | some z =>
    rw [e] at hj
    cases hj
    have hjl : j < L.length := (List.getElem?_eq_some_iff.1 e).1
    have q : cur.toList[j]? = (L.map encStr)[j]? := by rw [<- h6, List.getElem?_take_of_lt (by omega)]
    rw [List.getElem?_map, e] at q
    simpa using q) hg (by simp; omega) (by simp; omega) (by rw [hmap]; exact hlen)
  rw [hmap, List.length_map] at key
  exact key
theorem dk_pieces_bad0 {w y : World} {s : Nat} {M : Nat -> Prop} {st : DkS} {v : Value} (x0 x1 x2 x3 x4 : ByteArray) (ht : Tab w) (hl : Libs w) (hg : ErrorType w) (h : DkG w y s M st) (hv : WsI y v [x0, x1, x2, x3, x4]) (hx : keyW x0 x1 x2 x3 = none) :
  Calls Tryz.prog 25 #[.pointer (some ⟨s, 0, none⟩), v] y (Did w s M y st (.error 3)) := by
 obtain ⟨ad, cap, rfl, hcap, hw, hsz⟩ := hv
 have hb0 := below_box y (.cells #[.slice ad 5 cap] 56)
 have HW0 := zh (wd_new (y := y) (ad := ad) (n := 5) (cap := cap) ⟨ad, cap, rfl, hcap, hw, hsz⟩)
 have HB0 := zh hb0
 have HG := zh h
 have HSz := zh hsz
 have HNb := @zNb _ _ _ _ _ h hl ht
 have HKb := @zKb _ _ _ _ _ h hl ht
 have HSb := @zSb _ _ _ _ _ h hl ht
 have HLow := @zLo y
 have HT := zT h ht
 have HEr := zE h hg
 have HGy := zG h
 clear h hcap hw hsz ht hl hg hb0
 have HX := zh hx
 clear hx
 simp only [List.length_cons, List.length_nil, Nat.zero_add, Nat.reduceAdd]
 go_enter Tryz.func25, Tryz.ntmps25
 go_wp2_with fail
 generalize y.alloc (.cells #[.slice ad 5 cap] 56) = Y0 at *
 refine (uh HKb (uh HW0) (uh HB0)).mono ?_
 rintro e Y1 (⟨n', e', rfl, w', k'⟩ | ⟨e', rfl, k'⟩)
 case inl => rw [uh HX] at e'; cases e'
 have HF := zh (did_read (out := .error 3) (uh HG) (uh HLow (uh HB0) k') rfl)
 clear k' e'
 go_wp2
 exact ⟨rfl, uh HF⟩
theorem dk_pieces_bad1 {w y : World} {s : Nat} {M : Nat -> Prop} {st : DkS} {v : Value} (x0 x1 x2 x3 x4 : ByteArray) (ht : Tab w) (hl : Libs w) (hg : ErrorType w) (h : DkG w y s M st) (hv : WsI y v [x0, x1, x2, x3, x4]) (a0 : Ky) (q0 : keyW x0 x1 x2 x3 = some a0) (hx : numW x4 = none) :
  Calls Tryz.prog 25 #[.pointer (some ⟨s, 0, none⟩), v] y (Did w s M y st (.error 3)) := by
 obtain ⟨ad, cap, rfl, hcap, hw, hsz⟩ := hv
 have hb0 := below_box y (.cells #[.slice ad 5 cap] 56)
 have HW0 := zh (wd_new (y := y) (ad := ad) (n := 5) (cap := cap) ⟨ad, cap, rfl, hcap, hw, hsz⟩)
 have HB0 := zh hb0
 have HG := zh h
 have HSz := zh hsz
 have HNb := @zNb _ _ _ _ _ h hl ht
 have HKb := @zKb _ _ _ _ _ h hl ht
 have HSb := @zSb _ _ _ _ _ h hl ht
 have HLow := @zLo y
 have HT := zT h ht
 have HEr := zE h hg
 have HGy := zG h
 clear h hcap hw hsz ht hl hg hb0
 have HE0 := zh q0
 clear q0
 have HX := zh hx
 clear hx
 simp only [List.length_cons, List.length_nil, Nat.zero_add, Nat.reduceAdd]
 go_enter Tryz.func25, Tryz.ntmps25
 go_wp2_with fail
 generalize y.alloc (.cells #[.slice ad 5 cap] 56) = Y0 at *
 refine (uh HKb (uh HW0) (uh HB0)).mono ?_
 rintro e Y1 (⟨n', e', rfl, w', k'⟩ | ⟨e', rfl, k'⟩)
 case inr => rw [uh HE0] at e'; cases e'
 rw [uh HE0] at e'
 cases e'
 have HW1 := zh w'
 have HB1 := zh (uh HLow (uh HB0) k')
 clear w' k' HW0 HB0
 go_wp2_with fail
 refine (uh HNb (uh HW1) (uh HB1)).mono ?_
 rintro e Y2 (⟨n', e', rfl, w', k'⟩ | ⟨e', rfl, k'⟩)
 case inl => rw [uh HX] at e'; cases e'
 have HF := zh (did_read (out := .error 3) (uh HG) (uh HLow (uh HB1) k') rfl)
 clear k' e'
 go_wp2
 exact ⟨rfl, uh HF⟩
theorem dk_pieces_ok {w y : World} {s : Nat} {M : Nat -> Prop} {st : DkS} {v : Value} (x0 x1 x2 x3 x4 : ByteArray) (ht : Tab w) (hl : Libs w) (hg : ErrorType w) (h : DkG w y s M st) (hv : WsI y v [x0, x1, x2, x3, x4]) (a0 : Ky) (q0 : keyW x0 x1 x2 x3 = some a0) (a1 : Int) (q1 : numW x4 = some a1) (Lk : List (Int × Int × ByteArray)) (hU : ∀ Lz, PieSay (stE st.es).1 a0 a1 (pieE (stE st.es).1.length (stE st.es).2 a0 a1) Lz -> Lk = Lz) :
  Calls Tryz.prog 25 #[.pointer (some ⟨s, 0, none⟩), v] y (Did w s M y st (outP (pieE (stE st.es).1.length (stE st.es).2 a0 a1) ([112, 105, 101, 99, 101, 115, 32] ++ Lib.join (Lk.map pieceL) [44, 32]))) := by
 obtain ⟨ad, cap, rfl, hcap, hw, hsz⟩ := hv
 have hb0 := below_box y (.cells #[.slice ad 5 cap] 56)
 have HW0 := zh (wd_new (y := y) (ad := ad) (n := 5) (cap := cap) ⟨ad, cap, rfl, hcap, hw, hsz⟩)
 have HB0 := zh hb0
 have HG := zh h
 have HSz := zh hsz
 have HNb := @zNb _ _ _ _ _ h hl ht
 have HKb := @zKb _ _ _ _ _ h hl ht
 have HSb := @zSb _ _ _ _ _ h hl ht
 have HLow := @zLo y
 have HT := zT h ht
 have HEr := zE h hg
 have HGy := zG h
 clear h hcap hw hsz ht hl hg hb0
 have HE0 := zh q0
 clear q0
 have HE1 := zh q1
 clear q1
 simp only [List.length_cons, List.length_nil, Nat.zero_add, Nat.reduceAdd]
 go_enter Tryz.func25, Tryz.ntmps25
 go_wp2_with fail
 generalize y.alloc (.cells #[.slice ad 5 cap] 56) = Y0 at *
 refine (uh HKb (uh HW0) (uh HB0)).mono ?_
 rintro e Y1 (⟨n', e', rfl, w', k'⟩ | ⟨e', rfl, k'⟩)
 case inr => rw [uh HE0] at e'; cases e'
 rw [uh HE0] at e'
 cases e'
 have HW1 := zh w'
 have HB1 := zh (uh HLow (uh HB0) k')
 clear w' k' HW0 HB0
 go_wp2_with fail
 refine (uh HNb (uh HW1) (uh HB1)).mono ?_
 rintro e Y2 (⟨n', e', rfl, w', k'⟩ | ⟨e', rfl, k'⟩)
 case inr => rw [uh HE1] at e'; cases e'
 rw [uh HE1] at e'
 cases e'
 have HW2 := zh w'
 have HB2 := zh (uh HLow (uh HB1) k')
 clear w' k' HW1 HB1
 go_upto_region 2 with fail
 have hb0 := below_box Y2 (.cells #[.int .i64 a0.kind, .int .i64 a0.a, .string a0.word, .int .i64 a0.b] 73)
 have hbx := boxK_new Y2 a0
 have HY0 := zh ((uh HB2).trans (hb0.mono (uh HB2).size))
 clear hb0
 generalize Y2.alloc (.cells #[.int .i64 a0.kind, .int .i64 a0.a, .string a0.word, .int .i64 a0.b] 73) = W0 at *
 obtain ⟨dm, D, B, ps, F, g, m, X, Nd, Fs, hI, hM⟩ := uh HGy W0 (uh HY0)
 have HI := zh (fun W (hb : Below W0.heap.size W0 W) => hI.below hb)
 have HSx : Hid (∀ W, Below W0.heap.size W0 W -> W.cell? ⟨s, 1, none⟩ = some (.pointer (some ⟨B, 0, none⟩)) /\ W.cell? ⟨Y2.heap.size, 0, none⟩ = some (.int .i64 a0.kind) /\ W.cell? ⟨Y2.heap.size, 1, none⟩ = some (.int .i64 a0.a) /\ W.cell? ⟨Y2.heap.size, 2, none⟩ = some (.string a0.word) /\ W.cell? ⟨Y2.heap.size, 3, none⟩ = some (.int .i64 a0.b)) := fun W hb => ⟨(hI.below hb).c1, (hbx.below hb).c0, (hbx.below hb).c1, (hbx.below hb).c2, (hbx.below hb).c3⟩
 have HKy := zh (keyW_ok (uh HE0) (uh HSz x2 (by simp)))
 have HBd := zh (below_drew W0)
 have HEw := zh (fun W (hb : Below W0.heap.size W0 W) => uh HEr W ((uh HY0).trans (hb.mono (uh HY0).size)))
 clear hI hM hbx
 have HP := zh (past_pieces (uh HI _ (uh HBd)).past a0 (uh HKy) a1)
 have HU := zh hU
 have HOk := zh (uh HI _ (uh HBd)).past
 clear hU
 generalize hpe : pieE (stE st.es).1.length (stE st.es).2 a0 a1 = pe at *
 clear hpe
 refine wp_region_held_drew (S := fun W => W.cell? ⟨s, 1, none⟩ = some (.pointer (some ⟨B, 0, none⟩)) /\ W.cell? ⟨Y2.heap.size, 0, none⟩ = some (.int .i64 a0.kind) /\ W.cell? ⟨Y2.heap.size, 1, none⟩ = some (.int .i64 a0.a) /\ W.cell? ⟨Y2.heap.size, 2, none⟩ = some (.string a0.word) /\ W.cell? ⟨Y2.heap.size, 3, none⟩ = some (.int .i64 a0.b)) (by kernel_rfl) (uh HSx _ (uh HBd)) (fun hHeld => ?_)
 refine takeH 0 (h := ?_)
 try simp only [Act.put, sI, sZ, sS]
 refine takeH 1 (h := ?_)
 try simp only [Act.put, sI, sZ, sS]
 refine takeH 2 (h := ?_)
 try simp only [Act.put, sI, sZ, sS]
 refine takeH 3 (h := ?_)
 try simp only [Act.put, sI, sZ, sS]
 refine takeH 5 (h := ?_)
 try simp only [Act.put, sI, sZ, sS]
 refine takeH 6 (h := ?_)
 try simp only [Act.put, sI, sZ, sS]
 refine readyH 4 (h := fun K hK => ?_)
 go_simp
 refine (base_Past _ B).mono ?_
 rintro e Z0 ⟨rfl, hZ0⟩
 subst hZ0
 refine hK.out _ _ (uh HSx _ (uh HBd)) (fun hHeld => ?_)
 clear hK K
 try simp only [Act.put, sI, sZ, sS]
 refine readyH 7 (h := fun K hK => ?_)
 go_simp
 refine (uh HP).mono ?_
 rintro e Z1 ⟨v1, Lz, rfl, r1, hk, b1⟩
 obtain rfl := uh HU Lz hk
 have HZ1 := zh ((uh HBd).trans (b1.mono (uh HBd).size))
 obtain ⟨fw1, fw2⟩ := pieces_few (uh HOk).ok (uh HOk).most hk
 have HLn : Hid (Lk.length <= 4001) := fw1
 have HPz := zh fw2
 have HLe : Hid (∀ z, z ∈ Lk -> (pieceL z).length <= 200000) := fun z hz => pieceL_le z (uh HPz z hz).1 (uh HPz z hz).2.1 (uh HPz z hz).2.2
 clear hk b1 HP HU HOk fw1 fw2
 obtain ⟨gr, adr, cr, rfl, hcr⟩ := RowP.cells r1
 have HCr := zh hcr
 have HS1 := zh (sure_pieces adr (Lk).length cr pe Z1 (uh HEw Z1 (uh HZ1)))
 clear hcr r1
 obtain ⟨ln, hln⟩ : ∃ n, n = (Lk).length := ⟨_, rfl⟩
 have HLz := zh hln
 rw [<- hln] at HS1 ⊢
 clear hln
 refine hK.out _ _ (uh HSx Z1 (uh HZ1)) (fun hHeld => ?_)
 clear hK K
 try simp only [Act.put, sI, sZ, sS]
 refine takeH 8 (h := ?_)
 try simp only [Act.put, sI, sZ, sS]
 refine takeH 9 (h := ?_)
 try simp only [Act.put, sI, sZ, sS]
 refine readyH 10 (h := fun K hK => ?_)
 go_simp
 refine (uh HS1).mono ?_
 by_cases he : pe = 0
 ·rw [if_pos he]
  rintro e Z2 ⟨rfl, b2⟩
  have HZ2 := zh ((uh HZ1).trans (b2.mono (uh HZ1).size))
  have hTl := tell_pieces Lk pieceL ⟨#[44, 32]⟩ Z2 adr gr cr (Nat.le_trans (uh HLn) (by decide)) (fun j hj => ⟨(uh HCr j hj).1, there_yet (uh HCr j hj).2.1 b2, there_yet (uh HCr j hj).2.2.1 b2, there_yet (uh HCr j hj).2.2.2 b2⟩) (fun z hz W hb => piece_text z W (uh HPz z hz).1 (uh HPz z hz).2.1 (uh HPz z hz).2.2 (uh HT W ((uh HY0).trans (((uh HZ2).trans (hb.mono (uh HZ2).size)).mono (uh HY0).size)))) (uh HLe) (by decide)
  rw [<- uh HLz] at hTl
  have HTl := zh hTl
  have hln : (Lib.join ((Lk).map pieceL) [44, 32]).length <= 1500000000 := by
   have h1 := join_le ((Lk).map pieceL) [44, 32] 200000 (fun x hx => by
    obtain ⟨z, hz, rfl⟩ := List.mem_map.1 hx
    exact uh HLe z hz)
   rw [List.length_map] at h1
   have := uh HLn
   simp only [List.length_cons, List.length_nil] at h1
   omega
  obtain ⟨tb, htb⟩ : ∃ tb : ByteArray, tb = ⟨(Lib.join ((Lk).map pieceL) [44, 32]).toArray⟩ := ⟨_, rfl⟩
  have hts : tb.size <= 1500000000 := by rw [htb]; show (Lib.join ((Lk).map pieceL) [44, 32]).toArray.size <= _; simpa using hln
  have HTb := zh htb
  have hTl2 : Calls Tryz.prog 69 #[.slice adr ln cr, .func (.func 72) #[] #[], .string ⟨#[44, 32]⟩] Z2 fun e w' => e = .returned (.string tb) /\ Below Z2.heap.size Z2 w' := by rw [htb]; exact uh HTl
  have HTl2 := zh hTl2
  clear b2 HS1 hTl htb hln hTl2 HTl
  refine hK.out _ _ (uh HSx Z2 (uh HZ2)) (fun hHeld => ?_)
  clear hK K
  try simp only [Act.put, sI, sZ, sS]
  refine readyH 11 (h := fun K hK => ?_)
  go_simp
  refine (uh HTl2).mono ?_
  rintro e Z3 ⟨rfl, b3⟩
  have HZ3 := zh ((uh HZ2).trans (b3.mono (uh HZ2).size))
  have HF := zh (did_read (out := outP pe ([112, 105, 101, 99, 101, 115, 32] ++ Lib.join ((Lk).map pieceL) [44, 32])) (uh HG) ((uh HY0).trans ((uh HZ3).mono (uh HY0).size)) (e := .returned (.string (⟨#[112, 105, 101, 99, 101, 115, 32]⟩ ++ tb))) (by
   unfold outP
   rw [if_pos he, uh HTb]
   exact congrArg (fun b => Ending.returned (.string b)) (ByteArray.ext (Array.toList_inj.1 (by simp)))))
  clear b3 HTl2
  refine hK.out _ _ (uh HSx Z3 (uh HZ3)) (fun hHeld => ?_)
  clear hK K
  try simp only [Act.put, sI, sZ, sS]
  refine readyH 12 (h := fun K hK => ?_)
  go_simp
  rw [if_neg (by omega)]
  try simp only [Result.andThen]
  refine hK.out _ _ (uh HSx Z3 (uh HZ3)) (fun hHeld => ?_)
  clear hK K
  try simp only [Act.put, sI, sZ, sS]
  refine takeH 13 (h := ?_)
  try simp only [Act.put, sI, sZ, sS]
  refine wpAnyH_done (by kernel_rfl) ?_ _
  clear hHeld
  go_wp2
  go_ret
  exact uh HF
 ·rw [if_neg he]
  rintro e Z2 ⟨rfl, b2⟩
  have hz := (uh HZ1).trans (b2.mono (uh HZ1).size)
  have HF := zh (did_read (out := outP pe ([112, 105, 101, 99, 101, 115, 32] ++ Lib.join ((Lk).map pieceL) [44, 32])) (uh HG) ((uh HY0).trans (hz.mono (uh HY0).size)) (e := thrown pe) (by unfold outP; rw [if_neg he]; rfl))
  clear b2 HS1 hK hz
  go_wp2
  exact ⟨rfl, uh HF⟩
end Go.Proofs.YtbmkmfoaoganeaaGreatDoor
