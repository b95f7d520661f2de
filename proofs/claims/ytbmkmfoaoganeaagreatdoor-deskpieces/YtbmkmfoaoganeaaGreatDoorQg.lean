/- Texts of one proof, one behind the other. -/
import Derived.Test.YtbmkmfoaoganeaaGreatDoorQf
import Derived.Shelf.Strings.BuilderK
set_option maxRecDepth 100000
set_option maxHeartbeats 16000000
namespace Go.Proofs.YtbmkmfoaoganeaaGreatDoor
open Go.RowKit Go.Shelf
attribute [local go_sem] Oper.semAt_some
theorem app_text (a : List UInt8) : ((⟨a.toArray⟩ : ByteArray) ++ ⟨#[10]⟩).data.toList = a ++ [10] := by simp
theorem app_size (a : List UInt8) : ((⟨a.toArray⟩ : ByteArray) ++ ⟨#[10]⟩).size = a.length + 1 := by
 have h : ((⟨a.toArray⟩ : ByteArray) ++ ⟨#[10]⟩).data.toList.length = ((⟨a.toArray⟩ : ByteArray) ++ ⟨#[10]⟩).size := Array.length_toList
 rw [<- h, app_text]
 simp
theorem ses_begin {w Y : World} {text : ByteArray} {o : List UInt8} {stE : DkS} {s : Nat} {M : Nat -> Prop} (hR : RunP st0 (linesD text) o stE) (hG : DkG w Y s M st0) (ob : Obj) :
  SesI w text o stE s Y.heap.size [] (((((Y.alloc (.cells #[.pointer (some ⟨s, 0, none⟩)] 26)).alloc (.cells #[.pointer none, .slice none 0 0] 31)).alloc (.cells #[.string text] 9)).alloc (.deferred (some []))).alloc ob) := by
 have hb1 := below_box Y (.cells #[.pointer (some ⟨s, 0, none⟩)] 26)
 have hz1 : (Y.alloc (.cells #[.pointer (some ⟨s, 0, none⟩)] 26)).heap.size = Y.heap.size + 1 := by simp
 have hc1 : (Y.alloc (.cells #[.pointer (some ⟨s, 0, none⟩)] 26)).cell? ⟨Y.heap.size, 0, none⟩ = some (.pointer (some ⟨s, 0, none⟩)) := by simp
 have hG1 := hG.below hb1
 clear hb1
 generalize Y.alloc (.cells #[.pointer (some ⟨s, 0, none⟩)] 26) = Y1 at hc1 hz1 hG1 ⊢
 have hB := Bld.new Y1
 have hb2 := below_box Y1 (.cells #[.pointer none, .slice none 0 0] 31)
 have hz2 : (Y1.alloc (.cells #[.pointer none, .slice none 0 0] 31)).heap.size = Y.heap.size + 2 := by simp [hz1]
 rw [hz1] at hB
 have hws : w.heap.size <= Y.heap.size := hG.low.size
 have hB' : Bld (Y1.alloc (.cells #[.pointer none, .slice none 0 0] 31)) w.heap.size (Y.heap.size + 1) none [] := by
  obtain ⟨h1, h2⟩ := hB
  refine ⟨by omega, h2.imp ?_ ?_⟩
  all_goals
   rintro ⟨v, q1, ⟨q2, q3⟩, q4, q5⟩
   refine ⟨v, q1, ⟨q2, ?_⟩, q4, q5⟩
   rcases q3 with q3 | ⟨g, cap, cur, e1, e2, e3⟩
   ·exact .inl q3
   ·exact .inr ⟨g, cap, cur, e1, by omega, e3⟩
 have hc2 := there_yet hc1 hb2
 have hG2 := hG1.below hb2
 clear hB hb2 hc1 hG1
 generalize Y1.alloc (.cells #[.pointer none, .slice none 0 0] 31) = Y2 at hB' hc2 hG2 hz2 ⊢
 have hb3 := below_box Y2 (.cells #[.string text] 9)
 have hc3 : (Y2.alloc (.cells #[.string text] 9)).cell? ⟨Y.heap.size + 2, 0, none⟩ = some (.string text) := by rw [<- hz2]; simp
 have hbt := (below_box (Y2.alloc (.cells #[.string text] 9)) (.deferred (some []))).trans ((below_box ((Y2.alloc (.cells #[.string text] 9)).alloc (.deferred (some []))) ob).mono (by simp))
 have hb5 := hb3.trans (hbt.mono (by simp))
 exact ⟨linesD text, [], o, st0, M, none, rfl, hR, rfl, by simp, st0_ok, hG2.below hb5, hB'.keeps (Keeps.of_below (fun _ => False) hb5 zr) (fun q => q) (fun _ _ q => q), there_yet hc2 hb5, there_yet hc3 hbt, fun i hi => .inl (hG.lt i hi), fun g e => (by cases e), hws⟩
theorem session_ok (text : ByteArray) (hs : text.size <= 20000) (o : List UInt8) (stE : DkS) (hR : RunP st0 (linesD text) o stE) (w : World) (ht : Tab w) (hl : Libs w) (hg : ErrorType w) :
  Calls Tryz.prog 4 #[.string text] w fun e w' => e = .returned (.string ⟨o.toArray⟩) /\ Below w.heap.size w w' := by
 have HSit := zh (desk_sit w ht hl hg)
 have HLn := zh (fun W => desk_lines text W)
 have HR := zh hR
 have HTw := zh ht
 have HLw := zh hl
 have HGw := zh hg
 have HSz := zh hs
 have hlen : ¬ ((20000 : Int) < (text.size : Int)) := by omega
 clear hR ht hl hg hs
 refine (callsIn_wide (n := 6)).1 ?_
 have hfS : Fence.wide.fn 6 := trivial
 have hfL : Fence.wide.fn 7 := trivial
 refine callsIn_of_wp_marks Tryz.func4 rfl trivial ?_ rfl
 simp only [Tryz.ntmps4, List.size_toArray, List.length_cons, List.length_nil, Nat.reduceAdd, Nat.reduceSub, Array.replicate_succ, Array.replicate_zero, List.push_toArray, List.append_toArray, List.nil_append, List.cons_append]
 gi_wp2_with (gi_at_call 6; refine (callsIn_wide.2 (uh HSit)).mono ?_; rintro e Y ⟨s, M, rfl, hG, hM⟩; refine Hid.out ?_)
 refine zh ?_
 have HG := zh hG
 clear hG hM HSit
 gi_wp2_with (gi_at_call 7; refine (callsIn_wide.2 (uh HLn _)).mono ?_; rintro e Y3 ⟨rfl, rfl⟩)
 clear HLn
 have HI0 := zh (fun ob => ses_begin (uh HR) (uh HG) ob)
 have hz3 : (((Y.alloc (.cells #[.pointer (some ⟨s, 0, none⟩)] 26)).alloc (.cells #[.pointer none, .slice none 0 0] 31)).alloc (.cells #[.string text] 9)).heap.size = Y.heap.size + 3 := by simp
 have HLs : Hid (∀ pre : List ByteArray, ∀ rest, linesD text = pre ++ rest -> pre.length <= 20001) := zh (fun pre rest e => by
  have h1 := lines_len text
  have h2 := uh HSz
  rw [e, List.length_append] at h1
  omega)
 generalize ((Y.alloc (.cells #[.pointer (some ⟨s, 0, none⟩)] 26)).alloc (.cells #[.pointer none, .slice none 0 0] 31)).alloc (.cells #[.string text] 9) = Y3 at *
 refine range_own (n := 6) (gf := 29) (lb := #[.pointer (some ⟨Y.heap.size + 1 + 1, 0, none⟩)]) (enc := Value.string) (L := linesD text) (St := LinesSt (Y.heap.size + 1 + 1) text) (by decide) rfl (enters_of Tryz.func29 (by kernel_rfl) rfl) (lines_hands text 5 _ (by decide) (by have := uh HSz; omega))
  (SesI w text o stE s Y.heap.size) (fun pre W k ob h e => h.put (by omega)) (fun pre W q h => h.drew q) (fun pre W h => SesI.st (uh HLw) h) (fun ob => uh HI0 ob)
  (fun x => { tmps := #[.string text, undef, .string ⟨#[]⟩, .pointer (some ⟨Y.heap.size, 0, none⟩), .pointer (some ⟨Y.heap.size + 1, 0, none⟩), .string x, .string text, .int .i64 text.size, .bool false, undef, undef, undef, .pointer (some ⟨s, 0, none⟩), .string text, .func (.func 29) #[] #[.pointer (some ⟨Y.heap.size + 1 + 1, 0, none⟩)], .string x, undef, undef, undef, undef, undef, undef], defers := [] }) ?assign ?body ?done
 case assign =>
  intro l x W K hK
  gi_wp2
  exact hK
 case body =>
  rintro l pre x rest W hL ⟨rest', o1, o2, st1, M1, row, hX⟩ h5
  have er : rest' = x :: rest := by
   have := hX.ls
   rw [hL] at this
   exact (List.append_cancel_left this).symm
  subst er
  obtain ⟨st2, a, o', hAns, hRun, ho⟩ := hX.next
  obtain ⟨hv2, hal, hCall⟩ := hAns w W s M1 (uh HTw) (uh HLw) (uh HGw) hX.dk hX.vok
  have hcs := hX.cs
  have HX := zh hX
  have HCall := zh hCall
  have HRun := zh hRun
  have HO := zh ho
  have HV2 := zh hv2
  have HAl := zh hal
  have HPl := zh (uh HLs pre _ hL)
  have H5 := zh h5
  have HZ3 := zh hz3
  have hfA : Fence.wide.fn 9 := trivial
  have hfW : Fence.wide.fn 8 := trivial
  clear hX hCall hRun ho hv2 hal h5 hL hAns HI0 HR HG hlen hz3
  gi_wp2_with (gi_at_call 9; refine (CallsIn.inRound l (callsIn_wide.2 (uh HCall))).mono ?_; rintro e W1 ⟨rfl, hA⟩; refine Hid.out ?_)
  refine zh ?_
  have hk1 : Keeps M1 W W1 := by
   obtain ⟨_, _, _, q⟩ := hA
   exact q
  have hB1 : Bld W1 w.heap.size (Y.heap.size + 1) row o1 := (uh HX).bl.keeps hk1 (fun q => by have := (uh HX).mz _ q; omega) (fun g hg => ((uh HX).rz g hg).2)
  have HW := zh (bld_write hB1 (⟨a.toArray⟩ ++ ⟨#[10]⟩) (by
   have h1 := (uh HX).len
   have h2 := uh HPl
   have h3 := uh HAl
   rw [app_size]
   omega) hA.low.size)
  have HA := zh hA
  have hcat : ¬ (9223372036854775807 < a.length + 1) := by have := uh HAl; omega
  clear hA hB1 hk1 HCall hcs
  gi_wp2_with (gi_at_call 8; refine (CallsIn.inRound l (callsIn_wide.2 (uh HW))).mono ?_; rintro e W2 ⟨rfl, row', hB, hrow, hk⟩; refine Hid.out ?_)
  refine zh ?_
  rw [app_text] at hB
  have hfin := SesX.step (uh HX) (by have := uh H5; have := uh HZ3; omega) (uh HO) (uh HRun) (uh HV2) (uh HAl) (uh HA) hB hrow hk
  rw [<- uh HZ3] at hfin
  have HF := zh hfin
  clear hfin hB hrow hk HW
  gi_wp2
  exact uh HF
 case done =>
  rintro D W hD hI hK
  obtain ⟨row, hB, hlow⟩ := hI.end
  have HS := zh (Any.Builder_String_any_k { Tryz.lays156 with } Tryz.Builder_Extra_156 w.heap.size (Y.heap.size + 1) o W (Lib.IsBuilderF.of hB.is) hlow.size)
  have HLow := zh hlow
  have HK := zh hK
  have HD : Hid (Y.heap.size + 3 <= D) := zh (by omega)
  have HYw : Hid (w.heap.size <= Y.heap.size) := (uh HG).low.size
  clear hI hB hlow hK hD HI0 HR
  have hfS : Fence.wide.fn 10 := trivial
  gi_wp2_with (gi_at_call 10; refine (callsIn_wide.2 (uh HS)).mono ?_; rintro e W2 ⟨rfl, _, hb, hO⟩; refine Hid.out ?_)
  refine zh ?_
  have hK2 : W2.heap[D]? = some (.deferred (some [])) := hO D _ (uh HK) (fun e => by have := Option.some.inj e; have := uh HD; omega) (fun c fz e => by cases e)
  have HBl := zh ((uh HLow).trans hb)
  clear hO hb HS HLow HK
  gi_wp2
  refine ⟨by simp, .inl ⟨_, _, rfl, run_takeDeferred hK2, ?_⟩⟩
  exact ⟨_, results_tmp rfl _ _ _, rfl, (uh HBl).trans (belowK_b (w := w) zr W2 D _ _ (by have := uh HD; have := uh HYw; omega) hK2 rfl rfl)⟩
end Go.Proofs.YtbmkmfoaoganeaaGreatDoor

namespace Go.Proofs.YtbmkmfoaoganeaaGreatDoor
open Go.RowKit Go.Maps
def fix1 : ByteArray := ⟨#[99, 111, 109, 109, 105, 116, 32, 49, 32, 51, 32, 45, 32, 48, 32, 48, 32, 57, 32, 97]⟩
def fix2 : ByteArray := ⟨#[118, 97, 108, 117, 101, 32, 49, 32, 51, 32, 45, 32, 48, 32, 49, 32, 53]⟩
def fix3 : ByteArray := ⟨#[120]⟩
def fixQ : List Fop := [⟨1, 3, ⟨#[]⟩, 0, 0, 9, ⟨#[97]⟩⟩]
def fixS : DkS := cmSt st0 fixQ
theorem fix_w1 : wordsD fix1 = [⟨#[99, 111, 109, 109, 105, 116]⟩, ⟨#[49]⟩, ⟨#[51]⟩, ⟨#[45]⟩, ⟨#[48]⟩, ⟨#[48]⟩, ⟨#[57]⟩, ⟨#[97]⟩] := by kernel_rfl
theorem fix_w2 : wordsD fix2 = [⟨#[118, 97, 108, 117, 101]⟩, ⟨#[49]⟩, ⟨#[51]⟩, ⟨#[45]⟩, ⟨#[48]⟩, ⟨#[49]⟩, ⟨#[53]⟩] := by kernel_rfl
theorem fix_w3 : wordsD fix3 = [⟨#[120]⟩] := by kernel_rfl
theorem fix_ok : okL fixQ := ⟨by decide, by decide, fun o ho => by
 cases ho with
 | head => kernel_rfl
 | tail _ h => cases h⟩
theorem fix_tx : txL [⟨#[49]⟩, ⟨#[51]⟩, ⟨#[45]⟩, ⟨#[48]⟩, ⟨#[48]⟩, ⟨#[57]⟩, ⟨#[97]⟩] = opsL fixQ := by kernel_rfl
theorem fix_out1 : outP (cmE st0) (Lib.itoa ((stE (cmSt st0 fixQ).es).1.length : Int)) = .ok [49] := by kernel_rfl
theorem fix_key : keyW ⟨#[49]⟩ ⟨#[51]⟩ ⟨#[45]⟩ ⟨#[48]⟩ = some ⟨1, 3, ⟨#[]⟩, 0⟩ := by kernel_rfl
theorem fix_n1 : numW ⟨#[49]⟩ = some 1 := by kernel_rfl
theorem fix_n5 : numW ⟨#[53]⟩ = some 5 := by kernel_rfl
theorem fix_out2 : outP (valE (stE fixS.es).1.length (stE fixS.es).2 ⟨1, 3, ⟨#[]⟩, 0⟩ 1 5) (dashB (valV (stE fixS.es).1 ⟨1, 3, ⟨#[]⟩, 0⟩ 1 5 (valE (stE fixS.es).1.length (stE fixS.es).2 ⟨1, 3, ⟨#[]⟩, 0⟩ 1 5))).data.toList = .ok [97] := by kernel_rfl
theorem fix_a1 : AnsP st0 fix1 fixS [49] := by
 refine ans_does (dn := -1) (df := 13) (out := .ok [49]) (by decide) fix_w1 (by decide) (.inl rfl) (fun w y s M v ht hl hg hG hv => ⟨fun hV => ⟨fun k => ?_, by show (1 : Nat) <= 2000000000; decide⟩, ?_⟩)
 ·unfold fixS
  rw [cmSt_V]
  exact hV k
 ·have := dk_commit_ok ht hl hg hG hv (by decide) (by decide) fixQ fix_ok fix_tx
  rw [fix_out1] at this
  exact this
theorem fix_a2 : AnsP fixS fix2 fixS [97] := by
 refine ans_does (dn := 6) (df := 27) (out := .ok [97]) (by decide) fix_w2 (by decide) (.inr (by decide)) (fun w y s M v ht hl hg hG hv => ⟨fun hV => ⟨hV, by show (1 : Nat) <= 2000000000; decide⟩, ?_⟩)
 have := dk_value_ok _ _ _ _ _ _ ht hl hg hG hv _ fix_key _ fix_n1 _ fix_n5
 rw [fix_out2] at this
 exact this
theorem fix_a3 : AnsP fixS fix3 fixS (faultL 3) := ans_other (by decide) fix_w3 (by decide)
theorem fix_run : RunP st0 [fix1, fix2, fix3] [49, 10, 97, 10, 101, 114, 114, 111, 114, 32, 51, 10] fixS := by
 have h := RunP.cons fix_a1 (.cons fix_a2 (.cons fix_a3 (.nil fixS)))
 have e : ([49] ++ 10 :: ([97] ++ 10 :: (faultL 3 ++ 10 :: [])) : List UInt8) = [49, 10, 97, 10, 101, 114, 114, 111, 114, 32, 51, 10] := by kernel_rfl
 rw [e] at h
 exact h
theorem fix_lines : linesD ⟨#[99, 111, 109, 109, 105, 116, 32, 49, 32, 51, 32, 45, 32, 48, 32, 48, 32, 57, 32, 97, 10, 118, 97, 108, 117, 101, 32, 49, 32, 51, 32, 45, 32, 48, 32, 49, 32, 53, 10, 120, 10]⟩ = [fix1, fix2, fix3] := by kernel_rfl
theorem cat_size (a b : ByteArray) : (a ++ b).size = a.size + b.size := ByteArray.size_append
theorem lines_more (a b : ByteArray) : ∃ X, linesD (a ++ ⟨#[10]⟩ ++ b) = linesD (a ++ ⟨#[10]⟩) ++ X := by
 obtain ⟨X, hX⟩ := lines_both a.data.toList b.data.toList
 refine ⟨X.map fun l => ⟨l.toArray⟩, ?_⟩
 unfold linesD
 have e1 : (a ++ ⟨#[10]⟩ : ByteArray).data.toList = a.data.toList ++ [10] := by simp
 have e2 : (a ++ ⟨#[10]⟩ ++ b : ByteArray).data.toList = a.data.toList ++ [10] ++ b.data.toList := by simp
 rw [e1, e2, hX, lines_one, List.map_append]
theorem deskPieces_walk (a b : ByteArray) (w : World) (ha : a.size <= 140737488355328) (hb : b.size <= 140737488355328) (ht : Tab w) (hl : Libs w) (hg : ErrorType w) :
  Calls Tryz.prog 3 #[.string a, .string b] w fun e w' => e = .returned (.bool true) /\ Below w.heap.size w w' := by
 have hw64 : wrap64 ((a.size : Int) + (b.size : Int)) = (a.size : Int) + (b.size : Int) := by unfold wrap64; omega
 by_cases hbig : 2000 < a.size + b.size
 ·have hgt : (2000 : Int) < (a.size : Int) + (b.size : Int) := by omega
  go_enter Tryz.func3, Tryz.ntmps3
  go_wp2
  go_ret
  exact ⟨rfl, Below.refl _ _⟩
 ·have hgt : ¬ ((2000 : Int) < (a.size : Int) + (b.size : Int)) := by omega
  have hz : (a ++ ⟨#[10]⟩ : ByteArray).size = a.size + 1 := by rw [cat_size]; rfl
  have hz2 : (a ++ ⟨#[10]⟩ ++ b : ByteArray).size = a.size + 1 + b.size := by rw [cat_size, hz]
  obtain ⟨X, hX⟩ := lines_more a b
  have hs1 := lines_size (a ++ ⟨#[10]⟩)
  have hs2 := lines_size (a ++ ⟨#[10]⟩ ++ b)
  obtain ⟨oA, sA, hA⟩ := RunP.all (linesD (a ++ ⟨#[10]⟩)) st0 (fun l hl => by have := hs1 l hl; omega)
  obtain ⟨oX, sX, hXr⟩ := RunP.all X sA (fun l hl => by have := hs2 l (by rw [hX]; exact List.mem_append_right _ hl); omega)
  have hAX : RunP st0 (linesD (a ++ ⟨#[10]⟩ ++ b)) (oA ++ oX) sX := by rw [hX]; exact hA.app hXr
  have H0 := zh (session_ok ⟨#[99, 111, 109, 109, 105, 116, 32, 49, 32, 51, 32, 45, 32, 48, 32, 48, 32, 57, 32, 97, 10, 118, 97, 108, 117, 101, 32, 49, 32, 51, 32, 45, 32, 48, 32, 49, 32, 53, 10, 120, 10]⟩ (by decide) _ _ (by rw [fix_lines]; exact fix_run) w ht hl hg)
  have H1 : Hid (∀ W, Below w.heap.size w W -> Calls Tryz.prog 4 #[.string (a ++ ⟨#[10]⟩)] W fun e w' => e = .returned (.string ⟨oA.toArray⟩) /\ Below W.heap.size W w') := zh (fun W hW => session_ok _ (by omega) oA sA hA W (ht.carry hW) (hl.carry hW) (hg.carry hW))
  have H2 : Hid (∀ W, Below w.heap.size w W -> Calls Tryz.prog 4 #[.string (a ++ ⟨#[10]⟩ ++ b)] W fun e w' => e = .returned (.string ⟨(oA ++ oX).toArray⟩) /\ Below W.heap.size W w') := zh (fun W hW => session_ok _ (by omega) (oA ++ oX) sX hAX W (ht.carry hW) (hl.carry hW) (hg.carry hW))
  have hx : (⟨oA.toArray⟩ : ByteArray).size = oA.length := by simp [ByteArray.size]
  have hy : (⟨(oA ++ oX).toArray⟩ : ByteArray).size = oA.length + oX.length := by simp [ByteArray.size]
  have hexy : (⟨(oA ++ oX).toArray⟩ : ByteArray).extract 0 (⟨oA.toArray⟩ : ByteArray).size = ⟨oA.toArray⟩ := by
   rw [hx]
   have e : ((⟨(oA ++ oX).toArray⟩ : ByteArray).extract 0 oA.length).data = oA.toArray := by
    apply Array.toList_inj.1
    simp
   cases h : (⟨(oA ++ oX).toArray⟩ : ByteArray).extract 0 oA.length
   rw [h] at e
   dsimp only at e
   rw [e]
  have hxy : (⟨oA.toArray⟩ : ByteArray).size <= (⟨(oA ++ oX).toArray⟩ : ByteArray).size := by omega
  have c1 : ¬ (9223372036854775807 < a.size + 1) := by omega
  have c2 : ¬ (9223372036854775807 < a.size + 1 + b.size) := by omega
  clear hX hs1 hs2 hA hXr hAX hx hy ht hl hg hbig
  generalize (⟨oA.toArray⟩ : ByteArray) = x at *
  generalize (⟨(oA ++ oX).toArray⟩ : ByteArray) = y at *
  have HEx := zh hexy
  have HXy := zh hxy
  clear hexy hxy
  go_enter Tryz.func3, Tryz.ntmps3
  go_wp2_with fail
  refine (uh H0).mono ?_
  rintro e W1 ⟨rfl, b1⟩
  have H1' := zh (uh H1 W1 b1)
  have HB1 := zh b1
  clear b1 H0 H1
  go_wp2_with fail
  refine (uh H1').mono ?_
  rintro e W2 ⟨rfl, b2⟩
  have hb2 := (uh HB1).trans (b2.mono (uh HB1).size)
  have H2' := zh (uh H2 W2 hb2)
  have HB2 := zh hb2
  clear b2 hb2 HB1 H1' H2
  go_wp2_with fail
  refine (uh H2').mono ?_
  rintro e W3 ⟨rfl, b3⟩
  have HB3 := zh ((uh HB2).trans (b3.mono (uh HB2).size))
  clear b3 HB2 H2'
  have hxy := uh HXy
  have hexy := uh HEx
  have hxi : (x.size : Int) <= (y.size : Int) := by omega
  go_wp2
  go_ret
  exact ⟨rfl, uh HB3⟩
end Go.Proofs.YtbmkmfoaoganeaaGreatDoor
