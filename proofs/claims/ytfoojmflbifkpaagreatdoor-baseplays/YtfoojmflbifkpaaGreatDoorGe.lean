/- Texts of one proof, one behind the other. -/
import Derived.Test.YtfoojmflbifkpaaGreatDoorGd
set_option maxRecDepth 100000
set_option maxHeartbeats 16000000
namespace Go.Proofs.YtfoojmflbifkpaaGreatDoor
open Go.RowKit Go.Maps
structure BdW (w : World) (B D : Nat) (es : List (List Fop ⊕ Int)) (down : Bool) (ps : Nat -> ByteArray) (cut : Bool) (left : Int) (F : Nat -> Prop) : Prop where
 base : BaseW w B D es.length down (stE es).1 (stE es).2 F
 disk : DiskW w D ps cut left
 holds : Holds ps es
 apart : ¬ F D
 most : es.length <= 150
theorem BdW.below {w w' : World} {B D : Nat} {es : List (List Fop ⊕ Int)} {down : Bool} {ps : Nat -> ByteArray} {cut : Bool} {left : Int} {F : Nat -> Prop} (h : BdW w B D es down ps cut left F) (hb : Below w.heap.size w w') : BdW w' B D es down ps cut left F :=
 ⟨h.base.below hb, h.disk.below hb, h.holds, h.apart, h.most⟩
def Went (w : World) (D : Nat) (F F' : Nat -> Prop) (w' : World) : Prop := (∀ i, F' i -> F i \/ w.heap.size <= i) /\ Keeps (fun i => F i \/ i = D) w w'
theorem Went.below {a b c : World} {D : Nat} {F F' : Nat -> Prop} (h : Below a.heap.size a b) (k : Went b D F F' c) : Went a D F F' c :=
 ⟨fun i hi => (k.1 i hi).imp id (fun q => Nat.le_trans h.size q), (Keeps.of_below _ h zr).then k.2 (fun _ _ q => q)⟩
def WroteOn (w : World) (B D : Nat) (es : List (List Fop ⊕ Int)) (cut : Bool) (left : Int) (F : Nat -> Prop) (w' : World) : Prop := ∃ F' ps', BdW w' B D es false ps' cut left F' /\ Went w D F F' w'
def WroteOff (w : World) (B D : Nat) (es : List (List Fop ⊕ Int)) (F : Nat -> Prop) (w' : World) : Prop := ∃ ps', BdW w' B D es true ps' true 0 F /\ Went w D F F w'
theorem body_len (st : List (List Fop) × Int) (x : List Fop ⊕ Int) (h : OkE st x) (h0 : 0 <= st.2) (h1 : st.1.length <= 150) : (bodyL x).length <= 1300 := by
 rcases x with l | n
 ·have := wrs_length_le l h.2.2
  have := h.2.1
  show (opsL l).length <= 1300
  omega
 ·obtain ⟨q1, q2⟩ := (h : st.2 <= n /\ n <= st.1.length)
  have := itoa_short n (by omega) (by omega)
  show (forgetL ++ Lib.itoa n).length <= 1300
  rw [List.length_append]
  have : forgetL.length = 7 := rfl
  omega
theorem take_x {w : World} {B D : Nat} {used : Int} {down : Bool} {st : List (List Fop) × Int} {F : Nat -> Prop} (h : BaseW w B D used down st.1 st.2 F) (x : List Fop ⊕ Int) (hx : OkE st x) (h1 : st.1.length < 150) (h0 : 0 <= st.2) (hk : st.2 <= st.1.length) (ht : Tab w) (hl : Libs w) :
  Calls Tryz.prog 76 #[.pointer (some ⟨B, 0, none⟩), .string ⟨(entL x).toArray⟩] w fun e w' => e = .returned (.bool true) /\ Took w B D used down (stepE st x) F w' := by
 rcases x with l | n
 ·exact take_commit h l hx h1 hk ht hl
 ·obtain ⟨q1, q2⟩ := (hx : st.2 <= n /\ n <= st.1.length)
  exact take_forget h n (by omega) q1 q2 (by omega)
theorem base_write_on {w : World} {B D : Nat} {es : List (List Fop ⊕ Int)} {ps : Nat -> ByteArray} {cut : Bool} {left : Int} {F : Nat -> Prop} (h : BdW w B D es false ps cut left F) (he : es.length < 150) (x : List Fop ⊕ Int) (hx : OkE (stE es) x) (torn : Int) (hp : cut = false \/ left ≠ 0) {w0 : World} (hw : Below w0.heap.size w0 w) (hD0 : w0.heap.size <= D) (ht : Tab w0) (hl : Libs w0) :
  Calls Tryz.prog 78 #[.pointer (some ⟨B, 0, none⟩), .string ⟨(entL x).toArray⟩, .int .i64 torn] w fun e w' => e = .returned .nilIface /\ WroteOn w B D (es ++ [x]) cut (nextL cut left) F w' := by
 obtain ⟨s1, s2, s3⟩ := stE_bounds h.holds.good
 have hbl := body_len _ x hx s2 (by omega)
 have hsz : (⟨(entL x).toArray⟩ : ByteArray).size < 50000 := by
  rw [bytes_len]
  unfold entL
  rw [List.length_append]
  simp
  omega
 have HW := zh (disk_write_on (h.disk.below (below_drew w)) es.length he ⟨(entL x).toArray⟩ hsz torn hp)
 have HH := zh h
 have HX := zh hx
 have HG : Hid (∀ W, Keeps (· = D) w W -> Tab W /\ Libs W) := fun W hk => by
  have hb := hw.trans (keeps_below hk (fun i e => by rw [e]; exact hD0) hw.size)
  exact ⟨ht.carry hb, hl.carry hb⟩
 obtain ⟨c0, c4, c5, f, fB, c1, c2⟩ := h.base.cells
 have f4 := f 4
 clear h hx f ht hl hp hw hD0
 generalize hst : (⟨(entL x).toArray⟩ : ByteArray) = st at HW ⊢
 go_enter Tryz.func78, Tryz.ntmps78
 go_wp2
 refine wp_region_tail (fun y => y = w.drew) 10 (by kernel_rfl) (by kernel_rfl) rfl (fun hHeld => ?_)
 refine takeH 0 (oi := ?o0_1) (v := ?v0_1) ?h0_1 (by kernel_rfl) (by assumption) ?y0_1 ?_
 case h0_1 => (simp only [gA, gZ]; rfl)
 case y0_1 => (refine ⟨fun _ _ _ h => h, rfl, fun w h => ?_⟩; (try dsimp only at h); go_simp <;> with_reducible rfl)
 try simp only [Act.put, sI, sZ, sS]
 refine takeH 1 (oi := ?o1_1) (v := ?v1_1) ?h1_1 (by kernel_rfl) (by assumption) ?y1_1 ?_
 case h1_1 => (simp only [gA, gZ, gS]; rfl)
 case y1_1 => (refine ⟨fun _ _ _ h => h, rfl, fun w h => ?_⟩; (try dsimp only at h); go_simp <;> with_reducible rfl)
 try simp only [Act.put, sI, sZ, sS]
 refine takeH 2 (oi := ?o2_1) (v := ?v2_1) ?h2_1 (by kernel_rfl) (by assumption) ?y2_1 ?_
 case h2_1 => (simp only [gA, gZ, gS]; rfl)
 case y2_1 => (refine ⟨fun _ _ _ h => h, rfl, fun w h => ?_⟩; (try dsimp only at h); go_simp <;> with_reducible rfl)
 try simp only [Act.put, sI, sZ, sS]
 refine takeH 3 (oi := ?o3_1) (v := ?v3_1) ?h3_1 (by kernel_rfl) (by assumption) ?y3_1 ?_
 case h3_1 => (simp only [gA, gZ, gS]; rfl)
 case y3_1 => (refine ⟨fun _ _ _ h => h, rfl, fun w h => ?_⟩; (try dsimp only at h); go_simp <;> with_reducible rfl)
 try simp only [Act.put, sI, sZ, sS]
 refine takeH 4 (oi := ?o4_1) (v := ?v4_1) ?h4_1 (by kernel_rfl) (by assumption) ?y4_1 ?_
 case h4_1 => (simp only [gA, gZ, gS]; rfl)
 case y4_1 => (refine ⟨fun _ _ _ h => h, rfl, fun w h => ?_⟩; (try dsimp only at h); go_simp <;> with_reducible rfl)
 try simp only [Act.put, sI, sZ, sS]
 refine takeH 5 (oi := ?o5_1) (v := ?v5_1) ?h5_1 (by kernel_rfl) (by assumption) ?y5_1 ?_
 case h5_1 => (simp only [gA, gZ, gS]; rfl)
 case y5_1 => (refine ⟨fun _ _ _ h => h, rfl, fun w h => ?_⟩; (try dsimp only at h); go_simp <;> with_reducible rfl)
 try simp only [Act.put, sI, sZ, sS]
 refine takeH 6 (oi := ?o6_1) (v := ?v6_1) ?h6_1 (by kernel_rfl) (by assumption) ?y6_1 ?_
 case h6_1 => (simp only [gA, gZ, gS]; rfl)
 case y6_1 => (refine ⟨fun _ _ _ h => h, rfl, fun w h => ?_⟩; (try dsimp only at h); go_simp <;> with_reducible rfl)
 try simp only [Act.put, sI, sZ, sS]
 refine takeH 7 (oi := ?o7_1) (v := ?v7_1) ?h7_1 (by kernel_rfl) (by assumption) ?y7_1 ?_
 case h7_1 => (simp only [gA, gZ, gS]; rfl)
 case y7_1 => (refine ⟨fun _ _ _ h => h, rfl, fun w h => ?_⟩; (try dsimp only at h); go_simp <;> with_reducible rfl)
 try simp only [Act.put, sI, sZ, sS]
 refine takeH 8 (oi := ?o8_1) (v := ?v8_1) ?h8_1 (by kernel_rfl) (by assumption) ?y8_1 ?_
 case h8_1 => (simp only [gA, gZ, gS]; rfl)
 case y8_1 => (refine ⟨fun _ _ _ h => h, rfl, fun w h => ?_⟩; (try dsimp only at h); go_simp <;> with_reducible rfl)
 try simp only [Act.put, sI, sZ, sS]
 refine takeH 9 (oi := ?o9_1) (v := ?v9_1) ?h9_1 (by kernel_rfl) (by assumption) ?y9_1 ?_
 case h9_1 => (simp only [gA, gZ, gS]; rfl)
 case y9_1 => (refine ⟨fun _ _ _ h => h, rfl, fun w h => ?_⟩; (try dsimp only at h); go_simp <;> with_reducible rfl)
 try simp only [Act.put, sI, sZ, sS]
 refine wpAnyH_done (by kernel_rfl) ?_ _
 show wpList _ _ _ _ _ _
 clear hHeld
 go_wp2_with fail
 refine (uh HW).mono ?_
 rintro e W1 ⟨rfl, hD1, k1⟩
 have HK1 := zh ((Keeps.of_below _ (below_drew w) zr).trans k1)
 have HD1 := zh hD1
 have hB1 := (uh HH).base.keeps (uh HK1) (fun i hi e => (uh HH).apart (by rw [<- e]; exact hi))
 obtain ⟨t1, t2⟩ := uh HG W1 (uh HK1)
 have HTk := zh (take_x hB1 x (uh HX) (by omega) s2 s3 t1 t2)
 rw [hst] at HTk
 clear HW k1 hD1 t1 t2 hB1 HG c0 c4 c5 fB c1 c2 f4
 go_wp2_with fail
 refine (uh HTk).mono ?_
 rintro e W2 ⟨rfl, F2, p2, g2⟩
 obtain ⟨_, d4, _, ff, hFB, _, _⟩ := BaseW.cells p2
 have f4' := ff 4
 have hks := keeps_set W2 B 4 (.int .i64 ((es.length : Int) + 1))
 have hDB : D ≠ B := fun e => (uh HH).apart (by rw [e]; exact (uh HH).base.cells.2.2.2.2.1)
 have hD2 := ((uh HD1).keeps g2.2 (uh HH).apart).keeps hks hDB
 have HF : Hid (WroteOn w B D (es ++ [x]) cut (nextL cut left) F (W2.setCell ⟨B, 4, none⟩ (.int .i64 ((es.length : Int) + 1)))) := by
  refine ⟨F2, _, ⟨?_, hD2, (uh HH).holds.wrote (uh HX) (by rw [<- hst]), fun q => ?_, by rw [List.length_append, List.length_singleton]; omega⟩, fun i hi => ?_, ?_⟩
  ·rw [stE_snoc, List.length_append, List.length_singleton, Int.natCast_add, Int.natCast_one]
   exact BaseW.setUsed p2 _
  ·rcases g2.1 D q with r | r
   ·exact (uh HH).apart r
   ·have := (uh HD1).lt
    omega
  ·rcases g2.1 i hi with r | r
   ·exact .inl r
   ·exact .inr (Nat.le_trans (uh HK1).size r)
  ·refine (((uh HK1).mono (fun i _ e => .inr e)).then g2.2 (fun i _ q => .inl q)).then hks (fun i _ e => .inl (by rw [e]; exact (uh HH).base.cells.2.2.2.2.1))
 clear p2 g2 ff hks hD2 hDB HTk HK1 HD1 HX
 go_wp2
 go_ret
 exact ⟨rfl, uh HF⟩
theorem base_write_off {w : World} {B D : Nat} {es : List (List Fop ⊕ Int)} {ps : Nat -> ByteArray} {F : Nat -> Prop} (h : BdW w B D es false ps true 0 F) (he : es.length < 150) (x : List Fop ⊕ Int) (hx : OkE (stE es) x) (torn : Int) :
  Calls Tryz.prog 78 #[.pointer (some ⟨B, 0, none⟩), .string ⟨(entL x).toArray⟩, .int .i64 torn] w fun e w' => e = .returned (.iface 43 (.int .i64 14)) /\ WroteOff w B D es F w' := by
 obtain ⟨s1, s2, s3⟩ := stE_bounds h.holds.good
 have hbl := body_len _ x hx s2 (by omega)
 have HW := zh (disk_write_off (h.disk.below (below_drew w)) es.length he (bodyL x) (by omega) (body_mem _ x hx) torn)
 have HH := zh h
 obtain ⟨c0, c4, c5, f, fB, c1, c2⟩ := h.base.cells
 clear h hx f
 unfold entL
 generalize hst : (⟨(bodyL x ++ [10]).toArray⟩ : ByteArray) = st at HW ⊢
 go_enter Tryz.func78, Tryz.ntmps78
 go_wp2
 refine wp_region_tail (fun y => y = w.drew) 10 (by kernel_rfl) (by kernel_rfl) rfl (fun hHeld => ?_)
 refine takeH 0 (oi := ?o0_2) (v := ?v0_2) ?h0_2 (by kernel_rfl) (by assumption) ?y0_2 ?_
 case h0_2 => (simp only [gA, gZ]; rfl)
 case y0_2 => (refine ⟨fun _ _ _ h => h, rfl, fun w h => ?_⟩; (try dsimp only at h); go_simp <;> with_reducible rfl)
 try simp only [Act.put, sI, sZ, sS]
 refine takeH 1 (oi := ?o1_2) (v := ?v1_2) ?h1_2 (by kernel_rfl) (by assumption) ?y1_2 ?_
 case h1_2 => (simp only [gA, gZ, gS]; rfl)
 case y1_2 => (refine ⟨fun _ _ _ h => h, rfl, fun w h => ?_⟩; (try dsimp only at h); go_simp <;> with_reducible rfl)
 try simp only [Act.put, sI, sZ, sS]
 refine takeH 2 (oi := ?o2_2) (v := ?v2_2) ?h2_2 (by kernel_rfl) (by assumption) ?y2_2 ?_
 case h2_2 => (simp only [gA, gZ, gS]; rfl)
 case y2_2 => (refine ⟨fun _ _ _ h => h, rfl, fun w h => ?_⟩; (try dsimp only at h); go_simp <;> with_reducible rfl)
 try simp only [Act.put, sI, sZ, sS]
 refine takeH 3 (oi := ?o3_2) (v := ?v3_2) ?h3_2 (by kernel_rfl) (by assumption) ?y3_2 ?_
 case h3_2 => (simp only [gA, gZ, gS]; rfl)
 case y3_2 => (refine ⟨fun _ _ _ h => h, rfl, fun w h => ?_⟩; (try dsimp only at h); go_simp <;> with_reducible rfl)
 try simp only [Act.put, sI, sZ, sS]
 refine takeH 4 (oi := ?o4_2) (v := ?v4_2) ?h4_2 (by kernel_rfl) (by assumption) ?y4_2 ?_
 case h4_2 => (simp only [gA, gZ, gS]; rfl)
 case y4_2 => (refine ⟨fun _ _ _ h => h, rfl, fun w h => ?_⟩; (try dsimp only at h); go_simp <;> with_reducible rfl)
 try simp only [Act.put, sI, sZ, sS]
 refine takeH 5 (oi := ?o5_2) (v := ?v5_2) ?h5_2 (by kernel_rfl) (by assumption) ?y5_2 ?_
 case h5_2 => (simp only [gA, gZ, gS]; rfl)
 case y5_2 => (refine ⟨fun _ _ _ h => h, rfl, fun w h => ?_⟩; (try dsimp only at h); go_simp <;> with_reducible rfl)
 try simp only [Act.put, sI, sZ, sS]
 refine takeH 6 (oi := ?o6_2) (v := ?v6_2) ?h6_2 (by kernel_rfl) (by assumption) ?y6_2 ?_
 case h6_2 => (simp only [gA, gZ, gS]; rfl)
 case y6_2 => (refine ⟨fun _ _ _ h => h, rfl, fun w h => ?_⟩; (try dsimp only at h); go_simp <;> with_reducible rfl)
 try simp only [Act.put, sI, sZ, sS]
 refine takeH 7 (oi := ?o7_2) (v := ?v7_2) ?h7_2 (by kernel_rfl) (by assumption) ?y7_2 ?_
 case h7_2 => (simp only [gA, gZ, gS]; rfl)
 case y7_2 => (refine ⟨fun _ _ _ h => h, rfl, fun w h => ?_⟩; (try dsimp only at h); go_simp <;> with_reducible rfl)
 try simp only [Act.put, sI, sZ, sS]
 refine takeH 8 (oi := ?o8_2) (v := ?v8_2) ?h8_2 (by kernel_rfl) (by assumption) ?y8_2 ?_
 case h8_2 => (simp only [gA, gZ, gS]; rfl)
 case y8_2 => (refine ⟨fun _ _ _ h => h, rfl, fun w h => ?_⟩; (try dsimp only at h); go_simp <;> with_reducible rfl)
 try simp only [Act.put, sI, sZ, sS]
 refine takeH 9 (oi := ?o9_2) (v := ?v9_2) ?h9_2 (by kernel_rfl) (by assumption) ?y9_2 ?_
 case h9_2 => (simp only [gA, gZ, gS]; rfl)
 case y9_2 => (refine ⟨fun _ _ _ h => h, rfl, fun w h => ?_⟩; (try dsimp only at h); go_simp <;> with_reducible rfl)
 try simp only [Act.put, sI, sZ, sS]
 refine wpAnyH_done (by kernel_rfl) ?_ _
 show wpList _ _ _ _ _ _
 clear hHeld
 go_wp2_with fail
 refine (uh HW).mono ?_
 rintro e W1 ⟨rfl, ps', hD1, k1, hps⟩
 have hK1 := (Keeps.of_below _ (below_drew w) zr).trans k1
 have hB1 := (uh HH).base.keeps hK1 (fun i hi e => (uh HH).apart (by rw [<- e]; exact hi))
 obtain ⟨_, _, d5, ff, hFB, _, _⟩ := BaseW.cells hB1
 have f5 := ff 5
 have hks := keeps_set W1 B 5 (.bool true)
 have hDB : D ≠ B := fun e => (uh HH).apart (by rw [e]; exact hFB)
 have HF : Hid (WroteOff w B D es F (W1.setCell ⟨B, 5, none⟩ (.bool true))) := by
  refine ⟨ps', ⟨BaseW.setDown hB1 true, hD1.keeps hks hDB, ?_, (uh HH).apart, (uh HH).most⟩, fun i hi => .inl hi, (hK1.mono (fun i _ e => .inr e)).then hks (fun i _ e => .inl (by rw [e]; exact hFB))⟩
  rcases hps with rfl | ⟨t, rfl, ht⟩
  ·exact (uh HH).holds
  ·exact (uh HH).holds.torn ht
 clear HW k1 hD1 hps hK1 hB1 ff hks hDB hFB c0 c4 c5 fB c1 c2
 go_wp2
 go_ret
 exact ⟨rfl, uh HF⟩
theorem base_late {w : World} {B D : Nat} {es : List (List Fop ⊕ Int)} {down : Bool} {ps : Nat -> ByteArray} {cut : Bool} {left : Int} {F : Nat -> Prop} (h : BdW w B D es down ps cut left F) :
  Calls Tryz.prog 129 #[.pointer (some ⟨B, 0, none⟩)] w fun e w' => e = .returned (.bool false) /\ Below w.heap.size w w' := by
 obtain ⟨c0, c4, c5, f, fB, c1, c2⟩ := h.base.cells
 have HH := zh h
 clear h f
 have hj0 : (0 : Int) <= (es.length : Int) := by omega
 by_cases he : es.length < 150
 ·have he' : (es.length : Int) < 150 := by omega
  have hp := (uh HH).disk.p es.length he
  have HS := zh (has_suffix_no (ps es.length) w.drew (by have := (uh HH).disk.sz es.length; omega) ((uh HH).holds.none es.length zr))
  generalize ps es.length = sj at hp HS
  go_enter Tryz.func129, Tryz.ntmps129
  go_wp2
  refine wp_region_tail (fun y => y = w.drew) 18 (by kernel_rfl) (by kernel_rfl) rfl (fun hHeld => ?_)
  refine takeH 0 (oi := ?o0_1) (v := ?v0_1) ?h0_1 (by kernel_rfl) (by assumption) ?y0_1 ?_
  case h0_1 => (simp only [gA, gZ]; rfl)
  case y0_1 => (refine ⟨fun _ _ _ h => h, rfl, fun w h => ?_⟩; (try dsimp only at h); go_simp <;> with_reducible rfl)
  try simp only [Act.put, sI, sZ, sS]
  refine takeH 1 (oi := ?o1_1) (v := ?v1_1) ?h1_1 (by kernel_rfl) (by assumption) ?y1_1 ?_
  case h1_1 => (simp only [gA, gZ, gS]; rfl)
  case y1_1 => (refine ⟨fun _ _ _ h => h, rfl, fun w h => ?_⟩; (try dsimp only at h); go_simp <;> with_reducible rfl)
  try simp only [Act.put, sI, sZ, sS]
  refine takeH 2 (oi := ?o2_1) (v := ?v2_1) ?h2_1 (by kernel_rfl) (by assumption) ?y2_1 ?_
  case h2_1 => (simp only [gA, gZ, gS]; rfl)
  case y2_1 => (refine ⟨fun _ _ _ h => h, rfl, fun w h => ?_⟩; (try dsimp only at h); go_simp <;> with_reducible rfl)
  try simp only [Act.put, sI, sZ, sS]
  refine takeH 3 (oi := ?o3_1) (v := ?v3_1) ?h3_1 (by kernel_rfl) (by assumption) ?y3_1 ?_
  case h3_1 => (simp only [gA, gZ, gS]; rfl)
  case y3_1 => (refine ⟨fun _ _ _ h => h, rfl, fun w h => ?_⟩; (try dsimp only at h); go_simp <;> with_reducible rfl)
  try simp only [Act.put, sI, sZ, sS]
  refine takeH 4 (oi := ?o4_1) (v := ?v4_1) ?h4_1 (by kernel_rfl) (by assumption) ?y4_1 ?_
  case h4_1 => (simp only [gA, gZ, gS]; rfl)
  case y4_1 => (refine ⟨fun _ _ _ h => h, rfl, fun w h => ?_⟩; (try dsimp only at h); go_simp <;> with_reducible rfl)
  try simp only [Act.put, sI, sZ, sS]
  refine takeH 5 (oi := ?o5_1) (v := ?v5_1) ?h5_1 (by kernel_rfl) (by assumption) ?y5_1 ?_
  case h5_1 => (simp only [gA, gZ, gS]; rfl)
  case y5_1 => (refine ⟨fun _ _ _ h => h, rfl, fun w h => ?_⟩; (try dsimp only at h); go_simp <;> with_reducible rfl)
  try simp only [Act.put, sI, sZ, sS]
  refine takeH 6 (oi := ?o6_1) (v := ?v6_1) ?h6_1 (by kernel_rfl) (by assumption) ?y6_1 ?_
  case h6_1 => (simp only [gA, gZ, gS]; rfl)
  case y6_1 => (refine ⟨fun _ _ _ h => h, rfl, fun w h => ?_⟩; (try dsimp only at h); go_simp <;> with_reducible rfl)
  try simp only [Act.put, sI, sZ, sS]
  refine takeH 7 (oi := ?o7_1) (v := ?v7_1) ?h7_1 (by kernel_rfl) (by assumption) ?y7_1 ?_
  case h7_1 => (simp only [gA, gZ, gS]; rfl)
  case y7_1 => (refine ⟨fun _ _ _ h => h, rfl, fun w h => ?_⟩; (try dsimp only at h); go_simp <;> with_reducible rfl)
  try simp only [Act.put, sI, sZ, sS]
  refine takeH 8 (oi := ?o8_1) (v := ?v8_1) ?h8_1 (by kernel_rfl) (by assumption) ?y8_1 ?_
  case h8_1 => (simp only [gA, gZ, gS]; rfl)
  case y8_1 => (refine ⟨fun _ _ _ h => h, rfl, fun w h => ?_⟩; (try dsimp only at h); go_simp <;> with_reducible rfl)
  try simp only [Act.put, sI, sZ, sS]
  refine takeH 9 (oi := ?o9_1) (v := ?v9_1) ?h9_1 (by kernel_rfl) (by assumption) ?y9_1 ?_
  case h9_1 => (simp only [gA, gZ, gS]; rfl)
  case y9_1 => (refine ⟨fun _ _ _ h => h, rfl, fun w h => ?_⟩; (try dsimp only at h); go_simp <;> with_reducible rfl)
  try simp only [Act.put, sI, sZ, sS]
  refine takeH 10 (oi := ?o10_1) (v := ?v10_1) ?h10_1 (by kernel_rfl) (by assumption) ?y10_1 ?_
  case h10_1 => (simp only [gA, gZ, gS]; rfl)
  case y10_1 => (refine ⟨fun _ _ _ h => h, rfl, fun w h => ?_⟩; (try dsimp only at h); go_simp <;> with_reducible rfl)
  try simp only [Act.put, sI, sZ, sS]
  refine takeH 11 (oi := ?o11_1) (v := ?v11_1) ?h11_1 (by kernel_rfl) (by assumption) ?y11_1 ?_
  case h11_1 => (simp only [gA, gZ, gS]; rfl)
  case y11_1 => (refine ⟨fun _ _ _ h => h, rfl, fun w h => ?_⟩; (try dsimp only at h); go_simp <;> with_reducible rfl)
  try simp only [Act.put, sI, sZ, sS]
  refine takeH 12 (oi := ?o12_1) (v := ?v12_1) ?h12_1 (by kernel_rfl) (by assumption) ?y12_1 ?_
  case h12_1 => (simp only [gA, gZ, gS]; rfl)
  case y12_1 => (refine ⟨fun _ _ _ h => h, rfl, fun w h => ?_⟩; (try dsimp only at h); go_simp <;> with_reducible rfl)
  try simp only [Act.put, sI, sZ, sS]
  refine takeH 13 (oi := ?o13_1) (v := ?v13_1) ?h13_1 (by kernel_rfl) (by assumption) ?y13_1 ?_
  case h13_1 => (simp only [gA, gZ, gS]; rfl)
  case y13_1 => (refine ⟨fun _ _ _ h => h, rfl, fun w h => ?_⟩; (try dsimp only at h); go_simp <;> with_reducible rfl)
  try simp only [Act.put, sI, sZ, sS]
  refine takeH 14 (oi := ?o14_1) (v := ?v14_1) ?h14_1 (by kernel_rfl) (by assumption) ?y14_1 ?_
  case h14_1 => (simp only [gA, gZ, gS]; rfl)
  case y14_1 => (refine ⟨fun _ _ _ h => h, rfl, fun w h => ?_⟩; (try dsimp only at h); go_simp <;> with_reducible rfl)
  try simp only [Act.put, sI, sZ, sS]
  refine takeH 15 (oi := ?o15_1) (v := ?v15_1) ?h15_1 (by kernel_rfl) (by assumption) ?y15_1 ?_
  case h15_1 => (simp only [gA, gZ, gS]; rfl)
  case y15_1 => (refine ⟨fun _ _ _ h => h, rfl, fun w h => ?_⟩; (try dsimp only at h); go_simp <;> with_reducible rfl)
  try simp only [Act.put, sI, sZ, sS]
  refine takeH 16 (oi := ?o16_1) (v := ?v16_1) ?h16_1 (by kernel_rfl) (by assumption) ?y16_1 ?_
  case h16_1 => (simp only [gA, gZ, gS]; rfl)
  case y16_1 => (refine ⟨fun _ _ _ h => h, rfl, fun w h => ?_⟩; (try dsimp only at h); go_simp <;> with_reducible rfl)
  try simp only [Act.put, sI, sZ, sS]
  refine takeH 17 (oi := ?o17_1) (v := ?v17_1) ?h17_1 (by kernel_rfl) (by assumption) ?y17_1 ?_
  case h17_1 => (simp only [gA, gZ, gS]; rfl)
  case y17_1 => (refine ⟨fun _ _ _ h => h, rfl, fun w h => ?_⟩; (try dsimp only at h); go_simp <;> with_reducible rfl)
  try simp only [Act.put, sI, sZ, sS]
  refine wpAnyH_done (by kernel_rfl) ?_ _
  show wpList _ _ _ _ _ _
  clear hHeld
  go_wp2_with fail
  refine (uh HS).mono ?_
  rintro e W2 ⟨rfl, hW2⟩
  obtain rfl : W2 = w.drew := hW2
  clear HS
  go_wp2
  go_ret
  exact ⟨rfl, below_drew w⟩
 ·have h150 : (es.length : Int) = 150 := by have := (uh HH).most; omega
  rw [h150] at c4
  clear h150 he hj0 HH
  go_enter Tryz.func129, Tryz.ntmps129
  go_wp2
  go_quiet (fail)
  go_wp2
  go_ret
  exact ⟨rfl, rfl, rfl, rfl, Nat.le_refl _, fun _ _ => rfl⟩
theorem base_ready_ok {w : World} {B D : Nat} {es : List (List Fop ⊕ Int)} {ps : Nat -> ByteArray} {cut : Bool} {left : Int} {F : Nat -> Prop} (h : BdW w B D es false ps cut left F) (he : es.length < 150) :
  Calls Tryz.prog 77 #[.pointer (some ⟨B, 0, none⟩)] w fun e w' => e = .returned .nilIface /\ Below w.heap.size w w' := by
 have HL := zh (base_late h)
 have HH := zh h
 obtain ⟨c0, c4, c5, f, fB, c1, c2⟩ := h.base.cells
 have he' : ¬ (150 : Int) <= (es.length : Int) := by omega
 clear h f c4 c1 c2 fB
 go_enter Tryz.func77, Tryz.ntmps77
 go_wp2_with fail
 refine (uh HL).mono ?_
 rintro e W1 ⟨rfl, b1⟩
 obtain ⟨_, d4, _, _, _, _, _⟩ := ((uh HH).base.below b1).cells
 have HB := zh b1
 clear HL HH b1 c0 c5
 go_wp2
 go_ret
 exact ⟨rfl, uh HB⟩
theorem base_ready_down {w : World} {B D : Nat} {es : List (List Fop ⊕ Int)} {ps : Nat -> ByteArray} {cut : Bool} {left : Int} {F : Nat -> Prop} (h : BdW w B D es true ps cut left F) :
  Calls Tryz.prog 77 #[.pointer (some ⟨B, 0, none⟩)] w fun e w' => e = .returned (.iface 43 (.int .i64 6)) /\ Below w.heap.size w w' := by
 obtain ⟨c0, c4, c5, f, fB, c1, c2⟩ := h.base.cells
 clear h f c4 c1 c2 fB
 go_enter Tryz.func77, Tryz.ntmps77
 go_wp2
 go_ret
 exact ⟨rfl, Below.refl _ _⟩
theorem base_ready_full {w : World} {B D : Nat} {es : List (List Fop ⊕ Int)} {ps : Nat -> ByteArray} {cut : Bool} {left : Int} {F : Nat -> Prop} (h : BdW w B D es false ps cut left F) (he : es.length = 150) :
  Calls Tryz.prog 77 #[.pointer (some ⟨B, 0, none⟩)] w fun e w' => e = .returned (.iface 43 (.int .i64 4)) /\ Below w.heap.size w w' := by
 have HL := zh (base_late h)
 have HH := zh h
 obtain ⟨c0, c4, c5, f, fB, c1, c2⟩ := h.base.cells
 clear h f c4 c1 c2 fB
 go_enter Tryz.func77, Tryz.ntmps77
 go_wp2_with fail
 refine (uh HL).mono ?_
 rintro e W1 ⟨rfl, b1⟩
 obtain ⟨_, d4, _, _, _, _, _⟩ := ((uh HH).base.below b1).cells
 have h150 : (es.length : Int) = 150 := by omega
 rw [h150] at d4
 have HB := zh b1
 clear HL HH b1 c0 c5 he h150
 go_wp2
 go_ret
 exact ⟨rfl, uh HB⟩
theorem ent_text (x : List UInt8) : (⟨x.toArray⟩ : ByteArray) ++ ⟨#[10]⟩ = ⟨(x ++ [10]).toArray⟩ := by
 apply bytes_is
 simp
theorem base_Commit_on {w : World} {B D : Nat} {es : List (List Fop ⊕ Int)} {ps : Nat -> ByteArray} {cut : Bool} {left : Int} {F : Nat -> Prop} (h : BdW w B D es false ps cut left F) (he : es.length < 150) (l : List Fop) (v : Value) (hl : okL l) (hO : ReadsOps w v l) (hs : ∀ x, x ∈ l -> Small x) (torn : Int) (hp : cut = false \/ left ≠ 0) {w0 : World} (hw : Below w0.heap.size w0 w) (hD0 : w0.heap.size <= D) (ht : Tab w0) (hb : Libs w0) :
  Calls Tryz.prog 30 #[.pointer (some ⟨B, 0, none⟩), v, .int .i64 torn] w fun e w' => e = .returned .nilIface /\ WroteOn w B D (es ++ [.inl l]) cut (nextL cut left) F w' := by
 have HR := zh (base_ready_ok h he)
 have HW := zh (fun W (hW : Below w.heap.size w W) => write_ok l v W hs (hO.carry hW) hl (ht.carry (hw.trans (hW.mono hw.size))))
 have HC := zh (fun W (hW : Below w.heap.size w W) => base_write_on (h.below hW) he (.inl l) hl torn hp (hw.trans (hW.mono hw.size)) hD0 ht hb)
 obtain ⟨ad, cap, hv, _⟩ := hO
 have hlen := wrs_length_le l hl.2.2
 have hl8 := hl.2.1
 have hent := ent_text (opsL l)
 have hsz : (⟨(opsL l).toArray⟩ : ByteArray).size + 1 <= 9223372036854775807 := by rw [bytes_len]; omega
 change Hid (∀ W, Below w.heap.size w W -> Calls Tryz.prog 78 #[.pointer (some ⟨B, 0, none⟩), .string ⟨(opsL l ++ [10]).toArray⟩, .int .i64 torn] W fun e w' => e = .returned .nilIface /\ WroteOn W B D (es ++ [.inl l]) cut (nextL cut left) F w') at HC
 rw [<- hent] at HC
 clear h hs hw hD0 ht hb hp hl hent hlen hl8
 subst hv
 generalize (⟨(opsL l).toArray⟩ : ByteArray) = tx at HW HC hsz
 go_enter Tryz.func30, Tryz.ntmps30
 go_wp2_with fail
 refine (uh HR).mono ?_
 rintro e W1 ⟨rfl, b1⟩
 have HB1 := zh b1
 have HW1 := zh (uh HW W1 b1)
 clear HR HW b1
 go_wp2_with fail
 refine (uh HW1).mono ?_
 rintro e W2 ⟨rfl, b2⟩
 have HB2 := zh ((uh HB1).trans (b2.mono (uh HB1).size))
 have HC2 := zh (uh HC W2 (uh HB2))
 clear HW1 b2 HC HB1
 go_wp2_with fail
 refine (uh HC2).mono ?_
 rintro e W3 ⟨rfl, F', ps', bd, wt⟩
 have HF : Hid (WroteOn w B D (es ++ [.inl l]) cut (nextL cut left) F W3) := ⟨F', ps', bd, Went.below (uh HB2) wt⟩
 clear HC2 bd wt
 go_wp2
 go_ret
 exact ⟨rfl, uh HF⟩
theorem base_Commit_off {w : World} {B D : Nat} {es : List (List Fop ⊕ Int)} {ps : Nat -> ByteArray} {F : Nat -> Prop} (h : BdW w B D es false ps true 0 F) (he : es.length < 150) (l : List Fop) (v : Value) (hl : okL l) (hO : ReadsOps w v l) (hs : ∀ x, x ∈ l -> Small x) (torn : Int) (ht : Tab w) :
  Calls Tryz.prog 30 #[.pointer (some ⟨B, 0, none⟩), v, .int .i64 torn] w fun e w' => e = .returned (.iface 43 (.int .i64 14)) /\ WroteOff w B D es F w' := by
 have HR := zh (base_ready_ok h he)
 have HW := zh (fun W (hW : Below w.heap.size w W) => write_ok l v W hs (hO.carry hW) hl (ht.carry hW))
 have HC := zh (fun W (hW : Below w.heap.size w W) => base_write_off (h.below hW) he (.inl l) hl torn)
 obtain ⟨ad, cap, hv, _⟩ := hO
 have hlen := wrs_length_le l hl.2.2
 have hl8 := hl.2.1
 have hent := ent_text (opsL l)
 have hsz : (⟨(opsL l).toArray⟩ : ByteArray).size + 1 <= 9223372036854775807 := by rw [bytes_len]; omega
 have hent2 : (⟨(entL (.inl l)).toArray⟩ : ByteArray) = ⟨(opsL l).toArray⟩ ++ ⟨#[10]⟩ := hent.symm
 rw [hent2] at HC
 clear h hs ht hl hent hent2 hlen hl8
 subst hv
 generalize (⟨(opsL l).toArray⟩ : ByteArray) = tx at HW HC hsz
 go_enter Tryz.func30, Tryz.ntmps30
 go_wp2_with fail
 refine (uh HR).mono ?_
 rintro e W1 ⟨rfl, b1⟩
 have HB1 := zh b1
 have HW1 := zh (uh HW W1 b1)
 clear HR HW b1
 go_wp2_with fail
 refine (uh HW1).mono ?_
 rintro e W2 ⟨rfl, b2⟩
 have HB2 := zh ((uh HB1).trans (b2.mono (uh HB1).size))
 have HC2 := zh (uh HC W2 (uh HB2))
 clear HW1 b2 HC HB1
 go_wp2_with fail
 refine (uh HC2).mono ?_
 rintro e W3 ⟨rfl, ps', bd, wt⟩
 have HF : Hid (WroteOff w B D es F W3) := ⟨ps', bd, Went.below (uh HB2) wt⟩
 clear HC2 bd wt
 go_wp2
 go_ret
 exact ⟨rfl, uh HF⟩
theorem base_Used {w : World} {B D : Nat} {used : Int} {down : Bool} {txs : List (List Fop)} {known : Int} {F : Nat -> Prop} (h : BaseW w B D used down txs known F) :
  Calls Tryz.prog 36 #[.pointer (some ⟨B, 0, none⟩)] w fun e w' => e = .returned (.int .i64 used) /\ w' = w := by
 obtain ⟨_, c4, _, _, _, _, _⟩ := h.cells
 clear h
 go_enter Tryz.func36, Tryz.ntmps36
 go_wp2
 go_ret
 exact ⟨rfl, rfl⟩
theorem base_Down {w : World} {B D : Nat} {used : Int} {down : Bool} {txs : List (List Fop)} {known : Int} {F : Nat -> Prop} (h : BaseW w B D used down txs known F) :
  Calls Tryz.prog 37 #[.pointer (some ⟨B, 0, none⟩)] w fun e w' => e = .returned (.bool down) /\ w' = w := by
 obtain ⟨_, _, c5, _, _, _, _⟩ := h.cells
 clear h
 go_enter Tryz.func37, Tryz.ntmps37
 go_wp2
 go_ret
 exact ⟨rfl, rfl⟩
theorem base_Past (w : World) (B : Nat) :
  Calls Tryz.prog 38 #[.pointer (some ⟨B, 0, none⟩)] w fun e w' => e = .returned (.pointer (some ⟨B, 1, none⟩)) /\ w' = w := by
 go_enter Tryz.func38, Tryz.ntmps38
 go_wp2
 go_ret
 exact ⟨rfl, rfl⟩
end Go.Proofs.YtfoojmflbifkpaaGreatDoor
