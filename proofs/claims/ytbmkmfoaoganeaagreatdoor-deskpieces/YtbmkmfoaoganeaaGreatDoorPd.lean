/- Texts of one proof, one behind the other. -/
import Derived.Test.YtbmkmfoaoganeaaGreatDoorPc
import Derived.Test.YtbmkmfoaoganeaaGreatDoorOb
set_option maxRecDepth 100000
set_option maxHeartbeats 16000000
namespace Go.Proofs.YtbmkmfoaoganeaaGreatDoor
open Go.RowKit Go.Maps
structure BdW (w : World) (B D : Nat) (es : List (List Fop ⊕ Int)) (down : Bool) (ps : Nat -> ByteArray) (cut : Bool) (left : Int) (F : Nat -> Prop) : Prop where
 base : BaseW w B D es.length down (stE es).1 (stE es).2 F
 disk : DiskW w D ps cut left
 holds : Holds ps es
 apart : ¬ F D
 most : es.length <= 150
theorem BdW.below {w w' : World} {B D : Nat} {es : List (List Fop ⊕ Int)} {down : Bool} {ps : Nat -> ByteArray} {cut : Bool} {left : Int} {F : Nat -> Prop} (h : BdW w B D es down ps cut left F) (hb : Below w.heap.size w w') : BdW w' B D es down ps cut left F :=
 ⟨h.base.below hb, h.disk.below hb, h.holds, h.apart, h.most⟩
def Went (w : World) (D : Nat) (F F' : Nat -> Prop) (w' : World) : Prop := (∀ i, F' i -> F i \/ w.heap.size <= i) /\ Keeps (fun i => F i \/ i = D) w w'
theorem Went.below {a b c : World} {D : Nat} {F F' : Nat -> Prop} (h : Below a.heap.size a b) (k : Went b D F F' c) : Went a D F F' c :=
 ⟨fun i hi => (k.1 i hi).imp id (fun q => Nat.le_trans h.size q), (Keeps.of_below _ h zr).then k.2 (fun _ _ q => q)⟩
def WroteOn (w : World) (B D : Nat) (es : List (List Fop ⊕ Int)) (cut : Bool) (left : Int) (F : Nat -> Prop) (w' : World) : Prop := ∃ F' ps', BdW w' B D es false ps' cut left F' /\ Went w D F F' w'
def WroteOff (w : World) (B D : Nat) (es : List (List Fop ⊕ Int)) (F : Nat -> Prop) (w' : World) : Prop := ∃ ps', BdW w' B D es true ps' true 0 F /\ Went w D F F w'
theorem body_len (st : List (List Fop) × Int) (x : List Fop ⊕ Int) (h : OkE st x) (h0 : 0 <= st.2) (h1 : st.1.length <= 150) : (bodyL x).length <= 1300 := by
 rcases x with l | n
 ·have := wrs_length_le l h.2.2
  have := h.2.1
  show (opsL l).length <= 1300
  omega
 ·obtain ⟨q1, q2⟩ := (h : st.2 <= n /\ n <= st.1.length)
  have := itoa_short n (by omega) (by omega)
  show (forgetL ++ Lib.itoa n).length <= 1300
  rw [List.length_append]
  have : forgetL.length = 7 := rfl
  omega
theorem take_x {w : World} {B D : Nat} {used : Int} {down : Bool} {st : List (List Fop) × Int} {F : Nat -> Prop} (h : BaseW w B D used down st.1 st.2 F) (x : List Fop ⊕ Int) (hx : OkE st x) (h1 : st.1.length < 150) (h0 : 0 <= st.2) (hk : st.2 <= st.1.length) (ht : Tab w) (hl : Libs w) :
  Calls Tryz.prog 111 #[.pointer (some ⟨B, 0, none⟩), .string ⟨(entL x).toArray⟩] w fun e w' => e = .returned (.bool true) /\ Took w B D used down (stepE st x) F w' := by
 rcases x with l | n
 ·exact take_commit h l hx h1 hk ht hl
 ·obtain ⟨q1, q2⟩ := (hx : st.2 <= n /\ n <= st.1.length)
  exact take_forget h n (by omega) q1 q2 (by omega)
theorem base_write_on {w : World} {B D : Nat} {es : List (List Fop ⊕ Int)} {ps : Nat -> ByteArray} {cut : Bool} {left : Int} {F : Nat -> Prop} (h : BdW w B D es false ps cut left F) (he : es.length < 150) (x : List Fop ⊕ Int) (hx : OkE (stE es) x) (torn : Int) (hp : cut = false \/ left ≠ 0) {w0 : World} (hw : Below w0.heap.size w0 w) (hD0 : w0.heap.size <= D) (ht : Tab w0) (hl : Libs w0) :
  Calls Tryz.prog 92 #[.pointer (some ⟨B, 0, none⟩), .string ⟨(entL x).toArray⟩, .int .i64 torn] w fun e w' => e = .returned .nilIface /\ WroteOn w B D (es ++ [x]) cut (nextL cut left) F w' := by
 obtain ⟨s1, s2, s3⟩ := stE_bounds h.holds.good
 have hbl := body_len _ x hx s2 (by omega)
 have hsz : (⟨(entL x).toArray⟩ : ByteArray).size < 50000 := by
  rw [bytes_len]
  unfold entL
  rw [List.length_append]
  simp
  omega
 have HW := zh (disk_write_on (h.disk.below (below_drew w)) es.length he ⟨(entL x).toArray⟩ hsz torn hp)
 have HH := zh h
 have HX := zh hx
 have HG : Hid (∀ W, Keeps (· = D) w W -> Tab W /\ Libs W) := fun W hk => by
  have hb := hw.trans (keeps_below hk (fun i e => by rw [e]; exact hD0) hw.size)
  exact ⟨ht.carry hb, hl.carry hb⟩
 obtain ⟨c0, c4, c5, f, fB, c1, c2⟩ := h.base.cells
 have f4 := f 4
 clear h hx f ht hl hp hw hD0
 generalize hst : (⟨(entL x).toArray⟩ : ByteArray) = st at HW ⊢
 go_enter Tryz.func92, Tryz.ntmps92
 go_wp2
 refine wp_region_tail (fun y => y = w.drew) 10 (by kernel_rfl) (by kernel_rfl) rfl (fun hHeld => ?_)
 refine takeH 0 (h := ?_)
 try simp only [Act.put, sI, sZ, sS]
 refine takeH 1 (h := ?_)
 try simp only [Act.put, sI, sZ, sS]
 refine takeH 2 (h := ?_)
 try simp only [Act.put, sI, sZ, sS]
 refine takeH 3 (h := ?_)
 try simp only [Act.put, sI, sZ, sS]
 refine takeH 4 (h := ?_)
 try simp only [Act.put, sI, sZ, sS]
 refine takeH 5 (h := ?_)
 try simp only [Act.put, sI, sZ, sS]
 refine takeH 6 (h := ?_)
 try simp only [Act.put, sI, sZ, sS]
 refine takeH 7 (h := ?_)
 try simp only [Act.put, sI, sZ, sS]
 refine takeH 8 (h := ?_)
 try simp only [Act.put, sI, sZ, sS]
 refine takeH 9 (h := ?_)
 try simp only [Act.put, sI, sZ, sS]
 refine wpAnyH_done (by kernel_rfl) ?_ _
 show wpList _ _ _ _ _ _
 clear hHeld
 go_wp2_with fail
 refine (uh HW).mono ?_
 rintro e W1 ⟨rfl, hD1, k1⟩
 have HK1 := zh ((Keeps.of_below _ (below_drew w) zr).trans k1)
 have HD1 := zh hD1
 have hB1 := (uh HH).base.keeps (uh HK1) (fun i hi e => (uh HH).apart (by rw [<- e]; exact hi))
 obtain ⟨t1, t2⟩ := uh HG W1 (uh HK1)
 have HTk := zh (take_x hB1 x (uh HX) (by omega) s2 s3 t1 t2)
 rw [hst] at HTk
 clear HW k1 hD1 t1 t2 hB1 HG c0 c4 c5 fB c1 c2 f4
 go_wp2_with fail
 refine (uh HTk).mono ?_
 rintro e W2 ⟨rfl, F2, p2, g2⟩
 obtain ⟨_, d4, _, ff, hFB, _, _⟩ := BaseW.cells p2
 have f4' := ff 4
 have hks := keeps_set W2 B 4 (.int .i64 ((es.length : Int) + 1))
 have hDB : D ≠ B := fun e => (uh HH).apart (by rw [e]; exact (uh HH).base.cells.2.2.2.2.1)
 have hD2 := ((uh HD1).keeps g2.2 (uh HH).apart).keeps hks hDB
 have HF : Hid (WroteOn w B D (es ++ [x]) cut (nextL cut left) F (W2.setCell ⟨B, 4, none⟩ (.int .i64 ((es.length : Int) + 1)))) := by
  refine ⟨F2, _, ⟨?_, hD2, (uh HH).holds.wrote (uh HX) (by rw [<- hst]), fun q => ?_, by rw [List.length_append, List.length_singleton]; omega⟩, fun i hi => ?_, ?_⟩
  ·rw [stE_snoc, List.length_append, List.length_singleton, Int.natCast_add, Int.natCast_one]
   exact BaseW.setUsed p2 _
  ·rcases g2.1 D q with r | r
   ·exact (uh HH).apart r
   ·have := (uh HD1).lt
    omega
  ·rcases g2.1 i hi with r | r
   ·exact .inl r
   ·exact .inr (Nat.le_trans (uh HK1).size r)
  ·refine (((uh HK1).mono (fun i _ e => .inr e)).then g2.2 (fun i _ q => .inl q)).then hks (fun i _ e => .inl (by rw [e]; exact (uh HH).base.cells.2.2.2.2.1))
 clear p2 g2 ff hks hD2 hDB HTk HK1 HD1 HX
 go_wp2
 go_ret
 exact ⟨rfl, uh HF⟩
theorem base_write_off {w : World} {B D : Nat} {es : List (List Fop ⊕ Int)} {ps : Nat -> ByteArray} {F : Nat -> Prop} (h : BdW w B D es false ps true 0 F) (he : es.length < 150) (x : List Fop ⊕ Int) (hx : OkE (stE es) x) (torn : Int) :
  Calls Tryz.prog 92 #[.pointer (some ⟨B, 0, none⟩), .string ⟨(entL x).toArray⟩, .int .i64 torn] w fun e w' => e = .returned (.iface 25 (.int .i64 14)) /\ WroteOff w B D es F w' := by
 obtain ⟨s1, s2, s3⟩ := stE_bounds h.holds.good
 have hbl := body_len _ x hx s2 (by omega)
 have HW := zh (disk_write_off (h.disk.below (below_drew w)) es.length he (bodyL x) (by omega) (body_mem _ x hx) torn)
 have HH := zh h
 obtain ⟨c0, c4, c5, f, fB, c1, c2⟩ := h.base.cells
 clear h hx f
 unfold entL
 generalize hst : (⟨(bodyL x ++ [10]).toArray⟩ : ByteArray) = st at HW ⊢
 go_enter Tryz.func92, Tryz.ntmps92
 go_wp2
 refine wp_region_tail (fun y => y = w.drew) 10 (by kernel_rfl) (by kernel_rfl) rfl (fun hHeld => ?_)
 refine takeH 0 (h := ?_)
 try simp only [Act.put, sI, sZ, sS]
 refine takeH 1 (h := ?_)
 try simp only [Act.put, sI, sZ, sS]
 refine takeH 2 (h := ?_)
 try simp only [Act.put, sI, sZ, sS]
 refine takeH 3 (h := ?_)
 try simp only [Act.put, sI, sZ, sS]
 refine takeH 4 (h := ?_)
 try simp only [Act.put, sI, sZ, sS]
 refine takeH 5 (h := ?_)
 try simp only [Act.put, sI, sZ, sS]
 refine takeH 6 (h := ?_)
 try simp only [Act.put, sI, sZ, sS]
 refine takeH 7 (h := ?_)
 try simp only [Act.put, sI, sZ, sS]
 refine takeH 8 (h := ?_)
 try simp only [Act.put, sI, sZ, sS]
 refine takeH 9 (h := ?_)
 try simp only [Act.put, sI, sZ, sS]
 refine wpAnyH_done (by kernel_rfl) ?_ _
 show wpList _ _ _ _ _ _
 clear hHeld
 go_wp2_with fail
 refine (uh HW).mono ?_
 rintro e W1 ⟨rfl, ps', hD1, k1, hps⟩
 have hK1 := (Keeps.of_below _ (below_drew w) zr).trans k1
 have hB1 := (uh HH).base.keeps hK1 (fun i hi e => (uh HH).apart (by rw [<- e]; exact hi))
 obtain ⟨_, _, d5, ff, hFB, _, _⟩ := BaseW.cells hB1
 have f5 := ff 5
 have hks := keeps_set W1 B 5 (.bool true)
 have hDB : D ≠ B := fun e => (uh HH).apart (by rw [e]; exact hFB)
 have HF : Hid (WroteOff w B D es F (W1.setCell ⟨B, 5, none⟩ (.bool true))) := by
  refine ⟨ps', ⟨BaseW.setDown hB1 true, hD1.keeps hks hDB, ?_, (uh HH).apart, (uh HH).most⟩, fun i hi => .inl hi, (hK1.mono (fun i _ e => .inr e)).then hks (fun i _ e => .inl (by rw [e]; exact hFB))⟩
  rcases hps with rfl | ⟨t, rfl, ht⟩
  ·exact (uh HH).holds
  ·exact (uh HH).holds.torn ht
 clear HW k1 hD1 hps hK1 hB1 ff hks hDB hFB c0 c4 c5 fB c1 c2
 go_wp2
 go_ret
 exact ⟨rfl, uh HF⟩
theorem base_late {w : World} {B D : Nat} {es : List (List Fop ⊕ Int)} {down : Bool} {ps : Nat -> ByteArray} {cut : Bool} {left : Int} {F : Nat -> Prop} (h : BdW w B D es down ps cut left F) :
  Calls Tryz.prog 131 #[.pointer (some ⟨B, 0, none⟩)] w fun e w' => e = .returned (.bool false) /\ Below w.heap.size w w' := by
 obtain ⟨c0, c4, c5, f, fB, c1, c2⟩ := h.base.cells
 have HH := zh h
 clear h f
 have hj0 : (0 : Int) <= (es.length : Int) := by omega
 by_cases he : es.length < 150
 ·have he' : (es.length : Int) < 150 := by omega
  have hp := (uh HH).disk.p es.length he
  have HS := zh (has_suffix_no (ps es.length) w.drew (by have := (uh HH).disk.sz es.length; omega) ((uh HH).holds.none es.length zr))
  generalize ps es.length = sj at hp HS
  go_enter Tryz.func131, Tryz.ntmps131
  go_wp2
  refine wp_region_tail (fun y => y = w.drew) 18 (by kernel_rfl) (by kernel_rfl) rfl (fun hHeld => ?_)
  refine takeH 0 (h := ?_)
  try simp only [Act.put, sI, sZ, sS]
  refine takeH 1 (h := ?_)
  try simp only [Act.put, sI, sZ, sS]
  refine takeH 2 (h := ?_)
  try simp only [Act.put, sI, sZ, sS]
  refine takeH 3 (h := ?_)
  try simp only [Act.put, sI, sZ, sS]
  refine takeH 4 (h := ?_)
  try simp only [Act.put, sI, sZ, sS]
  refine takeH 5 (h := ?_)
  try simp only [Act.put, sI, sZ, sS]
  refine takeH 6 (h := ?_)
  try simp only [Act.put, sI, sZ, sS]
  refine takeH 7 (h := ?_)
  try simp only [Act.put, sI, sZ, sS]
  refine takeH 8 (h := ?_)
  try simp only [Act.put, sI, sZ, sS]
  refine takeH 9 (h := ?_)
  try simp only [Act.put, sI, sZ, sS]
  refine takeH 10 (h := ?_)
  try simp only [Act.put, sI, sZ, sS]
  refine takeH 11 (h := ?_)
  try simp only [Act.put, sI, sZ, sS]
  refine takeH 12 (h := ?_)
  try simp only [Act.put, sI, sZ, sS]
  refine takeH 13 (h := ?_)
  try simp only [Act.put, sI, sZ, sS]
  refine takeH 14 (h := ?_)
  try simp only [Act.put, sI, sZ, sS]
  refine takeH 15 (h := ?_)
  try simp only [Act.put, sI, sZ, sS]
  refine takeH 16 (h := ?_)
  try simp only [Act.put, sI, sZ, sS]
  refine takeH 17 (h := ?_)
  try simp only [Act.put, sI, sZ, sS]
  refine wpAnyH_done (by kernel_rfl) ?_ _
  show wpList _ _ _ _ _ _
  clear hHeld
  go_wp2_with fail
  refine (uh HS).mono ?_
  rintro e W2 ⟨rfl, hW2⟩
  obtain rfl : W2 = w.drew := hW2
  clear HS
  go_wp2
  go_ret
  exact ⟨rfl, below_drew w⟩
 ·have h150 : (es.length : Int) = 150 := by have := (uh HH).most; omega
  rw [h150] at c4
  clear h150 he hj0 HH
  go_enter Tryz.func131, Tryz.ntmps131
  go_wp2
  go_quiet (fail)
  go_wp2
  go_ret
  exact ⟨rfl, rfl, rfl, rfl, Nat.le_refl _, fun _ _ => rfl⟩
theorem base_ready_ok {w : World} {B D : Nat} {es : List (List Fop ⊕ Int)} {ps : Nat -> ByteArray} {cut : Bool} {left : Int} {F : Nat -> Prop} (h : BdW w B D es false ps cut left F) (he : es.length < 150) :
  Calls Tryz.prog 90 #[.pointer (some ⟨B, 0, none⟩)] w fun e w' => e = .returned .nilIface /\ Below w.heap.size w w' := by
 have HL := zh (base_late h)
 have HH := zh h
 obtain ⟨c0, c4, c5, f, fB, c1, c2⟩ := h.base.cells
 have he' : ¬ (150 : Int) <= (es.length : Int) := by omega
 clear h f c4 c1 c2 fB
 go_enter Tryz.func90, Tryz.ntmps90
 go_wp2_with fail
 refine (uh HL).mono ?_
 rintro e W1 ⟨rfl, b1⟩
 obtain ⟨_, d4, _, _, _, _, _⟩ := ((uh HH).base.below b1).cells
 have HB := zh b1
 clear HL HH b1 c0 c5
 go_wp2
 go_ret
 exact ⟨rfl, uh HB⟩
theorem base_ready_down {w : World} {B D : Nat} {es : List (List Fop ⊕ Int)} {ps : Nat -> ByteArray} {cut : Bool} {left : Int} {F : Nat -> Prop} (h : BdW w B D es true ps cut left F) :
  Calls Tryz.prog 90 #[.pointer (some ⟨B, 0, none⟩)] w fun e w' => e = .returned (.iface 25 (.int .i64 6)) /\ Below w.heap.size w w' := by
 obtain ⟨c0, c4, c5, f, fB, c1, c2⟩ := h.base.cells
 clear h f c4 c1 c2 fB
 go_enter Tryz.func90, Tryz.ntmps90
 go_wp2
 go_ret
 exact ⟨rfl, Below.refl _ _⟩
theorem base_ready_full {w : World} {B D : Nat} {es : List (List Fop ⊕ Int)} {ps : Nat -> ByteArray} {cut : Bool} {left : Int} {F : Nat -> Prop} (h : BdW w B D es false ps cut left F) (he : es.length = 150) :
  Calls Tryz.prog 90 #[.pointer (some ⟨B, 0, none⟩)] w fun e w' => e = .returned (.iface 25 (.int .i64 4)) /\ Below w.heap.size w w' := by
 have HL := zh (base_late h)
 have HH := zh h
 obtain ⟨c0, c4, c5, f, fB, c1, c2⟩ := h.base.cells
 clear h f c4 c1 c2 fB
 go_enter Tryz.func90, Tryz.ntmps90
 go_wp2_with fail
 refine (uh HL).mono ?_
 rintro e W1 ⟨rfl, b1⟩
 obtain ⟨_, d4, _, _, _, _, _⟩ := ((uh HH).base.below b1).cells
 have h150 : (es.length : Int) = 150 := by omega
 rw [h150] at d4
 have HB := zh b1
 clear HL HH b1 c0 c5 he h150
 go_wp2
 go_ret
 exact ⟨rfl, uh HB⟩
theorem ent_text (x : List UInt8) : (⟨x.toArray⟩ : ByteArray) ++ ⟨#[10]⟩ = ⟨(x ++ [10]).toArray⟩ := by
 apply bytes_is
 simp
theorem base_Commit_on {w : World} {B D : Nat} {es : List (List Fop ⊕ Int)} {ps : Nat -> ByteArray} {cut : Bool} {left : Int} {F : Nat -> Prop} (h : BdW w B D es false ps cut left F) (he : es.length < 150) (l : List Fop) (v : Value) (hl : okL l) (hO : ReadsOps w v l) (hs : ∀ x, x ∈ l -> Small x) (torn : Int) (hp : cut = false \/ left ≠ 0) {w0 : World} (hw : Below w0.heap.size w0 w) (hD0 : w0.heap.size <= D) (ht : Tab w0) (hb : Libs w0) :
  Calls Tryz.prog 41 #[.pointer (some ⟨B, 0, none⟩), v, .int .i64 torn] w fun e w' => e = .returned .nilIface /\ WroteOn w B D (es ++ [.inl l]) cut (nextL cut left) F w' := by
 have HR := zh (base_ready_ok h he)
 have HW := zh (fun W (hW : Below w.heap.size w W) => write_ok l v W hs (hO.carry hW) hl (ht.carry (hw.trans (hW.mono hw.size))))
 have HC := zh (fun W (hW : Below w.heap.size w W) => base_write_on (h.below hW) he (.inl l) hl torn hp (hw.trans (hW.mono hw.size)) hD0 ht hb)
 obtain ⟨ad, cap, hv, _⟩ := hO
 have hlen := wrs_length_le l hl.2.2
 have hl8 := hl.2.1
 have hent := ent_text (opsL l)
 have hsz : (⟨(opsL l).toArray⟩ : ByteArray).size + 1 <= 9223372036854775807 := by rw [bytes_len]; omega
 change Hid (∀ W, Below w.heap.size w W -> Calls Tryz.prog 92 #[.pointer (some ⟨B, 0, none⟩), .string ⟨(opsL l ++ [10]).toArray⟩, .int .i64 torn] W fun e w' => e = .returned .nilIface /\ WroteOn W B D (es ++ [.inl l]) cut (nextL cut left) F w') at HC
 rw [<- hent] at HC
 clear h hs hw hD0 ht hb hp hl hent hlen hl8
 subst hv
 generalize (⟨(opsL l).toArray⟩ : ByteArray) = tx at HW HC hsz
 go_enter Tryz.func41, Tryz.ntmps41
 go_wp2_with fail
 refine (uh HR).mono ?_
 rintro e W1 ⟨rfl, b1⟩
 have HB1 := zh b1
 have HW1 := zh (uh HW W1 b1)
 clear HR HW b1
 go_wp2_with fail
 refine (uh HW1).mono ?_
 rintro e W2 ⟨rfl, b2⟩
 have HB2 := zh ((uh HB1).trans (b2.mono (uh HB1).size))
 have HC2 := zh (uh HC W2 (uh HB2))
 clear HW1 b2 HC HB1
 go_wp2_with fail
 refine (uh HC2).mono ?_
 rintro e W3 ⟨rfl, F', ps', bd, wt⟩
 have HF : Hid (WroteOn w B D (es ++ [.inl l]) cut (nextL cut left) F W3) := ⟨F', ps', bd, Went.below (uh HB2) wt⟩
 clear HC2 bd wt
 go_wp2
 go_ret
 exact ⟨rfl, uh HF⟩
theorem base_Commit_off {w : World} {B D : Nat} {es : List (List Fop ⊕ Int)} {ps : Nat -> ByteArray} {F : Nat -> Prop} (h : BdW w B D es false ps true 0 F) (he : es.length < 150) (l : List Fop) (v : Value) (hl : okL l) (hO : ReadsOps w v l) (hs : ∀ x, x ∈ l -> Small x) (torn : Int) (ht : Tab w) :
  Calls Tryz.prog 41 #[.pointer (some ⟨B, 0, none⟩), v, .int .i64 torn] w fun e w' => e = .returned (.iface 25 (.int .i64 14)) /\ WroteOff w B D es F w' := by
 have HR := zh (base_ready_ok h he)
 have HW := zh (fun W (hW : Below w.heap.size w W) => write_ok l v W hs (hO.carry hW) hl (ht.carry hW))
 have HC := zh (fun W (hW : Below w.heap.size w W) => base_write_off (h.below hW) he (.inl l) hl torn)
 obtain ⟨ad, cap, hv, _⟩ := hO
 have hlen := wrs_length_le l hl.2.2
 have hl8 := hl.2.1
 have hent := ent_text (opsL l)
 have hsz : (⟨(opsL l).toArray⟩ : ByteArray).size + 1 <= 9223372036854775807 := by rw [bytes_len]; omega
 have hent2 : (⟨(entL (.inl l)).toArray⟩ : ByteArray) = ⟨(opsL l).toArray⟩ ++ ⟨#[10]⟩ := hent.symm
 rw [hent2] at HC
 clear h hs ht hl hent hent2 hlen hl8
 subst hv
 generalize (⟨(opsL l).toArray⟩ : ByteArray) = tx at HW HC hsz
 go_enter Tryz.func41, Tryz.ntmps41
 go_wp2_with fail
 refine (uh HR).mono ?_
 rintro e W1 ⟨rfl, b1⟩
 have HB1 := zh b1
 have HW1 := zh (uh HW W1 b1)
 clear HR HW b1
 go_wp2_with fail
 refine (uh HW1).mono ?_
 rintro e W2 ⟨rfl, b2⟩
 have HB2 := zh ((uh HB1).trans (b2.mono (uh HB1).size))
 have HC2 := zh (uh HC W2 (uh HB2))
 clear HW1 b2 HC HB1
 go_wp2_with fail
 refine (uh HC2).mono ?_
 rintro e W3 ⟨rfl, ps', bd, wt⟩
 have HF : Hid (WroteOff w B D es F W3) := ⟨ps', bd, Went.below (uh HB2) wt⟩
 clear HC2 bd wt
 go_wp2
 go_ret
 exact ⟨rfl, uh HF⟩
theorem base_Used {w : World} {B D : Nat} {used : Int} {down : Bool} {txs : List (List Fop)} {known : Int} {F : Nat -> Prop} (h : BaseW w B D used down txs known F) :
  Calls Tryz.prog 66 #[.pointer (some ⟨B, 0, none⟩)] w fun e w' => e = .returned (.int .i64 used) /\ w' = w := by
 obtain ⟨_, c4, _, _, _, _, _⟩ := h.cells
 clear h
 go_enter Tryz.func66, Tryz.ntmps66
 go_wp2
 go_ret
 exact ⟨rfl, rfl⟩
theorem base_Down {w : World} {B D : Nat} {used : Int} {down : Bool} {txs : List (List Fop)} {known : Int} {F : Nat -> Prop} (h : BaseW w B D used down txs known F) :
  Calls Tryz.prog 68 #[.pointer (some ⟨B, 0, none⟩)] w fun e w' => e = .returned (.bool down) /\ w' = w := by
 obtain ⟨_, _, c5, _, _, _, _⟩ := h.cells
 clear h
 go_enter Tryz.func68, Tryz.ntmps68
 go_wp2
 go_ret
 exact ⟨rfl, rfl⟩
theorem base_Past (w : World) (B : Nat) :
  Calls Tryz.prog 39 #[.pointer (some ⟨B, 0, none⟩)] w fun e w' => e = .returned (.pointer (some ⟨B, 1, none⟩)) /\ w' = w := by
 go_enter Tryz.func39, Tryz.ntmps39
 go_wp2
 go_ret
 exact ⟨rfl, rfl⟩
def roomE (used : Int) (down : Bool) : Int := if down then 6 else if 150 <= used then 4 else 0
theorem base_ready {w : World} {B D : Nat} {es : List (List Fop ⊕ Int)} {down : Bool} {ps : Nat -> ByteArray} {cut : Bool} {left : Int} {F : Nat -> Prop} (h : BdW w B D es down ps cut left F) (hr : roomE es.length down ≠ 0) :
  Calls Tryz.prog 90 #[.pointer (some ⟨B, 0, none⟩)] w fun e w' => e = .returned (.iface 25 (.int .i64 (roomE es.length down))) /\ Below w.heap.size w w' := by
 cases down with
 | true => exact base_ready_down h
 | false =>
  unfold roomE at hr ⊢
  by_cases h1 : (150 : Int) <= (es.length : Int)
  ·rw [if_neg (by simp), if_pos h1]
   exact base_ready_full h (by have := h.most; omega)
  ·rw [if_neg (by simp), if_neg h1] at hr
   exact absurd rfl hr
theorem base_commit_no {w : World} {B : Nat} {e0 : Int} (hr : Calls Tryz.prog 90 #[.pointer (some ⟨B, 0, none⟩)] w fun e w' => e = .returned (.iface 25 (.int .i64 e0)) /\ Below w.heap.size w w') (ad : Option Addr) (n c : Nat) (torn : Int) :
  Calls Tryz.prog 41 #[.pointer (some ⟨B, 0, none⟩), .slice ad n c, .int .i64 torn] w fun e w' => e = .returned (.iface 25 (.int .i64 e0)) /\ Below w.heap.size w w' := by
 have HR := zh hr
 clear hr
 go_enter Tryz.func41, Tryz.ntmps41
 go_wp2_with fail
 refine (uh HR).mono ?_
 rintro e W1 ⟨rfl, b1⟩
 have HB := zh b1
 clear HR b1
 go_wp2
 go_ret
 exact ⟨rfl, uh HB⟩
theorem base_forget_no {w : World} {B : Nat} {e0 : Int} (hr : Calls Tryz.prog 90 #[.pointer (some ⟨B, 0, none⟩)] w fun e w' => e = .returned (.iface 25 (.int .i64 e0)) /\ Below w.heap.size w w') (at_ torn : Int) :
  Calls Tryz.prog 53 #[.pointer (some ⟨B, 0, none⟩), .int .i64 at_, .int .i64 torn] w fun e w' => e = .returned (.iface 25 (.int .i64 e0)) /\ Below w.heap.size w w' := by
 have HR := zh hr
 clear hr
 go_enter Tryz.func53, Tryz.ntmps53
 go_wp2_with fail
 refine (uh HR).mono ?_
 rintro e W1 ⟨rfl, b1⟩
 have HB := zh b1
 clear HR b1
 go_wp2
 go_ret
 exact ⟨rfl, uh HB⟩
theorem base_now {w : World} {B D : Nat} {used : Int} {down : Bool} {txs : List (List Fop)} {known : Int} {F : Nat -> Prop} (h : BaseW w B D used down txs known F) :
  Calls Tryz.prog 43 #[.pointer (some ⟨B, 1, none⟩)] w fun e w' => e = .returned (.int .i64 txs.length) /\ w' = w := past_Now (P := plB B D used down) (PastW.cells h).1
theorem base_known {w : World} {B D : Nat} {used : Int} {down : Bool} {txs : List (List Fop)} {known : Int} {F : Nat -> Prop} (h : BaseW w B D used down txs known F) :
  Calls Tryz.prog 65 #[.pointer (some ⟨B, 1, none⟩)] w fun e w' => e = .returned (.int .i64 known) /\ w' = w := past_Known (P := plB B D used down) (PastW.cells h).2
theorem base_forget_bad {w : World} {B D : Nat} {es : List (List Fop ⊕ Int)} {ps : Nat -> ByteArray} {cut : Bool} {left : Int} {F : Nat -> Prop} (h : BdW w B D es false ps cut left F) (he : es.length < 150) (at_ torn : Int) (hb : at_ < 0 \/ ((stE es).1.length : Int) < at_ \/ at_ < (stE es).2) :
  Calls Tryz.prog 53 #[.pointer (some ⟨B, 0, none⟩), .int .i64 at_, .int .i64 torn] w fun e w' => e = .returned (.iface 25 (.int .i64 (forgetErr (stE es).1.length at_))) /\ Below w.heap.size w w' := by
 have HR := zh (base_ready_ok h he)
 have HN := zh (fun W (hW : Below w.heap.size w W) => base_now (h.base.below hW))
 have HK := zh (fun W (hW : Below w.heap.size w W) => base_known (h.base.below hW))
 clear h he
 obtain ⟨n, hn⟩ : ∃ n, n = (stE es).1.length := ⟨_, rfl⟩
 rw [<- hn] at HN hb ⊢
 clear hn
 generalize (stE es).2 = known at *
 by_cases h0 : at_ < 0
 ·have hE : forgetErr n at_ = 2 := if_pos (.inl h0)
  rw [hE]
  clear hE hb
  go_enter Tryz.func53, Tryz.ntmps53
  go_wp2_with fail
  refine (uh HR).mono ?_
  rintro e W1 ⟨rfl, b1⟩
  have HB := zh b1
  clear HR b1
  go_wp2
  go_ret
  exact ⟨rfl, uh HB⟩
 ·by_cases h1 : (n : Int) < at_
  ·have hE : forgetErr n at_ = 2 := if_pos (.inr h1)
   rw [hE]
   clear hE hb
   go_enter Tryz.func53, Tryz.ntmps53
   go_wp2_with fail
   refine (uh HR).mono ?_
   rintro e W1 ⟨rfl, b1⟩
   have HB := zh b1
   have HN1 := zh (uh HN W1 b1)
   clear HR b1
   go_wp2_with fail
   refine (uh HN1).mono ?_
   rintro e W2 ⟨rfl, hW2⟩
   obtain rfl : W1 = W2 := hW2.symm
   clear hW2 HN1
   go_wp2
   go_ret
   exact ⟨rfl, uh HB⟩
  ·have hE : forgetErr n at_ = 10 := if_neg (by omega)
   rw [hE]
   have h2 : at_ < known := by omega
   clear hE hb
   go_enter Tryz.func53, Tryz.ntmps53
   go_wp2_with fail
   refine (uh HR).mono ?_
   rintro e W1 ⟨rfl, b1⟩
   have HB := zh b1
   have HN1 := zh (uh HN W1 b1)
   have HK1 := zh (uh HK W1 b1)
   clear HR b1
   go_wp2_with fail
   refine (uh HN1).mono ?_
   rintro e W2 ⟨rfl, hW2⟩
   obtain rfl : W1 = W2 := hW2.symm
   clear hW2 HN1
   go_wp2_with fail
   refine (uh HK1).mono ?_
   rintro e W2 ⟨rfl, hW2⟩
   obtain rfl : W1 = W2 := hW2.symm
   clear hW2 HK1
   go_wp2
   go_ret
   exact ⟨rfl, uh HB⟩
def ForgetEnds (w : World) (B : Nat) (at_ : Int) (u : Value) (Post : World -> World -> Prop) : Prop :=
 ∀ W, Below w.heap.size w W -> ∀ torn, Calls Tryz.prog 92 #[.pointer (some ⟨B, 0, none⟩), .string ⟨(entL (.inr at_)).toArray⟩, .int .i64 torn] W fun e w' => e = .returned u /\ Post W w'
theorem base_forget_goes {w : World} {B D : Nat} {es : List (List Fop ⊕ Int)} {ps : Nat -> ByteArray} {cut : Bool} {left : Int} {F : Nat -> Prop} (h : BdW w B D es false ps cut left F) (he : es.length < 150) (at_ torn : Int) (a0 : 0 <= at_) (a1 : at_ <= ((stE es).1.length : Int)) (a2 : (stE es).2 <= at_) (ht : Tab w) {u : Value} (hu : u = .nilIface \/ ∃ n, u = .iface 25 (.int .i64 n)) {Post : World -> World -> Prop} (hE : ForgetEnds w B at_ u Post) :
  Calls Tryz.prog 53 #[.pointer (some ⟨B, 0, none⟩), .int .i64 at_, .int .i64 torn] w fun e w' => e = .returned u /\ ∃ W, Below w.heap.size w W /\ Post W w' := by
 have hb := (stE_bounds h.holds.good).1
 have HR := zh (base_ready_ok h he)
 have HN := zh (fun W (hW : Below w.heap.size w W) => base_now (h.base.below hW))
 have HK := zh (fun W (hW : Below w.heap.size w W) => base_known (h.base.below hW))
 have HI := zh (fun W (hW : Below w.heap.size w W) => itoa at_ W (by omega) (by omega) (ht.carry hW))
 have HE := zh (fun W (hW : Below w.heap.size w W) => hE W hW torn)
 have hent : (⟨(entL (.inr at_)).toArray⟩ : ByteArray) = (⟨#[102, 111, 114, 103, 101, 116, 32]⟩ ++ ⟨(Lib.itoa at_).toArray⟩) ++ ⟨#[10]⟩ := by
  symm
  apply bytes_is
  simp [entL, bodyL, forgetL]
 rw [hent] at HE
 have hsz : (⟨(Lib.itoa at_).toArray⟩ : ByteArray).size <= 21 := by rw [bytes_len]; exact itoa_short at_ (by omega) (by omega)
 have h0 : ¬ at_ < 0 := by omega
 have h1 : ¬ ((stE es).1.length : Int) < at_ := by omega
 have h2 : ¬ at_ < (stE es).2 := by omega
 clear h he hE hent a0 a1 a2 ht hb
 obtain ⟨n, hn⟩ : ∃ n, n = (stE es).1.length := ⟨_, rfl⟩
 rw [<- hn] at HN h1
 clear hn
 generalize (stE es).2 = known at *
 generalize (⟨(Lib.itoa at_).toArray⟩ : ByteArray) = tx at *
 go_enter Tryz.func53, Tryz.ntmps53
 go_wp2_with fail
 refine (uh HR).mono ?_
 rintro e W1 ⟨rfl, b1⟩
 have HB := zh b1
 have HN1 := zh (uh HN W1 b1)
 have HK1 := zh (uh HK W1 b1)
 have HI1 := zh (uh HI W1 b1)
 clear HR b1 HN HK HI
 go_wp2_with fail
 refine (uh HN1).mono ?_
 rintro e W2 ⟨rfl, hW2⟩
 obtain rfl : W1 = W2 := hW2.symm
 clear hW2 HN1
 go_wp2_with fail
 refine (uh HK1).mono ?_
 rintro e W2 ⟨rfl, hW2⟩
 obtain rfl : W1 = W2 := hW2.symm
 clear hW2 HK1
 go_wp2_with fail
 refine (uh HI1).mono ?_
 rintro e W2 ⟨rfl, b2⟩
 have HB2 := zh ((uh HB).trans (b2.mono (uh HB).size))
 have HE2 := zh (uh HE W2 (uh HB2))
 clear b2 HI1 HE HB
 go_wp2_with fail
 refine (uh HE2).mono ?_
 rintro e W3 ⟨rfl, hp⟩
 have HF : Hid (∃ W, Below w.heap.size w W /\ Post W W3) := ⟨W2, uh HB2, hp⟩
 clear hp HE2
 rcases hu with rfl | ⟨n', rfl⟩
 ·go_wp2
  go_ret
  exact ⟨rfl, uh HF⟩
 ·go_wp2
  go_ret
  exact ⟨rfl, uh HF⟩
theorem base_forget_on {w : World} {B D : Nat} {es : List (List Fop ⊕ Int)} {ps : Nat -> ByteArray} {cut : Bool} {left : Int} {F : Nat -> Prop} (h : BdW w B D es false ps cut left F) (he : es.length < 150) (at_ torn : Int) (a0 : 0 <= at_) (a1 : at_ <= ((stE es).1.length : Int)) (a2 : (stE es).2 <= at_) (hp : cut = false \/ left ≠ 0) {w0 : World} (hw : Below w0.heap.size w0 w) (hD0 : w0.heap.size <= D) (ht : Tab w0) (hb : Libs w0) :
  Calls Tryz.prog 53 #[.pointer (some ⟨B, 0, none⟩), .int .i64 at_, .int .i64 torn] w fun e w' => e = .returned .nilIface /\ WroteOn w B D (es ++ [.inr at_]) cut (nextL cut left) F w' := by
 refine (base_forget_goes h he at_ torn a0 a1 a2 (ht.carry hw) (.inl rfl) (Post := fun W w' => WroteOn W B D (es ++ [.inr at_]) cut (nextL cut left) F w') (fun W hW torn => base_write_on (h.below hW) he (.inr at_) ⟨a2, a1⟩ torn hp (hw.trans (hW.mono hw.size)) hD0 ht hb)).mono ?_
 rintro e w' ⟨rfl, W, hW, F', ps', bd, wt⟩
 exact ⟨rfl, F', ps', bd, Went.below hW wt⟩
theorem base_forget_off {w : World} {B D : Nat} {es : List (List Fop ⊕ Int)} {ps : Nat -> ByteArray} {F : Nat -> Prop} (h : BdW w B D es false ps true 0 F) (he : es.length < 150) (at_ torn : Int) (a0 : 0 <= at_) (a1 : at_ <= ((stE es).1.length : Int)) (a2 : (stE es).2 <= at_) (ht : Tab w) :
  Calls Tryz.prog 53 #[.pointer (some ⟨B, 0, none⟩), .int .i64 at_, .int .i64 torn] w fun e w' => e = .returned (.iface 25 (.int .i64 14)) /\ WroteOff w B D es F w' := by
 refine (base_forget_goes h he at_ torn a0 a1 a2 ht (.inr ⟨14, rfl⟩) (Post := fun W w' => WroteOff W B D es F w') (fun W hW torn => base_write_off (h.below hW) he (.inr at_) ⟨a2, a1⟩ torn)).mono ?_
 rintro e w' ⟨rfl, W, hW, ps', bd, wt⟩
 exact ⟨rfl, ps', bd, Went.below hW wt⟩
end Go.Proofs.YtbmkmfoaoganeaaGreatDoor
