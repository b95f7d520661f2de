/- Texts of one proof, one behind the other. -/
import Derived.Test.YtbloahcmakjchabGreatDoorDd

/- A base writes: walked. -/
namespace Go.Proofs.YtbloahcmakjchabGreatDoor
open Go.RowKit Go.Maps

/-- A base, and its disk. -/
structure BdW (w : World) (B D : Nat) (es : List (List Fop ⊕ Int)) (down : Bool) (ps : Nat → ByteArray) (cut : Bool) (left : Int) (F : Nat → Prop) : Prop where
  base : BaseW w B D es.length down (stE es).1 (stE es).2 F
  disk : DiskW w D ps cut left
  holds : Holds ps es
  apart : ¬ F D
  most : es.length ≤ 150

theorem BdW.below {w w' : World} {B D : Nat} {es : List (List Fop ⊕ Int)} {down : Bool} {ps : Nat → ByteArray} {cut : Bool} {left : Int} {F : Nat → Prop} (h : BdW w B D es down ps cut left F) (hb : Below w.heap.size w w') : BdW w' B D es down ps cut left F :=
  ⟨h.base.below hb, h.disk.below hb, h.holds, h.apart, h.most⟩

/-- What a write may touch. -/
def Went (w : World) (D : Nat) (F F' : Nat → Prop) (w' : World) : Prop := (∀ i, F' i → F i ∨ w.heap.size ≤ i) ∧ Keeps (fun i => F i ∨ i = D) w w'
theorem Went.below {a b c : World} {D : Nat} {F F' : Nat → Prop} (h : Below a.heap.size a b) (k : Went b D F F' c) : Went a D F F' c :=
  ⟨fun i hi => (k.1 i hi).imp id (fun q => Nat.le_trans h.size q), (Keeps.of_below _ h (Nat.le_refl _)).then k.2 (fun _ _ q => q)⟩

/-- A write that is there as a whole. -/
def WroteOn (w : World) (B D : Nat) (es : List (List Fop ⊕ Int)) (cut : Bool) (F : Nat → Prop) (w' : World) : Prop := ∃ F' ps' left', BdW w' B D es false ps' cut left' F' ∧ Went w D F F' w'
/-- A write that is not. -/
def WroteOff (w : World) (B D : Nat) (es : List (List Fop ⊕ Int)) (F : Nat → Prop) (w' : World) : Prop := ∃ ps', BdW w' B D es true ps' true 0 F ∧ Went w D F F w'

theorem body_len (st : List (List Fop) × Int) (x : List Fop ⊕ Int) (h : OkE st x) (h0 : 0 ≤ st.2) (h1 : st.1.length ≤ 150) : (bodyL x).length ≤ 1300 := by
  rcases x with l | n
  · have := wrs_length_le l h.2.2
    have := h.2.1
    show (opsL l).length ≤ 1300
    omega
  · obtain ⟨q1, q2⟩ := (h : st.2 ≤ n ∧ n ≤ st.1.length)
    have := itoa_short n (by omega) (by omega)
    show (forgetL ++ Lib.itoa n).length ≤ 1300
    rw [List.length_append]
    have : forgetL.length = 7 := rfl
    omega

theorem take_x {w : World} {B D : Nat} {used : Int} {down : Bool} {st : List (List Fop) × Int} {F : Nat → Prop} (h : BaseW w B D used down st.1 st.2 F) (x : List Fop ⊕ Int) (hx : OkE st x) (h1 : st.1.length < 150) (h0 : 0 ≤ st.2) (hk : st.2 ≤ st.1.length) (ht : Tab w) (hl : Libs w) :
    Calls Tryz.prog 56 #[.pointer (some ⟨B, 0, none⟩), .string ⟨(entL x).toArray⟩] w fun e w' => e = .returned (.bool true) ∧ Took w B D used down (stepE st x) F w' := by
  rcases x with l | n
  · exact take_commit h l hx h1 hk ht hl
  · obtain ⟨q1, q2⟩ := (hx : st.2 ≤ n ∧ n ≤ st.1.length)
    exact take_forget h n (by omega) q1 q2 (by omega)

set_option maxRecDepth 100000 in
set_option maxHeartbeats 4000000 in
theorem base_write_on {w : World} {B D : Nat} {es : List (List Fop ⊕ Int)} {ps : Nat → ByteArray} {cut : Bool} {left : Int} {F : Nat → Prop} (h : BdW w B D es false ps cut left F) (he : es.length < 150) (x : List Fop ⊕ Int) (hx : OkE (stE es) x) (torn : Int) (hp : cut = false ∨ left ≠ 0) {w0 : World} (hw : Below w0.heap.size w0 w) (hD0 : w0.heap.size ≤ D) (ht : Tab w0) (hl : Libs w0) :
    Calls Tryz.prog 60 #[.pointer (some ⟨B, 0, none⟩), .string ⟨(entL x).toArray⟩, .int .i64 torn] w fun e w' => e = .returned .nilIface ∧ WroteOn w B D (es ++ [x]) cut F w' := by
  obtain ⟨s1, s2, s3⟩ := stE_bounds h.holds.good
  have hbl := body_len _ x hx s2 (by omega)
  have hsz : (⟨(entL x).toArray⟩ : ByteArray).size < 50000 := by
    rw [bytes_len]
    unfold entL
    rw [List.length_append]
    simp
    omega
  have HW := hide (disk_write_on (h.disk.below (below_drew w)) es.length he ⟨(entL x).toArray⟩ hsz torn hp)
  have HH := hide h
  have HX := hide hx
  have HG : Hid (∀ W, Keeps (· = D) w W → Tab W ∧ Libs W) := fun W hk => by
    have hb := hw.trans (keeps_below hk (fun i e => by rw [e]; exact hD0) hw.size)
    exact ⟨ht.carry hb, hl.carry hb⟩
  obtain ⟨c0, c4, c5, f, fB, c1, c2⟩ := h.base.cells
  have f4 := f 4
  clear h hx f ht hl hp hw hD0
  generalize hst : (⟨(entL x).toArray⟩ : ByteArray) = st at HW ⊢
  go_enter Tryz.func60, Tryz.ntmps60
  go_wp2
  refine wp_region_tail (fun y => y = w.drew) 10 (by kernel_rfl) (by kernel_rfl) rfl (fun hHeld => ?_)
  refine wpAnyH_take (i := 0) (oi := ?to0_1) (v := ?tv0_1) ?th0_1 (by kernel_rfl) (by kernel_rfl) (by kernel_rfl) ?tq0_1 (Or.inl ⟨?tw0_1, ?ty0_1⟩) (by assumption) ?tr0_1
  case th0_1 => (simp only [List.getElem?_toArray, List.getElem?_cons_zero]; rfl)
  case tq0_1 => exact fun _ _ _ h => h
  case tw0_1 => rfl
  case ty0_1 => (intro w' hSw; (try dsimp only at hSw); go_simp <;> with_reducible rfl)
  try simp only [Act.put, List.setIfInBounds_toArray, List.set_cons_zero, List.set_cons_succ]
  refine wpAnyH_take (i := 1) (oi := ?to1_1) (v := ?tv1_1) ?th1_1 (by kernel_rfl) (by kernel_rfl) (by kernel_rfl) ?tq1_1 (Or.inl ⟨?tw1_1, ?ty1_1⟩) (by assumption) ?tr1_1
  case th1_1 => (simp only [List.getElem?_toArray, List.getElem?_cons_zero, List.getElem?_cons_succ]; rfl)
  case tq1_1 => exact fun _ _ _ h => h
  case tw1_1 => rfl
  case ty1_1 => (intro w' hSw; (try dsimp only at hSw); go_simp <;> with_reducible rfl)
  try simp only [Act.put, List.setIfInBounds_toArray, List.set_cons_zero, List.set_cons_succ]
  refine wpAnyH_take (i := 2) (oi := ?to2_1) (v := ?tv2_1) ?th2_1 (by kernel_rfl) (by kernel_rfl) (by kernel_rfl) ?tq2_1 (Or.inl ⟨?tw2_1, ?ty2_1⟩) (by assumption) ?tr2_1
  case th2_1 => (simp only [List.getElem?_toArray, List.getElem?_cons_zero, List.getElem?_cons_succ]; rfl)
  case tq2_1 => exact fun _ _ _ h => h
  case tw2_1 => rfl
  case ty2_1 => (intro w' hSw; (try dsimp only at hSw); go_simp <;> with_reducible rfl)
  try simp only [Act.put, List.setIfInBounds_toArray, List.set_cons_zero, List.set_cons_succ]
  refine wpAnyH_take (i := 3) (oi := ?to3_1) (v := ?tv3_1) ?th3_1 (by kernel_rfl) (by kernel_rfl) (by kernel_rfl) ?tq3_1 (Or.inl ⟨?tw3_1, ?ty3_1⟩) (by assumption) ?tr3_1
  case th3_1 => (simp only [List.getElem?_toArray, List.getElem?_cons_zero, List.getElem?_cons_succ]; rfl)
  case tq3_1 => exact fun _ _ _ h => h
  case tw3_1 => rfl
  case ty3_1 => (intro w' hSw; (try dsimp only at hSw); go_simp <;> with_reducible rfl)
  try simp only [Act.put, List.setIfInBounds_toArray, List.set_cons_zero, List.set_cons_succ]
  refine wpAnyH_take (i := 4) (oi := ?to4_1) (v := ?tv4_1) ?th4_1 (by kernel_rfl) (by kernel_rfl) (by kernel_rfl) ?tq4_1 (Or.inl ⟨?tw4_1, ?ty4_1⟩) (by assumption) ?tr4_1
  case th4_1 => (simp only [List.getElem?_toArray, List.getElem?_cons_zero, List.getElem?_cons_succ]; rfl)
  case tq4_1 => exact fun _ _ _ h => h
  case tw4_1 => rfl
  case ty4_1 => (intro w' hSw; (try dsimp only at hSw); go_simp <;> with_reducible rfl)
  try simp only [Act.put, List.setIfInBounds_toArray, List.set_cons_zero, List.set_cons_succ]
  refine wpAnyH_take (i := 5) (oi := ?to5_1) (v := ?tv5_1) ?th5_1 (by kernel_rfl) (by kernel_rfl) (by kernel_rfl) ?tq5_1 (Or.inl ⟨?tw5_1, ?ty5_1⟩) (by assumption) ?tr5_1
  case th5_1 => (simp only [List.getElem?_toArray, List.getElem?_cons_zero, List.getElem?_cons_succ]; rfl)
  case tq5_1 => exact fun _ _ _ h => h
  case tw5_1 => rfl
  case ty5_1 => (intro w' hSw; (try dsimp only at hSw); go_simp <;> with_reducible rfl)
  try simp only [Act.put, List.setIfInBounds_toArray, List.set_cons_zero, List.set_cons_succ]
  refine wpAnyH_take (i := 6) (oi := ?to6_1) (v := ?tv6_1) ?th6_1 (by kernel_rfl) (by kernel_rfl) (by kernel_rfl) ?tq6_1 (Or.inl ⟨?tw6_1, ?ty6_1⟩) (by assumption) ?tr6_1
  case th6_1 => (simp only [List.getElem?_toArray, List.getElem?_cons_zero, List.getElem?_cons_succ]; rfl)
  case tq6_1 => exact fun _ _ _ h => h
  case tw6_1 => rfl
  case ty6_1 => (intro w' hSw; (try dsimp only at hSw); go_simp <;> with_reducible rfl)
  try simp only [Act.put, List.setIfInBounds_toArray, List.set_cons_zero, List.set_cons_succ]
  refine wpAnyH_take (i := 7) (oi := ?to7_1) (v := ?tv7_1) ?th7_1 (by kernel_rfl) (by kernel_rfl) (by kernel_rfl) ?tq7_1 (Or.inl ⟨?tw7_1, ?ty7_1⟩) (by assumption) ?tr7_1
  case th7_1 => (simp only [List.getElem?_toArray, List.getElem?_cons_zero, List.getElem?_cons_succ]; rfl)
  case tq7_1 => exact fun _ _ _ h => h
  case tw7_1 => rfl
  case ty7_1 => (intro w' hSw; (try dsimp only at hSw); go_simp <;> with_reducible rfl)
  try simp only [Act.put, List.setIfInBounds_toArray, List.set_cons_zero, List.set_cons_succ]
  refine wpAnyH_take (i := 8) (oi := ?to8_1) (v := ?tv8_1) ?th8_1 (by kernel_rfl) (by kernel_rfl) (by kernel_rfl) ?tq8_1 (Or.inl ⟨?tw8_1, ?ty8_1⟩) (by assumption) ?tr8_1
  case th8_1 => (simp only [List.getElem?_toArray, List.getElem?_cons_zero, List.getElem?_cons_succ]; rfl)
  case tq8_1 => exact fun _ _ _ h => h
  case tw8_1 => rfl
  case ty8_1 => (intro w' hSw; (try dsimp only at hSw); go_simp <;> with_reducible rfl)
  try simp only [Act.put, List.setIfInBounds_toArray, List.set_cons_zero, List.set_cons_succ]
  refine wpAnyH_take (i := 9) (oi := ?to9_1) (v := ?tv9_1) ?th9_1 (by kernel_rfl) (by kernel_rfl) (by kernel_rfl) ?tq9_1 (Or.inl ⟨?tw9_1, ?ty9_1⟩) (by assumption) ?tr9_1
  case th9_1 => (simp only [List.getElem?_toArray, List.getElem?_cons_zero, List.getElem?_cons_succ]; rfl)
  case tq9_1 => exact fun _ _ _ h => h
  case tw9_1 => rfl
  case ty9_1 => (intro w' hSw; (try dsimp only at hSw); go_simp <;> with_reducible rfl)
  try simp only [Act.put, List.setIfInBounds_toArray, List.set_cons_zero, List.set_cons_succ]
  refine wpAnyH_done (by kernel_rfl) ?_ _
  show wpList _ _ _ _ _ _
  clear hHeld
  go_wp2_with fail
  refine (unhide HW).mono ?_
  rintro e W1 ⟨rfl, left', hD1, k1⟩
  have HK1 := hide ((Keeps.of_below _ (below_drew w) (Nat.le_refl _)).trans k1)
  have HD1 := hide hD1
  have hB1 := (unhide HH).base.keeps (unhide HK1) (fun i hi e => (unhide HH).apart (by rw [← e]; exact hi))
  obtain ⟨t1, t2⟩ := unhide HG W1 (unhide HK1)
  have HTk := hide (take_x hB1 x (unhide HX) (by omega) s2 s3 t1 t2)
  rw [hst] at HTk
  clear HW k1 hD1 t1 t2 hB1 HG c0 c4 c5 fB c1 c2 f4
  go_wp2_with fail
  refine (unhide HTk).mono ?_
  rintro e W2 ⟨rfl, F2, p2, g2⟩
  obtain ⟨_, d4, _, ff, hFB, _, _⟩ := BaseW.cells p2
  have f4' := ff 4
  have hks := keeps_set W2 B 4 (.int .i64 ((es.length : Int) + 1))
  have hDB : D ≠ B := fun e => (unhide HH).apart (by rw [e]; exact (unhide HH).base.cells.2.2.2.2.1)
  have hD2 := ((unhide HD1).keeps g2.2 (unhide HH).apart).keeps hks hDB
  have HF : Hid (WroteOn w B D (es ++ [x]) cut F (W2.setCell ⟨B, 4, none⟩ (.int .i64 ((es.length : Int) + 1)))) := by
    refine ⟨F2, _, left', ⟨?_, hD2, (unhide HH).holds.wrote (unhide HX) (by rw [← hst]), fun q => ?_, by rw [List.length_append, List.length_singleton]; omega⟩, fun i hi => ?_, ?_⟩
    · rw [stE_snoc, List.length_append, List.length_singleton, Int.natCast_add, Int.natCast_one]
      exact BaseW.setUsed p2 _
    · rcases g2.1 D q with r | r
      · exact (unhide HH).apart r
      · have := (unhide HD1).lt
        omega
    · rcases g2.1 i hi with r | r
      · exact .inl r
      · exact .inr (Nat.le_trans (unhide HK1).size r)
    · refine (((unhide HK1).mono (fun i _ e => .inr e)).then g2.2 (fun i _ q => .inl q)).then hks (fun i _ e => .inl (by rw [e]; exact (unhide HH).base.cells.2.2.2.2.1))
  clear p2 g2 ff hks hD2 hDB HTk HK1 HD1 HX
  go_wp2
  go_ret
  exact ⟨rfl, unhide HF⟩

set_option maxRecDepth 100000 in
set_option maxHeartbeats 4000000 in
theorem base_write_off {w : World} {B D : Nat} {es : List (List Fop ⊕ Int)} {ps : Nat → ByteArray} {F : Nat → Prop} (h : BdW w B D es false ps true 0 F) (he : es.length < 150) (x : List Fop ⊕ Int) (hx : OkE (stE es) x) (torn : Int) :
    Calls Tryz.prog 60 #[.pointer (some ⟨B, 0, none⟩), .string ⟨(entL x).toArray⟩, .int .i64 torn] w fun e w' => e = .returned (.iface 51 (.int .i64 14)) ∧ WroteOff w B D es F w' := by
  obtain ⟨s1, s2, s3⟩ := stE_bounds h.holds.good
  have hbl := body_len _ x hx s2 (by omega)
  have HW := hide (disk_write_off (h.disk.below (below_drew w)) es.length he (bodyL x) (by omega) (body_mem _ x hx) torn)
  have HH := hide h
  obtain ⟨c0, c4, c5, f, fB, c1, c2⟩ := h.base.cells
  clear h hx f
  unfold entL
  generalize hst : (⟨(bodyL x ++ [10]).toArray⟩ : ByteArray) = st at HW ⊢
  go_enter Tryz.func60, Tryz.ntmps60
  go_wp2
  refine wp_region_tail (fun y => y = w.drew) 10 (by kernel_rfl) (by kernel_rfl) rfl (fun hHeld => ?_)
  refine wpAnyH_take (i := 0) (oi := ?to0_2) (v := ?tv0_2) ?th0_2 (by kernel_rfl) (by kernel_rfl) (by kernel_rfl) ?tq0_2 (Or.inl ⟨?tw0_2, ?ty0_2⟩) (by assumption) ?tr0_2
  case th0_2 => (simp only [List.getElem?_toArray, List.getElem?_cons_zero]; rfl)
  case tq0_2 => exact fun _ _ _ h => h
  case tw0_2 => rfl
  case ty0_2 => (intro w' hSw; (try dsimp only at hSw); go_simp <;> with_reducible rfl)
  try simp only [Act.put, List.setIfInBounds_toArray, List.set_cons_zero, List.set_cons_succ]
  refine wpAnyH_take (i := 1) (oi := ?to1_2) (v := ?tv1_2) ?th1_2 (by kernel_rfl) (by kernel_rfl) (by kernel_rfl) ?tq1_2 (Or.inl ⟨?tw1_2, ?ty1_2⟩) (by assumption) ?tr1_2
  case th1_2 => (simp only [List.getElem?_toArray, List.getElem?_cons_zero, List.getElem?_cons_succ]; rfl)
  case tq1_2 => exact fun _ _ _ h => h
  case tw1_2 => rfl
  case ty1_2 => (intro w' hSw; (try dsimp only at hSw); go_simp <;> with_reducible rfl)
  try simp only [Act.put, List.setIfInBounds_toArray, List.set_cons_zero, List.set_cons_succ]
  refine wpAnyH_take (i := 2) (oi := ?to2_2) (v := ?tv2_2) ?th2_2 (by kernel_rfl) (by kernel_rfl) (by kernel_rfl) ?tq2_2 (Or.inl ⟨?tw2_2, ?ty2_2⟩) (by assumption) ?tr2_2
  case th2_2 => (simp only [List.getElem?_toArray, List.getElem?_cons_zero, List.getElem?_cons_succ]; rfl)
  case tq2_2 => exact fun _ _ _ h => h
  case tw2_2 => rfl
  case ty2_2 => (intro w' hSw; (try dsimp only at hSw); go_simp <;> with_reducible rfl)
  try simp only [Act.put, List.setIfInBounds_toArray, List.set_cons_zero, List.set_cons_succ]
  refine wpAnyH_take (i := 3) (oi := ?to3_2) (v := ?tv3_2) ?th3_2 (by kernel_rfl) (by kernel_rfl) (by kernel_rfl) ?tq3_2 (Or.inl ⟨?tw3_2, ?ty3_2⟩) (by assumption) ?tr3_2
  case th3_2 => (simp only [List.getElem?_toArray, List.getElem?_cons_zero, List.getElem?_cons_succ]; rfl)
  case tq3_2 => exact fun _ _ _ h => h
  case tw3_2 => rfl
  case ty3_2 => (intro w' hSw; (try dsimp only at hSw); go_simp <;> with_reducible rfl)
  try simp only [Act.put, List.setIfInBounds_toArray, List.set_cons_zero, List.set_cons_succ]
  refine wpAnyH_take (i := 4) (oi := ?to4_2) (v := ?tv4_2) ?th4_2 (by kernel_rfl) (by kernel_rfl) (by kernel_rfl) ?tq4_2 (Or.inl ⟨?tw4_2, ?ty4_2⟩) (by assumption) ?tr4_2
  case th4_2 => (simp only [List.getElem?_toArray, List.getElem?_cons_zero, List.getElem?_cons_succ]; rfl)
  case tq4_2 => exact fun _ _ _ h => h
  case tw4_2 => rfl
  case ty4_2 => (intro w' hSw; (try dsimp only at hSw); go_simp <;> with_reducible rfl)
  try simp only [Act.put, List.setIfInBounds_toArray, List.set_cons_zero, List.set_cons_succ]
  refine wpAnyH_take (i := 5) (oi := ?to5_2) (v := ?tv5_2) ?th5_2 (by kernel_rfl) (by kernel_rfl) (by kernel_rfl) ?tq5_2 (Or.inl ⟨?tw5_2, ?ty5_2⟩) (by assumption) ?tr5_2
  case th5_2 => (simp only [List.getElem?_toArray, List.getElem?_cons_zero, List.getElem?_cons_succ]; rfl)
  case tq5_2 => exact fun _ _ _ h => h
  case tw5_2 => rfl
  case ty5_2 => (intro w' hSw; (try dsimp only at hSw); go_simp <;> with_reducible rfl)
  try simp only [Act.put, List.setIfInBounds_toArray, List.set_cons_zero, List.set_cons_succ]
  refine wpAnyH_take (i := 6) (oi := ?to6_2) (v := ?tv6_2) ?th6_2 (by kernel_rfl) (by kernel_rfl) (by kernel_rfl) ?tq6_2 (Or.inl ⟨?tw6_2, ?ty6_2⟩) (by assumption) ?tr6_2
  case th6_2 => (simp only [List.getElem?_toArray, List.getElem?_cons_zero, List.getElem?_cons_succ]; rfl)
  case tq6_2 => exact fun _ _ _ h => h
  case tw6_2 => rfl
  case ty6_2 => (intro w' hSw; (try dsimp only at hSw); go_simp <;> with_reducible rfl)
  try simp only [Act.put, List.setIfInBounds_toArray, List.set_cons_zero, List.set_cons_succ]
  refine wpAnyH_take (i := 7) (oi := ?to7_2) (v := ?tv7_2) ?th7_2 (by kernel_rfl) (by kernel_rfl) (by kernel_rfl) ?tq7_2 (Or.inl ⟨?tw7_2, ?ty7_2⟩) (by assumption) ?tr7_2
  case th7_2 => (simp only [List.getElem?_toArray, List.getElem?_cons_zero, List.getElem?_cons_succ]; rfl)
  case tq7_2 => exact fun _ _ _ h => h
  case tw7_2 => rfl
  case ty7_2 => (intro w' hSw; (try dsimp only at hSw); go_simp <;> with_reducible rfl)
  try simp only [Act.put, List.setIfInBounds_toArray, List.set_cons_zero, List.set_cons_succ]
  refine wpAnyH_take (i := 8) (oi := ?to8_2) (v := ?tv8_2) ?th8_2 (by kernel_rfl) (by kernel_rfl) (by kernel_rfl) ?tq8_2 (Or.inl ⟨?tw8_2, ?ty8_2⟩) (by assumption) ?tr8_2
  case th8_2 => (simp only [List.getElem?_toArray, List.getElem?_cons_zero, List.getElem?_cons_succ]; rfl)
  case tq8_2 => exact fun _ _ _ h => h
  case tw8_2 => rfl
  case ty8_2 => (intro w' hSw; (try dsimp only at hSw); go_simp <;> with_reducible rfl)
  try simp only [Act.put, List.setIfInBounds_toArray, List.set_cons_zero, List.set_cons_succ]
  refine wpAnyH_take (i := 9) (oi := ?to9_2) (v := ?tv9_2) ?th9_2 (by kernel_rfl) (by kernel_rfl) (by kernel_rfl) ?tq9_2 (Or.inl ⟨?tw9_2, ?ty9_2⟩) (by assumption) ?tr9_2
  case th9_2 => (simp only [List.getElem?_toArray, List.getElem?_cons_zero, List.getElem?_cons_succ]; rfl)
  case tq9_2 => exact fun _ _ _ h => h
  case tw9_2 => rfl
  case ty9_2 => (intro w' hSw; (try dsimp only at hSw); go_simp <;> with_reducible rfl)
  try simp only [Act.put, List.setIfInBounds_toArray, List.set_cons_zero, List.set_cons_succ]
  refine wpAnyH_done (by kernel_rfl) ?_ _
  show wpList _ _ _ _ _ _
  clear hHeld
  go_wp2_with fail
  refine (unhide HW).mono ?_
  rintro e W1 ⟨rfl, ps', hD1, k1, hps⟩
  have hK1 := (Keeps.of_below _ (below_drew w) (Nat.le_refl _)).trans k1
  have hB1 := (unhide HH).base.keeps hK1 (fun i hi e => (unhide HH).apart (by rw [← e]; exact hi))
  obtain ⟨_, _, d5, ff, hFB, _, _⟩ := BaseW.cells hB1
  have f5 := ff 5
  have hks := keeps_set W1 B 5 (.bool true)
  have hDB : D ≠ B := fun e => (unhide HH).apart (by rw [e]; exact hFB)
  have HF : Hid (WroteOff w B D es F (W1.setCell ⟨B, 5, none⟩ (.bool true))) := by
    refine ⟨ps', ⟨BaseW.setDown hB1 true, hD1.keeps hks hDB, ?_, (unhide HH).apart, (unhide HH).most⟩, fun i hi => .inl hi, (hK1.mono (fun i _ e => .inr e)).then hks (fun i _ e => .inl (by rw [e]; exact hFB))⟩
    rcases hps with rfl | ⟨t, rfl, ht⟩
    · exact (unhide HH).holds
    · exact (unhide HH).holds.torn ht
  clear HW k1 hD1 hps hK1 hB1 ff hks hDB hFB c0 c4 c5 fB c1 c2
  go_wp2
  go_ret
  exact ⟨rfl, unhide HF⟩

end Go.Proofs.YtbloahcmakjchabGreatDoor

/- What stands in the way of a write; Commit; what a base tells of itself: walked. -/
namespace Go.Proofs.YtbloahcmakjchabGreatDoor
open Go.RowKit Go.Maps

set_option maxRecDepth 100000 in
set_option maxHeartbeats 2000000 in
theorem base_late {w : World} {B D : Nat} {es : List (List Fop ⊕ Int)} {down : Bool} {ps : Nat → ByteArray} {cut : Bool} {left : Int} {F : Nat → Prop} (h : BdW w B D es down ps cut left F) :
    Calls Tryz.prog 127 #[.pointer (some ⟨B, 0, none⟩)] w fun e w' => e = .returned (.bool false) ∧ Below w.heap.size w w' := by
  obtain ⟨c0, c4, c5, f, fB, c1, c2⟩ := h.base.cells
  have HH := hide h
  clear h f
  have hj0 : (0 : Int) ≤ (es.length : Int) := by omega
  by_cases he : es.length < 150
  · have he' : (es.length : Int) < 150 := by omega
    have hp := (unhide HH).disk.p es.length he
    have HS := hide (has_suffix_no (ps es.length) w.drew (by have := (unhide HH).disk.sz es.length; omega) ((unhide HH).holds.none es.length (Nat.le_refl _)))
    generalize ps es.length = sj at hp HS
    go_enter Tryz.func127, Tryz.ntmps127
    go_wp2
    refine wp_region_tail (fun y => y = w.drew) 18 (by kernel_rfl) (by kernel_rfl) rfl (fun hHeld => ?_)
    refine wpAnyH_take (i := 0) (oi := ?to0_1) (v := ?tv0_1) ?th0_1 (by kernel_rfl) (by kernel_rfl) (by kernel_rfl) ?tq0_1 (Or.inl ⟨?tw0_1, ?ty0_1⟩) (by assumption) ?tr0_1
    case th0_1 => (simp only [List.getElem?_toArray, List.getElem?_cons_zero]; rfl)
    case tq0_1 => exact fun _ _ _ h => h
    case tw0_1 => rfl
    case ty0_1 => (intro w' hSw; (try dsimp only at hSw); go_simp <;> with_reducible rfl)
    try simp only [Act.put, List.setIfInBounds_toArray, List.set_cons_zero, List.set_cons_succ]
    refine wpAnyH_take (i := 1) (oi := ?to1_1) (v := ?tv1_1) ?th1_1 (by kernel_rfl) (by kernel_rfl) (by kernel_rfl) ?tq1_1 (Or.inl ⟨?tw1_1, ?ty1_1⟩) (by assumption) ?tr1_1
    case th1_1 => (simp only [List.getElem?_toArray, List.getElem?_cons_zero, List.getElem?_cons_succ]; rfl)
    case tq1_1 => exact fun _ _ _ h => h
    case tw1_1 => rfl
    case ty1_1 => (intro w' hSw; (try dsimp only at hSw); go_simp <;> with_reducible rfl)
    try simp only [Act.put, List.setIfInBounds_toArray, List.set_cons_zero, List.set_cons_succ]
    refine wpAnyH_take (i := 2) (oi := ?to2_1) (v := ?tv2_1) ?th2_1 (by kernel_rfl) (by kernel_rfl) (by kernel_rfl) ?tq2_1 (Or.inl ⟨?tw2_1, ?ty2_1⟩) (by assumption) ?tr2_1
    case th2_1 => (simp only [List.getElem?_toArray, List.getElem?_cons_zero, List.getElem?_cons_succ]; rfl)
    case tq2_1 => exact fun _ _ _ h => h
    case tw2_1 => rfl
    case ty2_1 => (intro w' hSw; (try dsimp only at hSw); go_simp <;> with_reducible rfl)
    try simp only [Act.put, List.setIfInBounds_toArray, List.set_cons_zero, List.set_cons_succ]
    refine wpAnyH_take (i := 3) (oi := ?to3_1) (v := ?tv3_1) ?th3_1 (by kernel_rfl) (by kernel_rfl) (by kernel_rfl) ?tq3_1 (Or.inl ⟨?tw3_1, ?ty3_1⟩) (by assumption) ?tr3_1
    case th3_1 => (simp only [List.getElem?_toArray, List.getElem?_cons_zero, List.getElem?_cons_succ]; rfl)
    case tq3_1 => exact fun _ _ _ h => h
    case tw3_1 => rfl
    case ty3_1 => (intro w' hSw; (try dsimp only at hSw); go_simp <;> with_reducible rfl)
    try simp only [Act.put, List.setIfInBounds_toArray, List.set_cons_zero, List.set_cons_succ]
    refine wpAnyH_take (i := 4) (oi := ?to4_1) (v := ?tv4_1) ?th4_1 (by kernel_rfl) (by kernel_rfl) (by kernel_rfl) ?tq4_1 (Or.inl ⟨?tw4_1, ?ty4_1⟩) (by assumption) ?tr4_1
    case th4_1 => (simp only [List.getElem?_toArray, List.getElem?_cons_zero, List.getElem?_cons_succ]; rfl)
    case tq4_1 => exact fun _ _ _ h => h
    case tw4_1 => rfl
    case ty4_1 => (intro w' hSw; (try dsimp only at hSw); go_simp <;> with_reducible rfl)
    try simp only [Act.put, List.setIfInBounds_toArray, List.set_cons_zero, List.set_cons_succ]
    refine wpAnyH_take (i := 5) (oi := ?to5_1) (v := ?tv5_1) ?th5_1 (by kernel_rfl) (by kernel_rfl) (by kernel_rfl) ?tq5_1 (Or.inl ⟨?tw5_1, ?ty5_1⟩) (by assumption) ?tr5_1
    case th5_1 => (simp only [List.getElem?_toArray, List.getElem?_cons_zero, List.getElem?_cons_succ]; rfl)
    case tq5_1 => exact fun _ _ _ h => h
    case tw5_1 => rfl
    case ty5_1 => (intro w' hSw; (try dsimp only at hSw); go_simp <;> with_reducible rfl)
    try simp only [Act.put, List.setIfInBounds_toArray, List.set_cons_zero, List.set_cons_succ]
    refine wpAnyH_take (i := 6) (oi := ?to6_1) (v := ?tv6_1) ?th6_1 (by kernel_rfl) (by kernel_rfl) (by kernel_rfl) ?tq6_1 (Or.inl ⟨?tw6_1, ?ty6_1⟩) (by assumption) ?tr6_1
    case th6_1 => (simp only [List.getElem?_toArray, List.getElem?_cons_zero, List.getElem?_cons_succ]; rfl)
    case tq6_1 => exact fun _ _ _ h => h
    case tw6_1 => rfl
    case ty6_1 => (intro w' hSw; (try dsimp only at hSw); go_simp <;> with_reducible rfl)
    try simp only [Act.put, List.setIfInBounds_toArray, List.set_cons_zero, List.set_cons_succ]
    refine wpAnyH_take (i := 7) (oi := ?to7_1) (v := ?tv7_1) ?th7_1 (by kernel_rfl) (by kernel_rfl) (by kernel_rfl) ?tq7_1 (Or.inl ⟨?tw7_1, ?ty7_1⟩) (by assumption) ?tr7_1
    case th7_1 => (simp only [List.getElem?_toArray, List.getElem?_cons_zero, List.getElem?_cons_succ]; rfl)
    case tq7_1 => exact fun _ _ _ h => h
    case tw7_1 => rfl
    case ty7_1 => (intro w' hSw; (try dsimp only at hSw); go_simp <;> with_reducible rfl)
    try simp only [Act.put, List.setIfInBounds_toArray, List.set_cons_zero, List.set_cons_succ]
    refine wpAnyH_take (i := 8) (oi := ?to8_1) (v := ?tv8_1) ?th8_1 (by kernel_rfl) (by kernel_rfl) (by kernel_rfl) ?tq8_1 (Or.inl ⟨?tw8_1, ?ty8_1⟩) (by assumption) ?tr8_1
    case th8_1 => (simp only [List.getElem?_toArray, List.getElem?_cons_zero, List.getElem?_cons_succ]; rfl)
    case tq8_1 => exact fun _ _ _ h => h
    case tw8_1 => rfl
    case ty8_1 => (intro w' hSw; (try dsimp only at hSw); go_simp <;> with_reducible rfl)
    try simp only [Act.put, List.setIfInBounds_toArray, List.set_cons_zero, List.set_cons_succ]
    refine wpAnyH_take (i := 9) (oi := ?to9_1) (v := ?tv9_1) ?th9_1 (by kernel_rfl) (by kernel_rfl) (by kernel_rfl) ?tq9_1 (Or.inl ⟨?tw9_1, ?ty9_1⟩) (by assumption) ?tr9_1
    case th9_1 => (simp only [List.getElem?_toArray, List.getElem?_cons_zero, List.getElem?_cons_succ]; rfl)
    case tq9_1 => exact fun _ _ _ h => h
    case tw9_1 => rfl
    case ty9_1 => (intro w' hSw; (try dsimp only at hSw); go_simp <;> with_reducible rfl)
    try simp only [Act.put, List.setIfInBounds_toArray, List.set_cons_zero, List.set_cons_succ]
    refine wpAnyH_take (i := 10) (oi := ?to10_1) (v := ?tv10_1) ?th10_1 (by kernel_rfl) (by kernel_rfl) (by kernel_rfl) ?tq10_1 (Or.inl ⟨?tw10_1, ?ty10_1⟩) (by assumption) ?tr10_1
    case th10_1 => (simp only [List.getElem?_toArray, List.getElem?_cons_zero, List.getElem?_cons_succ]; rfl)
    case tq10_1 => exact fun _ _ _ h => h
    case tw10_1 => rfl
    case ty10_1 => (intro w' hSw; (try dsimp only at hSw); go_simp <;> with_reducible rfl)
    try simp only [Act.put, List.setIfInBounds_toArray, List.set_cons_zero, List.set_cons_succ]
    refine wpAnyH_take (i := 11) (oi := ?to11_1) (v := ?tv11_1) ?th11_1 (by kernel_rfl) (by kernel_rfl) (by kernel_rfl) ?tq11_1 (Or.inl ⟨?tw11_1, ?ty11_1⟩) (by assumption) ?tr11_1
    case th11_1 => (simp only [List.getElem?_toArray, List.getElem?_cons_zero, List.getElem?_cons_succ]; rfl)
    case tq11_1 => exact fun _ _ _ h => h
    case tw11_1 => rfl
    case ty11_1 => (intro w' hSw; (try dsimp only at hSw); go_simp <;> with_reducible rfl)
    try simp only [Act.put, List.setIfInBounds_toArray, List.set_cons_zero, List.set_cons_succ]
    refine wpAnyH_take (i := 12) (oi := ?to12_1) (v := ?tv12_1) ?th12_1 (by kernel_rfl) (by kernel_rfl) (by kernel_rfl) ?tq12_1 (Or.inl ⟨?tw12_1, ?ty12_1⟩) (by assumption) ?tr12_1
    case th12_1 => (simp only [List.getElem?_toArray, List.getElem?_cons_zero, List.getElem?_cons_succ]; rfl)
    case tq12_1 => exact fun _ _ _ h => h
    case tw12_1 => rfl
    case ty12_1 => (intro w' hSw; (try dsimp only at hSw); go_simp <;> with_reducible rfl)
    try simp only [Act.put, List.setIfInBounds_toArray, List.set_cons_zero, List.set_cons_succ]
    refine wpAnyH_take (i := 13) (oi := ?to13_1) (v := ?tv13_1) ?th13_1 (by kernel_rfl) (by kernel_rfl) (by kernel_rfl) ?tq13_1 (Or.inl ⟨?tw13_1, ?ty13_1⟩) (by assumption) ?tr13_1
    case th13_1 => (simp only [List.getElem?_toArray, List.getElem?_cons_zero, List.getElem?_cons_succ]; rfl)
    case tq13_1 => exact fun _ _ _ h => h
    case tw13_1 => rfl
    case ty13_1 => (intro w' hSw; (try dsimp only at hSw); go_simp <;> with_reducible rfl)
    try simp only [Act.put, List.setIfInBounds_toArray, List.set_cons_zero, List.set_cons_succ]
    refine wpAnyH_take (i := 14) (oi := ?to14_1) (v := ?tv14_1) ?th14_1 (by kernel_rfl) (by kernel_rfl) (by kernel_rfl) ?tq14_1 (Or.inl ⟨?tw14_1, ?ty14_1⟩) (by assumption) ?tr14_1
    case th14_1 => (simp only [List.getElem?_toArray, List.getElem?_cons_zero, List.getElem?_cons_succ]; rfl)
    case tq14_1 => exact fun _ _ _ h => h
    case tw14_1 => rfl
    case ty14_1 => (intro w' hSw; (try dsimp only at hSw); go_simp <;> with_reducible rfl)
    try simp only [Act.put, List.setIfInBounds_toArray, List.set_cons_zero, List.set_cons_succ]
    refine wpAnyH_take (i := 15) (oi := ?to15_1) (v := ?tv15_1) ?th15_1 (by kernel_rfl) (by kernel_rfl) (by kernel_rfl) ?tq15_1 (Or.inl ⟨?tw15_1, ?ty15_1⟩) (by assumption) ?tr15_1
    case th15_1 => (simp only [List.getElem?_toArray, List.getElem?_cons_zero, List.getElem?_cons_succ]; rfl)
    case tq15_1 => exact fun _ _ _ h => h
    case tw15_1 => rfl
    case ty15_1 => (intro w' hSw; (try dsimp only at hSw); go_simp <;> with_reducible rfl)
    try simp only [Act.put, List.setIfInBounds_toArray, List.set_cons_zero, List.set_cons_succ]
    refine wpAnyH_take (i := 16) (oi := ?to16_1) (v := ?tv16_1) ?th16_1 (by kernel_rfl) (by kernel_rfl) (by kernel_rfl) ?tq16_1 (Or.inl ⟨?tw16_1, ?ty16_1⟩) (by assumption) ?tr16_1
    case th16_1 => (simp only [List.getElem?_toArray, List.getElem?_cons_zero, List.getElem?_cons_succ]; rfl)
    case tq16_1 => exact fun _ _ _ h => h
    case tw16_1 => rfl
    case ty16_1 => (intro w' hSw; (try dsimp only at hSw); go_simp <;> with_reducible rfl)
    try simp only [Act.put, List.setIfInBounds_toArray, List.set_cons_zero, List.set_cons_succ]
    refine wpAnyH_take (i := 17) (oi := ?to17_1) (v := ?tv17_1) ?th17_1 (by kernel_rfl) (by kernel_rfl) (by kernel_rfl) ?tq17_1 (Or.inl ⟨?tw17_1, ?ty17_1⟩) (by assumption) ?tr17_1
    case th17_1 => (simp only [List.getElem?_toArray, List.getElem?_cons_zero, List.getElem?_cons_succ]; rfl)
    case tq17_1 => exact fun _ _ _ h => h
    case tw17_1 => rfl
    case ty17_1 => (intro w' hSw; (try dsimp only at hSw); go_simp <;> with_reducible rfl)
    try simp only [Act.put, List.setIfInBounds_toArray, List.set_cons_zero, List.set_cons_succ]
    refine wpAnyH_done (by kernel_rfl) ?_ _
    show wpList _ _ _ _ _ _
    clear hHeld
    go_wp2_with fail
    refine (unhide HS).mono ?_
    rintro e W2 ⟨rfl, hW2⟩
    obtain rfl : W2 = w.drew := hW2
    clear HS
    go_wp2
    go_ret
    exact ⟨rfl, below_drew w⟩
  · have h150 : (es.length : Int) = 150 := by have := (unhide HH).most; omega
    rw [h150] at c4
    clear h150 he hj0 HH
    go_enter Tryz.func127, Tryz.ntmps127
    go_wp2
    go_quiet (fail)
    go_wp2
    go_ret
    exact ⟨rfl, rfl, rfl, rfl, Nat.le_refl _, fun _ _ => rfl⟩

set_option maxRecDepth 100000 in
set_option maxHeartbeats 1000000 in
theorem base_ready_ok {w : World} {B D : Nat} {es : List (List Fop ⊕ Int)} {ps : Nat → ByteArray} {cut : Bool} {left : Int} {F : Nat → Prop} (h : BdW w B D es false ps cut left F) (he : es.length < 150) :
    Calls Tryz.prog 59 #[.pointer (some ⟨B, 0, none⟩)] w fun e w' => e = .returned .nilIface ∧ Below w.heap.size w w' := by
  have HL := hide (base_late h)
  have HH := hide h
  obtain ⟨c0, c4, c5, f, fB, c1, c2⟩ := h.base.cells
  have he' : ¬ (150 : Int) ≤ (es.length : Int) := by omega
  clear h f c4 c1 c2 fB
  go_enter Tryz.func59, Tryz.ntmps59
  go_wp2_with fail
  refine (unhide HL).mono ?_
  rintro e W1 ⟨rfl, b1⟩
  obtain ⟨_, d4, _, _, _, _, _⟩ := ((unhide HH).base.below b1).cells
  have HB := hide b1
  clear HL HH b1 c0 c5
  go_wp2
  go_ret
  exact ⟨rfl, unhide HB⟩

set_option maxHeartbeats 1000000 in
theorem base_ready_down {w : World} {B D : Nat} {es : List (List Fop ⊕ Int)} {ps : Nat → ByteArray} {cut : Bool} {left : Int} {F : Nat → Prop} (h : BdW w B D es true ps cut left F) :
    Calls Tryz.prog 59 #[.pointer (some ⟨B, 0, none⟩)] w fun e w' => e = .returned (.iface 51 (.int .i64 6)) ∧ Below w.heap.size w w' := by
  obtain ⟨c0, c4, c5, f, fB, c1, c2⟩ := h.base.cells
  clear h f c4 c1 c2 fB
  go_enter Tryz.func59, Tryz.ntmps59
  go_wp2
  go_ret
  exact ⟨rfl, Below.refl _ _⟩

set_option maxRecDepth 100000 in
set_option maxHeartbeats 1000000 in
theorem base_ready_full {w : World} {B D : Nat} {es : List (List Fop ⊕ Int)} {ps : Nat → ByteArray} {cut : Bool} {left : Int} {F : Nat → Prop} (h : BdW w B D es false ps cut left F) (he : es.length = 150) :
    Calls Tryz.prog 59 #[.pointer (some ⟨B, 0, none⟩)] w fun e w' => e = .returned (.iface 51 (.int .i64 4)) ∧ Below w.heap.size w w' := by
  have HL := hide (base_late h)
  have HH := hide h
  obtain ⟨c0, c4, c5, f, fB, c1, c2⟩ := h.base.cells
  clear h f c4 c1 c2 fB
  go_enter Tryz.func59, Tryz.ntmps59
  go_wp2_with fail
  refine (unhide HL).mono ?_
  rintro e W1 ⟨rfl, b1⟩
  obtain ⟨_, d4, _, _, _, _, _⟩ := ((unhide HH).base.below b1).cells
  have h150 : (es.length : Int) = 150 := by omega
  rw [h150] at d4
  have HB := hide b1
  clear HL HH b1 c0 c5 he h150
  go_wp2
  go_ret
  exact ⟨rfl, unhide HB⟩

theorem ent_text (x : List UInt8) : (⟨x.toArray⟩ : ByteArray) ++ ⟨#[10]⟩ = ⟨(x ++ [10]).toArray⟩ := by
  apply bytes_is
  simp

set_option maxRecDepth 100000 in
set_option maxHeartbeats 2000000 in
theorem base_Commit_on {w : World} {B D : Nat} {es : List (List Fop ⊕ Int)} {ps : Nat → ByteArray} {cut : Bool} {left : Int} {F : Nat → Prop} (h : BdW w B D es false ps cut left F) (he : es.length < 150) (l : List Fop) (v : Value) (hl : okL l) (hO : ReadsOps w v l) (hs : ∀ x, x ∈ l → Small x) (torn : Int) (hp : cut = false ∨ left ≠ 0) {w0 : World} (hw : Below w0.heap.size w0 w) (hD0 : w0.heap.size ≤ D) (ht : Tab w0) (hb : Libs w0) :
    Calls Tryz.prog 27 #[.pointer (some ⟨B, 0, none⟩), v, .int .i64 torn] w fun e w' => e = .returned .nilIface ∧ WroteOn w B D (es ++ [.inl l]) cut F w' := by
  have HR := hide (base_ready_ok h he)
  have HW := hide (fun W (hW : Below w.heap.size w W) => write_ok l v W hs (hO.carry hW) hl (ht.carry (hw.trans (hW.mono hw.size))))
  have HC := hide (fun W (hW : Below w.heap.size w W) => base_write_on (h.below hW) he (.inl l) hl torn hp (hw.trans (hW.mono hw.size)) hD0 ht hb)
  obtain ⟨ad, cap, hv, _⟩ := hO
  have hlen := wrs_length_le l hl.2.2
  have hl8 := hl.2.1
  have hent := ent_text (opsL l)
  have hsz : (⟨(opsL l).toArray⟩ : ByteArray).size + 1 ≤ 9223372036854775807 := by rw [bytes_len]; omega
  change Hid (∀ W, Below w.heap.size w W → Calls Tryz.prog 60 #[.pointer (some ⟨B, 0, none⟩), .string ⟨(opsL l ++ [10]).toArray⟩, .int .i64 torn] W fun e w' => e = .returned .nilIface ∧ WroteOn W B D (es ++ [.inl l]) cut F w') at HC
  rw [← hent] at HC
  clear h hs hw hD0 ht hb hp hl hent hlen hl8
  subst hv
  generalize (⟨(opsL l).toArray⟩ : ByteArray) = tx at HW HC hsz
  go_enter Tryz.func27, Tryz.ntmps27
  go_wp2_with fail
  refine (unhide HR).mono ?_
  rintro e W1 ⟨rfl, b1⟩
  have HB1 := hide b1
  have HW1 := hide (unhide HW W1 b1)
  clear HR HW b1
  go_wp2_with fail
  refine (unhide HW1).mono ?_
  rintro e W2 ⟨rfl, b2⟩
  have HB2 := hide ((unhide HB1).trans (b2.mono (unhide HB1).size))
  have HC2 := hide (unhide HC W2 (unhide HB2))
  clear HW1 b2 HC HB1
  go_wp2_with fail
  refine (unhide HC2).mono ?_
  rintro e W3 ⟨rfl, F', ps', left', bd, wt⟩
  have HF : Hid (WroteOn w B D (es ++ [.inl l]) cut F W3) := ⟨F', ps', left', bd, Went.below (unhide HB2) wt⟩
  clear HC2 bd wt
  go_wp2
  go_ret
  exact ⟨rfl, unhide HF⟩

set_option maxRecDepth 100000 in
set_option maxHeartbeats 2000000 in
theorem base_Commit_off {w : World} {B D : Nat} {es : List (List Fop ⊕ Int)} {ps : Nat → ByteArray} {F : Nat → Prop} (h : BdW w B D es false ps true 0 F) (he : es.length < 150) (l : List Fop) (v : Value) (hl : okL l) (hO : ReadsOps w v l) (hs : ∀ x, x ∈ l → Small x) (torn : Int) (ht : Tab w) :
    Calls Tryz.prog 27 #[.pointer (some ⟨B, 0, none⟩), v, .int .i64 torn] w fun e w' => e = .returned (.iface 51 (.int .i64 14)) ∧ WroteOff w B D es F w' := by
  have HR := hide (base_ready_ok h he)
  have HW := hide (fun W (hW : Below w.heap.size w W) => write_ok l v W hs (hO.carry hW) hl (ht.carry hW))
  have HC := hide (fun W (hW : Below w.heap.size w W) => base_write_off (h.below hW) he (.inl l) hl torn)
  obtain ⟨ad, cap, hv, _⟩ := hO
  have hlen := wrs_length_le l hl.2.2
  have hl8 := hl.2.1
  have hent := ent_text (opsL l)
  have hsz : (⟨(opsL l).toArray⟩ : ByteArray).size + 1 ≤ 9223372036854775807 := by rw [bytes_len]; omega
  have hent2 : (⟨(entL (.inl l)).toArray⟩ : ByteArray) = ⟨(opsL l).toArray⟩ ++ ⟨#[10]⟩ := hent.symm
  rw [hent2] at HC
  clear h hs ht hl hent hent2 hlen hl8
  subst hv
  generalize (⟨(opsL l).toArray⟩ : ByteArray) = tx at HW HC hsz
  go_enter Tryz.func27, Tryz.ntmps27
  go_wp2_with fail
  refine (unhide HR).mono ?_
  rintro e W1 ⟨rfl, b1⟩
  have HB1 := hide b1
  have HW1 := hide (unhide HW W1 b1)
  clear HR HW b1
  go_wp2_with fail
  refine (unhide HW1).mono ?_
  rintro e W2 ⟨rfl, b2⟩
  have HB2 := hide ((unhide HB1).trans (b2.mono (unhide HB1).size))
  have HC2 := hide (unhide HC W2 (unhide HB2))
  clear HW1 b2 HC HB1
  go_wp2_with fail
  refine (unhide HC2).mono ?_
  rintro e W3 ⟨rfl, ps', bd, wt⟩
  have HF : Hid (WroteOff w B D es F W3) := ⟨ps', bd, Went.below (unhide HB2) wt⟩
  clear HC2 bd wt
  go_wp2
  go_ret
  exact ⟨rfl, unhide HF⟩

set_option maxHeartbeats 400000 in
theorem base_Used {w : World} {B D : Nat} {used : Int} {down : Bool} {txs : List (List Fop)} {known : Int} {F : Nat → Prop} (h : BaseW w B D used down txs known F) :
    Calls Tryz.prog 33 #[.pointer (some ⟨B, 0, none⟩)] w fun e w' => e = .returned (.int .i64 used) ∧ w' = w := by
  obtain ⟨_, c4, _, _, _, _, _⟩ := h.cells
  clear h
  go_enter Tryz.func33, Tryz.ntmps33
  go_wp2
  go_ret
  exact ⟨rfl, rfl⟩

set_option maxHeartbeats 400000 in
theorem base_Down {w : World} {B D : Nat} {used : Int} {down : Bool} {txs : List (List Fop)} {known : Int} {F : Nat → Prop} (h : BaseW w B D used down txs known F) :
    Calls Tryz.prog 34 #[.pointer (some ⟨B, 0, none⟩)] w fun e w' => e = .returned (.bool down) ∧ w' = w := by
  obtain ⟨_, _, c5, _, _, _, _⟩ := h.cells
  clear h
  go_enter Tryz.func34, Tryz.ntmps34
  go_wp2
  go_ret
  exact ⟨rfl, rfl⟩

set_option maxHeartbeats 400000 in
theorem base_Past (w : World) (B : Nat) :
    Calls Tryz.prog 35 #[.pointer (some ⟨B, 0, none⟩)] w fun e w' => e = .returned (.pointer (some ⟨B, 1, none⟩)) ∧ w' = w := by
  go_enter Tryz.func35, Tryz.ntmps35
  go_wp2
  go_ret
  exact ⟨rfl, rfl⟩

end Go.Proofs.YtbloahcmakjchabGreatDoor
