/- Texts of one proof, one behind the other. -/
import Derived.Test.YtbmkmfoaoganeaaGreatDoorOa
import Derived.Test.YtbmkmfoaoganeaaGreatDoorNi
import Derived.Laws.IdiomRangeMap
import Derived.LoopN
set_option maxRecDepth 100000
set_option maxHeartbeats 16000000
namespace Go.Proofs.YtbmkmfoaoganeaaGreatDoor
open Go.RowKit Go.Maps
def LineR (w : World) (b m r n : Nat) (V : List Ver) (made : Int) (F : Nat -> Prop) (left : Lit -> Bool) (cnt : Nat) : Prop := ∃ D G, LineX w b m (openE V) V made D G F /\ w.ranges Tryz.prog 3 verElem m r n D left cnt
theorem LineR.keeps {w w' : World} {b m r n : Nat} {V : List Ver} {made : Int} {F H : Nat -> Prop} {left : Lit -> Bool} {cnt : Nat} (h : LineR w b m r n V made F left cnt) (hk : Keeps H w w') (hH : ∀ i, F i -> ¬ H i) (hr : ¬ H r) : LineR w' b m r n V made F left cnt := by
 obtain ⟨D, G, hX, hg⟩ := h
 exact ⟨D, G, hX.keeps hk hH, ranges_keeps hg hk (hH m hX.fm) hr⟩
theorem LineR.below {w w' : World} {b m r n : Nat} {V : List Ver} {made : Int} {F : Nat -> Prop} {left : Lit -> Bool} {cnt : Nat} (h : LineR w b m r n V made F left cnt) (hb : Below w.heap.size w w') : LineR w' b m r n V made F left cnt :=
 h.keeps (Keeps.of_below (fun _ => False) hb zr) (fun _ _ h => h) (fun h => h)
structure Fgt (w : World) (b m r n : Nat) (made now at_ : Int) (S : Int -> Int -> ByteArray) (F : Nat -> Prop) (V : List Ver) (F' : Nat -> Prop) (left : Lit -> Bool) (cnt : Nat) (y : World) : Prop where
 line : LineR y b m r n V made F' left cnt
 ok : LineOk V made now
 tells : Tells V at_ now S
 grew : Grew w F F' y
 nr : ¬ F' r
theorem line_forget {V : List Ver} {b : Nat} {made now at_ : Int} {S : Int -> Int -> ByteArray} {F : Nat -> Prop} {w : World} (h : LineW w b V made F) (ho : LineOk V made now) (ht : Tells V at_ now S) (ha : at_ <= 150) :
  Calls Tryz.prog 209 #[.pointer (some ⟨b, 0, none⟩), .int .i64 at_] w fun e w' => e = .returned (.tuple #[]) /\ ∃ V', LineOk V' made now /\ Tells V' at_ now S /\ LineTurned w b V' made F w' := by
 obtain ⟨m, D, G, hX⟩ := h
 have c0 := hX.c0
 have HX := zh hX
 have HO := zh ho
 have HT := zh ht
 clear hX ho ht
 go_enter Tryz.func209, Tryz.ntmps209
 go_wp2_with (first | (at_range; refine wpList_range_own _ rfl _ 199 rfl 3 207 keyedV Tryz.underlying199 verElem m V.length D rfl (uh HX).own ?_; intro w0 hrg0 hg0 hs0))
 go_frame
 have HS0 : Hid (Fgt w b m w.heap.size V.length made now at_ S F V F (Maps.has D) (Maps.size D) w0) := by
  have hb0 : Below w.heap.size w w0 := below_grown_none hg0
  exact ⟨⟨D, G, (uh HX).below hb0, hrg0⟩, uh HO, uh HT, Grew.of_below F hb0, fun q => Nat.lt_irrefl _ ((uh HX).lt _ q)⟩
 clear hrg0 hg0 hs0 HX HO HT c0
 go_loopw [4] (fun _ y => ∃ V' F' left cnt, Fgt w b m w.heap.size V.length made now at_ S F V' F' left cnt y) (fun _ y => y.rangeLeft m w.heap.size)
 case atStart => exact ⟨V, F, _, _, uh HS0⟩
 case round =>
  clear HS0
  obtain ⟨V', F', left, cnt, hI⟩ := hrel
  have HI := zh hI
  obtain ⟨D', G', hX', hrg⟩ := hI.line
  have HX' := zh hX'
  have HRg := zh hrg
  clear hI hX' hrg
  go_wp2_with (first | (at_next; refine wpList_next_ranges _ rfl _ rfl 3 keyedV verElem (Value.int .i64) verV (fun key kl hkey => by obtain ⟨x, rfl, _⟩ := Maps.keyOf_int_inv Tryz.underlying3 hkey; exact ⟨x, rfl⟩) verElem_inv m w.heap.size V.length D' left cnt rfl (uh HRg) ?done ?more))
  case done =>
   intro _ _
   have HF : Hid (∃ V', LineOk V' made now /\ Tells V' at_ now S /\ LineTurned w b V' made F wr) := ⟨V', (uh HI).ok, (uh HI).tells, F', ⟨_, _, _, uh HX'⟩, (uh HI).grew⟩
   clear HX' HRg HI
   go_wp2
   (try simp only [Exit.inBlock, Exit.then])
   refine bodyPost_end (results_none rfl _ _ _) rfl ?_
   exact ⟨rfl, uh HF⟩
  case more =>
   intro x c kl y ps w1 cnt1 hkey hlx hv hat hrg1 hlt hg1 hs1 hen
   obtain ⟨x', ex, rfl, hwx⟩ := Maps.keyOf_int_inv Tryz.underlying3 hkey
   cases ex
   obtain ⟨v, hvV, rfl, hc⟩ := (uh HX').keys.met hv hat
   rw [hc] at hen ⊢
   unfold verV at hen ⊢
   have k1 : Keeps (fun i => some i = some w.heap.size) wr w1 := keeps_grown hg1
   have HL1 : Hid (Fgt w b m w.heap.size V.length made now at_ S F V' F' (fun z => left z && !z.sameKey (.int .i64 v.n)) cnt1 w1) := by
    have q := uh HI
    refine ⟨⟨D', G', (uh HX').keeps k1 (fun i hi e => q.nr (by cases e; exact hi)), hrg1⟩, q.ok, q.tells, ⟨fun i hi => q.grew.1 i hi, q.grew.2.then k1 (fun i hi e => by cases e; omega)⟩, q.nr⟩
   have HB2 := zh (below_box w1 (.cells #[.int .i64 v.lo, .int .i64 v.hi, .string v.val, .int .i64 v.s0, .int .i64 v.s1] 207))
   have HM := zh hlt
   have HC := zh (uh HRg).left_eq
   clear hkey hlx hv hat hrg1 hlt hg1 hs1 hc k1 HX' HRg HI
   by_cases he : v.s1 <= at_
   ·obtain ⟨D1, G1, hX1, hg1⟩ := (uh HL1).line.below (uh HB2)
    have c1 := hX1.c0
    have HKd := zh (hX1.keys.drop (hX1.own.tidy keyedV) (uh HL1).ok.rising hvV)
    have HGn := zh (ents_gone (v := v) (fun u hu e => one_of (uh HL1).ok hu hvV e) (by omega))
    have HX1 := zh hX1
    have HR1 := zh hg1
    clear hX1 hg1
    go_wp2_with (first | (at_delete; refine wpList_delete_ranges _ rfl _ _ 199 3 rfl 207 keyedV Tryz.underlying199 verElem m w.heap.size V.length D1 _ cnt1 rfl (uh HR1) _ _ rfl (keyOf_int_mk Tryz.underlying3 hwx) ?_; intro W3 cnt3 rg3 le3 turn3))
    have HX3 := zh ((uh HX1).map_to turn3 rg3.owns (uh HKd))
    have HF3 : Hid (∃ V' F' left cnt, Fgt w b m w.heap.size V.length made now at_ S F V' F' left cnt W3) := by
     have q := uh HL1
     have x3 := (uh HX3).1
     rw [<- uh HGn] at x3
     exact ⟨dropV V' v.n, F', _, cnt3, ⟨_, _, x3, rg3⟩, drop_ok q.ok v.n, drop_tells q.ok q.tells hvV he, (q.grew.trans (Grew.of_below F' (uh HB2))).trans (uh HX3).2, q.nr⟩
    have HCn : Hid (W3.rangeLeft m w.heap.size < wr.rangeLeft m w.heap.size) := by
     have := uh HM
     show _ < _
     rw [rg3.left_eq, uh HC]
     omega
    go_roundw
    case rel => exact ⟨_, _, _, _, _, _, _, _, _, _, _, _, _, _, _, _, _, uh HF3, rfl⟩
    case measure => exact uh HCn
   ·have HF3 : Hid (∃ V' F' left cnt, Fgt w b m w.heap.size V.length made now at_ S F V' F' left cnt (w1.alloc (.cells #[.int .i64 v.lo, .int .i64 v.hi, .string v.val, .int .i64 v.s0, .int .i64 v.s1] 207))) := by
     have q := uh HL1
     exact ⟨V', F', _, _, q.line.below (uh HB2), q.ok, q.tells, q.grew.trans (Grew.of_below F' (uh HB2)), q.nr⟩
    have HCn : Hid ((w1.alloc (.cells #[.int .i64 v.lo, .int .i64 v.hi, .string v.val, .int .i64 v.s0, .int .i64 v.s1] 207)).rangeLeft m w.heap.size < wr.rangeLeft m w.heap.size) := by
     obtain ⟨_, _, _, r3⟩ := (uh HL1).line.below (uh HB2)
     have := uh HM
     show _ < _
     rw [r3.left_eq, uh HC]
     exact this
    clear HL1 HB2
    go_wp2
    go_roundw
    case rel => exact uh HF3
    case measure => exact uh HCn
theorem lits_int_inv {d : Nat} {x : Value} {ls : List Lit} (h : Tryz.prog.keyLits (d + 1) 3 [x] = some ls) : ∃ n, x = .int .i64 n /\ (Lit.int .i64 n).wf = true := by
 unfold Program.keyLits at h
 rw [Tryz.underlying3] at h
 cases x <;> simp at h
 obtain ⟨⟨rfl, hw⟩, _⟩ := h
 exact ⟨_, rfl, hw⟩
theorem lits_string_inv {d : Nat} {x : Value} {ls : List Lit} (h : Tryz.prog.keyLits (d + 1) 9 [x] = some ls) : ∃ s, x = .string s /\ s.size <= maxLen := by
 unfold Program.keyLits at h
 rw [Tryz.underlying9] at h
 cases x <;> simp at h
 exact ⟨_, rfl, h.1⟩
theorem keyOf_key_inv {key : Value} {kl : Lit} (h : keyOf Tryz.prog 73 key = some kl) : ∃ k, key = keyV k /\ KyOk k /\ kl = litK k := by
 have h0 := h
 unfold keyOf at h
 rw [Tryz.underlying73] at h
 simp only at h
 split at h
 ·rename_i hc
  rw [typeK, Bool.true_and] at hc
  have hs : Tryz.prog.types.size - 1 + 2 = Tryz.prog.types.size + 1 := by
   have : 0 < Tryz.prog.types.size := of_decide_eq_true (by kernel_rfl)
   omega
  rw [<- hs] at h
  generalize Tryz.prog.types.size - 1 = d at h
  unfold Value.formed at hc
  rw [Tryz.underlying73] at hc
  cases key with
  | agg cs =>
   simp only [cellsK, beq_iff_eq] at hc
   obtain ⟨x0, x1, x2, x3, rfl⟩ : ∃ x0 x1 x2 x3, cs = #[x0, x1, x2, x3] := by
    obtain ⟨l⟩ := cs
    match l, hc with
    | [x0, x1, x2, x3], _ => exact ⟨x0, x1, x2, x3, rfl⟩
   obtain ⟨ls, hl, _⟩ := Option.map_eq_some_iff.1 h
   have hl' : Tryz.prog.keyLits (d + 2) 73 [x0, x1, x2, x3] = some ls := hl
   unfold Program.keyLits at hl'
   rw [Tryz.underlying73] at hl'
   simp [cellsK, cellsI1, cellsS1, Option.bind_eq_some_iff] at hl'
   obtain ⟨_, e0, _, ⟨_, e1, _, ⟨_, e2, _, ⟨_, e3, _⟩, _⟩, _⟩, _⟩ := hl'
   obtain ⟨n0, rfl, w0⟩ := lits_int_inv e0
   obtain ⟨n1, rfl, w1⟩ := lits_int_inv e1
   obtain ⟨s2, rfl, w2⟩ := lits_string_inv e2
   obtain ⟨n3, rfl, w3⟩ := lits_int_inv e3
   have hk : KyOk ⟨n0, n1, s2, n3⟩ := ⟨w0, w1, w3, w2⟩
   refine ⟨⟨n0, n1, s2, n3⟩, rfl, hk, ?_⟩
   have := keyOf_key _ hk
   unfold keyV at this
   rw [this] at h0
   exact (Option.some.inj h0).symm
  | _ => simp at hc
 ·cases h
def PastR (w : World) (P : Pl) (now known : Int) (m r n : Nat) (X : List (Ky × Nat)) (Ln : Nat -> List Ver × Int) (Fs : Nat -> Nat -> Prop) (left : Lit -> Bool) (cnt : Nat) : Prop := PastX w P now known (some m) X Ln Fs /\ ∃ D, KeysL D X /\ w.ranges Tryz.prog 73 ptrElem m r n D left cnt
def TidiedR (w : World) (P : Pl) (now known : Int) (m r n : Nat) (X : List (Ky × Nat)) (Ln : Nat -> List Ver × Int) (Fs : Nat -> Nat -> Prop) (cnt : Nat) (x : Ky × Nat) (w' : World) : Prop :=
 ∃ X' left' cnt', PastR w' P now known m r n X' Ln Fs left' cnt' /\ cnt' <= cnt /\ Grew w (pastF P (some m) X Fs) (pastF P (some m) X' Fs) w' /\ ((X' = X /\ (Ln x.2).1 ≠ []) \/ ((Ln x.2).1 = [] /\ X.Perm (x :: X') /\ X'.Sublist X))
theorem past_tidy_r {w : World} {P : Pl} {now known : Int} {m r n : Nat} {X : List (Ky × Nat)} {Ln : Nat -> List Ver × Int} {Fs : Nat -> Nat -> Prop} {left : Lit -> Bool} {cnt : Nat} (hR : PastR w P now known m r n X Ln Fs left cnt) (x : Ky × Nat) (hx : x ∈ X) :
  Calls Tryz.prog 210 #[.pointer (some ⟨P.b, P.o, none⟩), .agg #[.int .i64 x.1.kind, .int .i64 x.1.a, .string x.1.word, .int .i64 x.1.b]] w fun e w' => e = .returned (.tuple #[]) /\ TidiedR w P now known m r n X Ln Fs cnt x w' := by
 obtain ⟨h, D, hKD, hrg⟩ := hR
 have HKD := zh hKD
 have HOD := zh ((ranges_below (ranges_below hrg (below_box w (.cells #[.int .i64 x.1.kind, .int .i64 x.1.a, .string x.1.word, .int .i64 x.1.b] 73))) (below_drew _)))
 clear hKD hrg
 have HB0 := zh (below_box w (.cells #[.int .i64 x.1.kind, .int .i64 x.1.a, .string x.1.word, .int .i64 x.1.b] 73))
 have HK0 := zh ((boxK_new w x.1).below (below_drew _))
 have HP0 := zh ((h.below (uh HB0)).below (below_drew _))
 have HBd := zh ((uh HB0).trans ((below_drew _).mono (uh HB0).size))
 have c2 := (uh HP0).c2
 have k0 := (uh HK0).c0
 have k1 := (uh HK0).c1
 have k2 := (uh HK0).c2
 have k3 := (uh HK0).c3
 have hlk := lookL_at (uh HP0).map x hx
 unfold keyV at hlk
 obtain ⟨mm, D', G, hX⟩ := (uh HP0).line x hx
 have v0 := hX.c0
 have hln : ∀ ty, (Builtin.len_ #[199] ty #[.map (some mm)]).run Tryz.prog (w.alloc (.cells #[.int .i64 x.1.kind, .int .i64 x.1.a, .string x.1.word, .int .i64 x.1.b] 73)).drew = .ok (.int .i64 ((Ln x.2).1.length : Nat)) (w.alloc (.cells #[.int .i64 x.1.kind, .int .i64 x.1.a, .string x.1.word, .int .i64 x.1.b] 73)).drew := fun ty => by
  rw [hX.own.len Tryz.underlying199 ty, hX.keys.size]
 clear hX h
 go_enter Tryz.func210, Tryz.ntmps210
 go_wp2
 refine wp_region_tail (fun y => y = (w.alloc (.cells #[.int .i64 x.1.kind, .int .i64 x.1.a, .string x.1.word, .int .i64 x.1.b] 73)).drew) 9 (by kernel_rfl) (by kernel_rfl) rfl (fun hHeld => ?_)
 refine takeH 0 (h := ?_)
 try simp only [Act.put, sI, sZ, sS]
 refine takeH 1 (h := ?_)
 try simp only [Act.put, sI, sZ, sS]
 refine takeH 2 (h := ?_)
 try simp only [Act.put, sI, sZ, sS]
 refine takeH 3 (h := ?_)
 try simp only [Act.put, sI, sZ, sS]
 refine takeH 4 (h := ?_)
 try simp only [Act.put, sI, sZ, sS]
 refine takeH 5 (h := ?_)
 try simp only [Act.put, sI, sZ, sS]
 refine takeH 6 (h := ?_)
 try simp only [Act.put, sI, sZ, sS]
 refine takeH 7 (h := ?_)
 try simp only [Act.put, sI, sZ, sS]
 refine takeH 8 (h := ?_)
 try simp only [Act.put, sI, sZ, sS]
 refine wpAnyH_done (by kernel_rfl) ?_ _
 show wpList _ _ _ _ _ _
 clear hHeld
 refine wpList_len_ver _ rfl _ rfl _ _ rfl (hln _) ?_
 clear hln hlk v0
 generalize hW0 : (w.alloc (.cells #[.int .i64 x.1.kind, .int .i64 x.1.a, .string x.1.word, .int .i64 x.1.b] 73)).drew = W0 at *
 clear hW0 HB0
 by_cases he : (Ln x.2).1 = []
 ·have hz : ((Ln x.2).1.length : Nat) = 0 := by rw [he]; rfl
  rw [hz]
  clear hz
  obtain ⟨Y, hp, hsub⟩ := parted_of X x hx
  have HKO := zh (keyOf_key x.1 ((uh HKD).ok x hx))
  have HPP := zh hp
  clear hp
  go_wp2
  refine wp_region_tail (fun y => y = W0.drew) 5 (by kernel_rfl) (by kernel_rfl) rfl (fun hHeld => ?_)
  refine takeH 0 (h := ?_)
  try simp only [Act.put, sI, sZ, sS]
  refine takeH 1 (h := ?_)
  try simp only [Act.put, sI, sZ, sS]
  refine takeH 2 (h := ?_)
  try simp only [Act.put, sI, sZ, sS]
  refine takeH 3 (h := ?_)
  try simp only [Act.put, sI, sZ, sS]
  refine takeH 4 (h := ?_)
  try simp only [Act.put, sI, sZ, sS]
  refine wpAnyH_done (by kernel_rfl) ?_ _
  show wpList _ _ _ _ _ _
  clear hHeld
  refine wpList_delete_ranges _ rfl _ _ 126 73 rfl 198 keyedK Tryz.underlying126 ptrElem m r n D left cnt rfl (ranges_below (uh HOD) (below_drew W0)) _ _ rfl (uh HKO) ?_
  intro W2 cnt2 rg2 le2 turn2
  obtain ⟨p2, g2⟩ := ((uh HP0).below (below_drew W0)).less (uh HPP) hsub (uh HKD) ((uh HOD).owns.tidy keyedK) turn2 rg2.owns
  have hnY : ∀ y, y ∈ Y -> y.1 ≠ x.1 := fun y hy e => by
   have h1 := ((uh HPP).pairwise_iff (R := fun a b : Ky × Nat => a.1 ≠ b.1) (fun hab e => hab e.symm)).1 (uh HP0).keys
   exact List.rel_of_pairwise_cons h1 hy e.symm
  have HT : Hid (TidiedR w P now known m r n X Ln Fs cnt x W2) := ⟨Y, _, cnt2, ⟨p2, _, (uh HKD).del ((uh HOD).owns.tidy keyedK) x (uh HPP) hnY, rg2⟩, le2, Grew.below ((uh HBd).trans ((below_drew W0).mono (uh HBd).size)) g2, .inr ⟨he, uh HPP, hsub⟩⟩
  clear p2 g2 rg2 le2 turn2
  go_wp2
  (try simp only [Exit.inBlock, Exit.then])
  refine bodyPost_end (results_none rfl _ _ _) rfl ?_
  exact ⟨rfl, uh HT⟩
 ·have hz : ¬ (((Ln x.2).1.length : Nat) : Int) = 0 := by
   have := mt List.length_eq_zero_iff.1 he
   omega
  have HT : Hid (TidiedR w P now known m r n X Ln Fs cnt x W0) := ⟨X, _, cnt, ⟨uh HP0, D, uh HKD, uh HOD⟩, Nat.le_refl _, Grew.below (uh HBd) (Grew.of_below _ (Below.refl _ _)), .inl ⟨rfl, he⟩⟩
  generalize ((Ln x.2).1.length : Nat) = n at *
  go_wp2
  (try simp only [Exit.inBlock, Exit.then])
  refine bodyPost_end (results_none rfl _ _ _) rfl ?_
  exact ⟨rfl, uh HT⟩
theorem ptrElem_inv (u : Value) (y : DataW Unit × List MemPlace) (h : ptrElem u = some y) : ∃ c, u = .pointer c := by
 unfold ptrElem at h
 split at h
 ·exact ⟨_, rfl⟩
 ·exact ⟨_, rfl⟩
 ·cases h
theorem key_shape (key : Value) (kl : Lit) (h : keyOf Tryz.prog 73 key = some kl) : ∃ k, key = keyV k := by
 obtain ⟨k, e, _⟩ := keyOf_key_inv h
 exact ⟨k, e⟩
theorem KeysL.met {D : DataW Unit} {X : List (Ky × Nat)} (h : KeysL D X) {k : Ky} (hk : KyOk k) {u : Value} {y : DataW Unit} {ps : List MemPlace} (hu : ptrElem u = some (y, ps)) (hat : ∀ z, D.atKey (litK k) z = y) : ∃ b, (k, b) ∈ X /\ u = .pointer (some ⟨b, 0, none⟩) := by
 rcases Classical.em (∃ x, x ∈ X /\ x.1 = k) with ⟨x, hx, rfl⟩ | q
 ·refine ⟨x.2, hx, ptrElem_at (ps := ps) ?_⟩
  have := h.there x hx
  rw [hat] at this
  rw [hu, this]
 ·have := h.hasn k hk (fun x hx e => q ⟨x, hx, e⟩)
  rw [has_of_at hat] at this
  cases this
structure FgP (w : World) (P : Pl) (m r n : Nat) (now at_ bd : Int) (S : Ky -> Int -> Int -> ByteArray) (F : Nat -> Prop) (X : List (Ky × Nat)) (Ln : Nat -> List Ver × Int) (Fs : Nat -> Nat -> Prop) (left : Lit -> Bool) (cnt : Nat) (y : World) : Prop where
 past : PastR y P now at_ m r n X Ln Fs left cnt
 st : Pst X Ln now at_ bd S
 len : (X.length : Int) <= bd
 grew : Grew w F (pastF P (some m) X Fs) y
 nr : ¬ pastF P (some m) X Fs r
theorem PastX.map_own {w : World} {P : Pl} {now known : Int} {m : Nat} {X : List (Ky × Nat)} {Ln : Nat -> List Ver × Int} {Fs : Nat -> Nat -> Prop} (h : PastX w P now known (some m) X Ln Fs) : ∃ D, w.ownsMap Tryz.prog 73 ptrElem m X.length D /\ KeysL D X := by
 rcases h.map with ⟨q, _⟩ | ⟨m', D, q, k1, k2⟩
 ·cases q
 ·cases q
  exact ⟨D, k1, k2⟩
theorem PastX.other {w : World} {P : Pl} {now known : Int} {mv : Option Nat} {X : List (Ky × Nat)} {Ln : Nat -> List Ver × Int} {Fs : Nat -> Nat -> Prop} (h : PastX w P now known mv X Ln Fs) {x : Ky × Nat} (hx : x ∈ X) (y : Ky × Nat) (hy : y ∈ X) (hne : y ≠ x) : y.2 ≠ x.2 := by
 intro e
 obtain ⟨i, hi, rfl⟩ := List.getElem_of_mem hx
 obtain ⟨j, hj, rfl⟩ := List.getElem_of_mem hy
 have hp := List.pairwise_iff_getElem.1 h.blocks
 rcases Nat.lt_trichotomy i j with k | k | k
 ·exact hp i j hi hj k e.symm
 ·subst k; exact hne rfl
 ·exact hp j i hj hi k e
theorem FgP.line {w W2 W3 : World} {P : Pl} {m r n : Nat} {now at_ bd : Int} {S : Ky -> Int -> Int -> ByteArray} {F : Nat -> Prop} {X : List (Ky × Nat)} {Ln : Nat -> List Ver × Int} {Fs : Nat -> Nat -> Prop} {left : Lit -> Bool} {cnt : Nat} (h : FgP w P m r n now at_ bd S F X Ln Fs left cnt W2) {x : Ky × Nat} (hx : x ∈ X) {V' : List Ver} (ho : LineOk V' (Ln x.2).2 now) (ht : Tells V' at_ now (S x.1)) (hT : LineTurned W2 x.2 V' (Ln x.2).2 (Fs x.2) W3) :
  ∃ Fs', FgP w P m r n now at_ bd S F X (upd Ln x.2 (V', (Ln x.2).2)) Fs' left cnt W3 := by
 obtain ⟨F', hl, hg⟩ := hT
 obtain ⟨hX, D, hK, hrg⟩ := h.past
 obtain ⟨h1, h2⟩ := hX.turn hx hl hg
 have hrs : ¬ Fs x.2 r := fun q => h.nr (.inr (.inr ⟨x, hx, q⟩))
 refine ⟨upd Fs x.2 F', ⟨h1, D, hK, ranges_keeps hrg hg.2 (hX.nm x hx m rfl) hrs⟩, h.st.still hx (hX.other hx) ho (h.st.m0 x hx) ht, h.len, h.grew.trans h2, fun q => ?_⟩
 rcases h2.1 _ q with z | z
 ·exact h.nr z
 ·have := hrg.lt
  omega
theorem FgP.tidied {w W3 W4 : World} {P : Pl} {m r n : Nat} {now at_ bd : Int} {S : Ky -> Int -> Int -> ByteArray} {F : Nat -> Prop} {X : List (Ky × Nat)} {Ln : Nat -> List Ver × Int} {Fs : Nat -> Nat -> Prop} {left : Lit -> Bool} {cnt : Nat} (h : FgP w P m r n now at_ bd S F X Ln Fs left cnt W3) {x : Ky × Nat} (hT : TidiedR W3 P now at_ m r n X Ln Fs cnt x W4) :
  ∃ X' left' cnt', FgP w P m r n now at_ bd S F X' Ln Fs left' cnt' W4 /\ cnt' <= cnt := by
 obtain ⟨X', left', cnt', h1, h2, h3, h4⟩ := hT
 obtain ⟨_, _, _, hrg⟩ := h.past
 have hr := hrg.lt
 refine ⟨X', left', cnt', ⟨h1, ?_, ?_, h.grew.trans h3, fun q => ?_⟩, h2⟩
 ·rcases h4 with ⟨rfl, _⟩ | ⟨e, hp, hs⟩
  ·exact h.st
  ·exact h.st.tidy e hp hs
 ·rcases h4 with ⟨rfl, _⟩ | ⟨e, hp, hs⟩
  ·exact h.len
  ·have := hs.length_le
   have := h.len
   omega
 ·rcases h3.1 _ q with z | z
  ·exact h.nr z
  ·omega
theorem FgP.below {w y y' : World} {P : Pl} {m r n : Nat} {now at_ bd : Int} {S : Ky -> Int -> Int -> ByteArray} {F : Nat -> Prop} {X : List (Ky × Nat)} {Ln : Nat -> List Ver × Int} {Fs : Nat -> Nat -> Prop} {left : Lit -> Bool} {cnt : Nat} (h : FgP w P m r n now at_ bd S F X Ln Fs left cnt y) (hb : Below y.heap.size y y') : FgP w P m r n now at_ bd S F X Ln Fs left cnt y' := by
 obtain ⟨hX, D, hK, hrg⟩ := h.past
 exact ⟨⟨hX.below hb, D, hK, ranges_below hrg hb⟩, h.st, h.len, h.grew.trans (Grew.of_below _ hb), h.nr⟩
theorem FgP.left {w y : World} {P : Pl} {m r n : Nat} {now at_ bd : Int} {S : Ky -> Int -> Int -> ByteArray} {F : Nat -> Prop} {X : List (Ky × Nat)} {Ln : Nat -> List Ver × Int} {Fs : Nat -> Nat -> Prop} {left : Lit -> Bool} {cnt : Nat} (h : FgP w P m r n now at_ bd S F X Ln Fs left cnt y) : y.rangeLeft m r = cnt := by
 obtain ⟨_, D, _, hrg⟩ := h.past
 exact hrg.left_eq
theorem forget_ok {w : World} {P : Pl} {now known bd : Int} {S : Ky -> Int -> Int -> ByteArray} {F : Nat -> Prop} (h : PastW w P now known bd S F) (at_ : Int) (h0 : 0 <= at_) (h1 : known <= at_) (h2 : at_ <= now) (h3 : at_ <= 150) :
  Calls Tryz.prog 155 #[.pointer (some ⟨P.b, P.o, none⟩), .int .i64 at_] w fun e w' => e = .returned .nilIface /\ Changed w P now at_ bd S F w' := by
 obtain ⟨mv, X, Ln, Fs, hX, hS, hlen, hF⟩ := h
 have c0 := hX.c0
 have c1 := hX.c1
 have c2 := hX.c2
 have f1 := hX.f (P.o + 1)
 have hS1 := hS.later h1
 obtain ⟨p1, g1⟩ := hX.set1 at_
 have n0 : ¬ at_ < 0 := by omega
 have n1 : ¬ now < at_ := by omega
 have n2 : ¬ at_ < known := by omega
 rw [<- hF] at g1
 cases mv with
 | none =>
  have hrg := run_range_nilMap (P := Tryz.prog) (w.setCell ⟨P.b, P.o + 1, none⟩ (.int .i64 at_)) 126 73 198 Tryz.underlying126
  have hsz : (w.setCell ⟨P.b, P.o + 1, none⟩ (.int .i64 at_)).heap.size = w.heap.size := by simp
  have hnx := fun ty => run_next_nilMap (P := Tryz.prog) (w.setCell ⟨P.b, P.o + 1, none⟩ (.int .i64 at_)) ty 0 0 #[]
  rw [hsz] at hrg hnx
  have HR : Hid (Changed w P now at_ bd S F ((w.setCell ⟨P.b, P.o + 1, none⟩ (.int .i64 at_)).alloc (.mapIter none 0 #[] 0))) := by
   have b := below_box (w.setCell ⟨P.b, P.o + 1, none⟩ (.int .i64 at_)) (.mapIter none 0 #[] 0)
   exact ⟨F, ⟨none, X, Ln, Fs, p1.below b, hS1, hlen, hF⟩, g1.trans (Grew.of_below F b)⟩
  have c2' : (w.setCell ⟨P.b, P.o + 1, none⟩ (.int .i64 at_)).cell? ⟨P.b, P.o + 2, none⟩ = some (.map none) := p1.c2
  clear hX hS hS1 p1 g1 hF hlen hsz
  go_enter Tryz.func155, Tryz.ntmps155
  go_wp2
  refine wp_loop_rounds 1 ?_
  rw [rounds_succ]
  go_wp2
  go_ret
  exact ⟨rfl, uh HR⟩
 | some m =>
  obtain ⟨D, hown, hK⟩ := p1.map_own
  have HP1 := zh p1
  have HG1 := zh g1
  have HS1 := zh hS1
  have HF := zh hF
  have HO := zh hown
  have HK := zh hK
  clear hX hS hS1 p1 g1 hF hown hK
  go_enter Tryz.func155, Tryz.ntmps155
  go_wp2_with (first | (at_range; refine wpList_range_own _ rfl _ 126 rfl 73 198 keyedK Tryz.underlying126 ptrElem m X.length D rfl (uh HO) ?_; intro w0 hrg0 hg0 hs0))
  have hsz : (w.setCell ⟨P.b, P.o + 1, none⟩ (.int .i64 at_)).heap.size = w.heap.size := by simp
  rw [hsz] at hrg0
  have HS0 : Hid (FgP w P m w.heap.size X.length now at_ bd S F X Ln Fs (Maps.has D) (Maps.size D) w0) := by
   have hb0 := below_grown_none hg0
   refine ⟨⟨(uh HP1).below hb0, D, uh HK, hrg0⟩, uh HS1, hlen, ?_, fun q => ?_⟩
   ·rw [<- uh HF]
    exact (uh HG1).trans (Grew.of_below F hb0)
   ·have := (uh HP1).lt _ q
    omega
  clear hrg0 hg0 hs0 HP1 HG1 HS1 HO HK c0 c1 c2 f1 hsz
  go_loopw [6] (fun _ y => ∃ X' Ln' Fs' left cnt, FgP w P m w.heap.size X.length now at_ bd S F X' Ln' Fs' left cnt y) (fun _ y => y.rangeLeft m w.heap.size)
  case atStart => exact ⟨X, Ln, Fs, _, _, uh HS0⟩
  case round =>
   clear HS0
   obtain ⟨X', Ln', Fs', left, cnt, hI⟩ := hrel
   have HI := zh hI
   obtain ⟨hX', D', hK', hrg⟩ := hI.past
   have HK' := zh hK'
   have HRg := zh hrg
   have HX' := zh hX'
   clear hI hX' hrg hK'
   go_wp2_with (first | (at_next; refine wpList_next_ranges _ rfl _ rfl 73 keyedK ptrElem keyV Value.pointer key_shape ptrElem_inv m w.heap.size X.length D' left cnt rfl (uh HRg) ?done ?more))
   case done =>
    intro _ _
    have HF' : Hid (Changed w P now at_ bd S F wr) := ⟨_, ⟨some m, X', Ln', Fs', (uh HX'), (uh HI).st, (uh HI).len, rfl⟩, (uh HI).grew⟩
    clear HX' HRg HI HK'
    go_wp2
    go_ret
    exact ⟨rfl, uh HF'⟩
   case more =>
    intro k c kl y ps w1 cnt1 hkey hlx hv hat hrg1 hlt hg1 hs1 hen
    obtain ⟨k', ek, hok, rfl⟩ := keyOf_key_inv hkey
    obtain rfl := keyV_inj ek
    obtain ⟨lb, hx, hc⟩ := (uh HK').met hok hv hat
    injection hc with hc
    subst hc
    unfold keyV at hen ⊢
    have k1 : Keeps (fun i => some i = some w.heap.size) wr w1 := keeps_grown hg1
    have HL1 : Hid (FgP w P m w.heap.size X.length now at_ bd S F X' Ln' Fs' (fun z => left z && !z.sameKey (litK k)) cnt1 w1) := by
     have q := uh HI
     refine ⟨⟨(uh HX').keeps k1 (fun i hi e => q.nr (by cases e; exact hi)), D', uh HK', hrg1⟩, q.st, q.len, ⟨fun i hi => q.grew.1 i hi, q.grew.2.then k1 (fun i hi e => by cases e; omega)⟩, q.nr⟩
    have HB2 := zh (below_box w1 (.cells #[.int .i64 k.kind, .int .i64 k.a, .string k.word, .int .i64 k.b] 73))
    have HL2 := zh ((uh HL1).below (uh HB2))
    have HBx := zh (boxK_new w1 k)
    have HFx : Hid (¬ pastF P (some m) X' Fs' w1.heap.size) := fun q => Nat.lt_irrefl _ ((uh HL1).past.1.lt _ q)
    have HM := zh hlt
    have HC := zh (uh HRg).left_eq
    have HLf := zh (line_forget ((uh HL2).past.1.line (k, lb) hx) ((uh HL2).st.ok (k, lb) hx) ((uh HL2).st.tells (k, lb) hx) (by omega))
    clear hkey hlx hv hat hrg1 hlt hg1 hs1 k1 HX' HRg HI HK' HL1 ek
    go_wp2_with fail
    refine (uh HLf).mono ?_
    rintro e W3 ⟨rfl, V', o3, t3, lt3⟩
    have HB3 : Hid (BoxK w1.heap.size k W3) := by
     obtain ⟨F3, _, g3⟩ := lt3
     exact (uh HBx).keeps g3.2 (fun q => uh HFx (.inr (.inr ⟨(k, lb), hx, q⟩)))
    obtain ⟨Fs3, h3⟩ := (uh HL2).line hx o3 t3 lt3
    have HL3 := zh h3
    have k0 := (uh HB3).c0
    have k1 := (uh HB3).c1
    have k2 := (uh HB3).c2
    have k3 := (uh HB3).c3
    have HTd := zh (past_tidy_r (uh HL3).past (k, lb) hx)
    clear h3 o3 t3 lt3 HLf HBx HFx HL2 HB2
    go_wp2_with fail
    refine (uh HTd).mono ?_
    rintro e W4 ⟨rfl, t4⟩
    obtain ⟨X4, left4, cnt4, h4, le4⟩ := (uh HL3).tidied t4
    have HL4 := zh h4
    have HCn : Hid (W4.rangeLeft m w.heap.size < wr.rangeLeft m w.heap.size) := by
     have := uh HM
     show _ < _
     rw [h4.left, uh HC]
     omega
    clear h4 le4 t4 HTd HL3 HB3 k0 k1 k2 k3 hen
    go_wp2
    go_roundw
    case rel => exact ⟨_, _, _, _, _, uh HL4⟩
    case measure => exact uh HCn
def forgetErr (now at_ : Int) : Int := if at_ < 0 \/ now < at_ then 2 else 10
end Go.Proofs.YtbmkmfoaoganeaaGreatDoor
