/- Texts of one proof, one behind the other. -/
import Derived.Test.YtfoojmflbifkpaaGreatDoorFk
import Derived.Test.YtfoojmflbifkpaaGreatDoorFj
import Derived.Test.YtfoojmflbifkpaaGreatDoorEy
import Derived.Test.YtfoojmflbifkpaaGreatDoorFi
set_option maxRecDepth 100000
set_option maxHeartbeats 16000000
namespace Go.Proofs.YtfoojmflbifkpaaGreatDoor
open Go.RowKit Go.Maps
structure KeysB (D : DataW Unit) (H : List Ky) : Prop where
 ok : ∀ k, k ∈ H -> KyOk k
 has : ∀ k, k ∈ H -> Maps.has D (litK k) = true /\ ∀ z, D.atKey (litK k) z = .lit (.bool true)
 hasn : ∀ k, KyOk k -> k ∉ H -> Maps.has D (litK k) = false
 size : Maps.size D = H.length
 nodup : H.Nodup
theorem keysB_none : KeysB (.map []) [] := ⟨by simp, by simp, fun _ _ _ => rfl, rfl, List.nodup_nil⟩
def inY (H : List Ky) (k : Ky) : Bool := H.any fun x => sameK x k
theorem inY_iff {H : List Ky} {k : Ky} : inY H k = true ↔ k ∈ H := by
 unfold inY
 rw [List.any_eq_true]
 constructor
 ·rintro ⟨x, hx, e⟩
  rw [<- sameK_iff.1 e]
  exact hx
 ·exact fun h => ⟨k, h, sameK_iff.2 rfl⟩
def addY (H : List Ky) (k : Ky) : List Ky := if inY H k then H else k :: H
theorem addY_in {H : List Ky} {k : Ky} (h : k ∈ H) : addY H k = H := if_pos (inY_iff.2 h)
theorem addY_out {H : List Ky} {k : Ky} (h : k ∉ H) : addY H k = k :: H := if_neg (fun q => h (inY_iff.1 q))
theorem mem_addY {H : List Ky} {k x : Ky} : x ∈ addY H k ↔ x = k \/ x ∈ H := by
 rcases Classical.em (k ∈ H) with h | h
 ·rw [addY_in h]
  constructor
  ·exact .inr
  ·rintro (rfl | q)
   ·exact h
   ·exact q
 ·rw [addY_out h, List.mem_cons]
theorem addY_len (H : List Ky) (k : Ky) : (addY H k).length <= H.length + 1 := by
 unfold addY
 split <;> simp
theorem litK_key (k : Ky) (h : KyOk k) : WideAt.IsKeyLit (litK k) := keyedK.key (keyOf_key k h)
theorem KeysB.put {D : DataW Unit} {H : List Ky} (h : KeysB D H) (ht : Tidy D) (k : Ky) (hk : KyOk k) : KeysB (D.put (litK k) (.lit (.bool true))) (addY H k) := by
 refine ⟨fun x hx => ?_, fun x hx => ?_, fun x hx hn => ?_, ?_, ?_⟩
 ·rcases mem_addY.1 hx with rfl | q
  ·exact hk
  ·exact h.ok x q
 ·rcases Classical.em (x = k) with e | e
  ·subst e
   exact ⟨Maps.has_put_same ht.isMap (litK_key x hk) _, fun z => Maps.atKey_put_same ht.isMap (litK_key x hk) _ _⟩
  ·have hx' : x ∈ H := by
    rcases mem_addY.1 hx with q | q
    ·exact absurd q e
    ·exact q
   obtain ⟨h1, h2⟩ := h.has x hx'
   have hne := litK_ne (h.ok x hx') hk e
   exact ⟨by rw [Maps.has_put_other hne]; exact h1, fun z => by rw [Maps.atKey_put_other hne]; exact h2 z⟩
 ·have e : x ≠ k := fun q => hn (mem_addY.2 (.inl q))
  rw [Maps.has_put_other (litK_ne hx hk e)]
  exact h.hasn x hx (fun q => hn (mem_addY.2 (.inr q)))
 ·rw [Maps.size_put ht]
  rcases Classical.em (k ∈ H) with q | q
  ·rw [addY_in q, (h.has k q).1, if_pos rfl, h.size]
  ·rw [addY_out q, h.hasn k hk q]
   simp [h.size]
 ·rcases Classical.em (k ∈ H) with q | q
  ·rw [addY_in q]; exact h.nodup
  ·rw [addY_out q]; exact List.nodup_cons.2 ⟨q, h.nodup⟩
def HadK (y : World) (mb : Nat) (H : List Ky) : Prop := ∃ D, y.ownsMap Tryz.prog 32 boolE mb H.length D /\ KeysB D H
theorem HadK.keeps {y y' : World} {mb : Nat} {H : List Ky} {F : Nat -> Prop} (h : HadK y mb H) (hk : Keeps F y y') (hf : ¬ F mb) : HadK y' mb H := by
 obtain ⟨D, h1, h2⟩ := h
 exact ⟨D, ownsMap_keeps h1 hk hf, h2⟩
theorem hadK_new (y : World) : HadK (y.alloc (.map #[] 0)) y.heap.size [] := ⟨.map [], World.ownsMap_made y Tryz.prog 32 boolE, keysB_none⟩
theorem HadK.put {y y' : World} {mb n : Nat} {H : List Ky} {D : DataW Unit} (h2 : KeysB D H) (h1 : y.ownsMap Tryz.prog 32 boolE mb H.length D) (k : Ky) (hk : KyOk k) (ho : y'.ownsMap Tryz.prog 32 boolE mb n (D.put (litK k) (.lit (.bool true)))) : HadK y' mb (addY H k) := by
 have hq := h2.put (h1.tidy keyedK) k hk
 refine ⟨_, ?_, hq⟩
 have := ownsMap_size ho
 rw [hq.size] at this
 exact this
theorem HadK.look {y : World} {mb : Nat} {H : List Ky} (h : HadK y mb H) {k : Ky} (hk : KyOk k) (hx : k ∈ H) : (Instr.lookup 201 (.map (some mb)) (keyV k) false).run Tryz.prog y = .ok (.bool true) y := by
 obtain ⟨D, h1, h2⟩ := h
 obtain ⟨v, ps, hr, hv⟩ := h1.lookup keyedK Tryz.underlying201 (zero_bool y) (zd := .lit (.bool false)) (zp := []) rfl (keyOf_key k hk)
 rw [(h2.has _ hx).2] at hv
 rw [hr, boolE_at hv]
theorem HadK.lookn {y : World} {mb : Nat} {H : List Ky} (h : HadK y mb H) {k : Ky} (hk : KyOk k) (hx : k ∉ H) : (Instr.lookup 201 (.map (some mb)) (keyV k) false).run Tryz.prog y = .ok (.bool false) y := by
 obtain ⟨D, h1, h2⟩ := h
 obtain ⟨v, ps, hr, hv⟩ := h1.lookup keyedK Tryz.underlying201 (zero_bool y) (zd := .lit (.bool false)) (zp := []) rfl (keyOf_key k hk)
 rw [Maps.atKey_of_not_has (h2.hasn k hk hx)] at hv
 rw [hr, boolE_at hv]
theorem rp_keys_count {w : World} {R : Nat} {txs : List (List Fop)} {known : Int} (h : RefP w R txs known) (at_ t e : Int) (he : countErr txs.length known at_ = e) (hne : e ≠ 0) :
  Calls Tryz.prog 56 #[.pointer (some ⟨R, 0, none⟩), .int .i64 at_, .int .i64 t] w fun r w' => r = .returned (.tuple #[.slice none 0 0, .int .i64 e]) /\ Below w.heap.size w w' := by
 obtain ⟨ad, cap, c0⟩ := h.len
 have HA := zh (rp_Ask c0 h.c1 at_)
 rw [he] at HA
 clear h c0 he
 go_enter Tryz.func56, Tryz.ntmps56
 go_wp2_with fail
 refine (uh HA).mono ?_
 rintro e W1 ⟨rfl, hW1⟩
 obtain rfl : w = W1 := hW1.symm
 clear hW1
 go_wp2
 go_ret2
 exact ⟨rfl, Below.refl _ _⟩
theorem rp_keys_time {w : World} {R : Nat} {txs : List (List Fop)} {known : Int} (h : RefP w R txs known) (at_ t : Int) (he : countErr txs.length known at_ = 0) (ht : timedB t = false) :
  Calls Tryz.prog 56 #[.pointer (some ⟨R, 0, none⟩), .int .i64 at_, .int .i64 t] w fun r w' => r = .returned (.tuple #[.slice none 0 0, .int .i64 1]) /\ Below w.heap.size w w' := by
 obtain ⟨ad, cap, c0⟩ := h.len
 have HA := zh (rp_Ask c0 h.c1 at_)
 rw [he] at HA
 have HTm := zh (fun W => ref_timed t W)
 rw [ht] at HTm
 clear h c0 he ht
 go_enter Tryz.func56, Tryz.ntmps56
 go_wp2_with fail
 refine (uh HA).mono ?_
 rintro e W1 ⟨rfl, hW1⟩
 obtain rfl : w = W1 := hW1.symm
 clear hW1
 go_wp2_with fail
 refine (uh HTm _).mono ?_
 rintro e W2 ⟨rfl, hW2⟩
 obtain rfl : w = W2 := hW2.symm
 clear hW2
 go_wp2
 go_ret2
 exact ⟨rfl, Below.refl _ _⟩
theorem stepV_none {k : Ky} {t : Int} {o : Fop} (h : kyO o ≠ k) (v : ByteArray) : stepV k t v o = v := by
 unfold stepV
 rw [not_same h]
 rfl
theorem lastV_none {k : Ky} {t : Int} : ∀ (l : List Fop) (v : ByteArray), (∀ o, o ∈ l -> kyO o ≠ k) -> lastV k t v l = v
 | [], _, _ => rfl
 | o :: l, v, h => by
  show lastV k t (stepV k t v o) l = v
  rw [stepV_none (h o List.mem_cons_self), lastV_none l v (fun x hx => h x (List.mem_cons_of_mem _ hx))]
theorem refS_none {txs : List (List Fop)} {k : Ky} (h : ∀ l, l ∈ txs -> ∀ o, o ∈ l -> kyO o ≠ k) (c : Nat) (t : Int) : refS txs k c t = ⟨#[]⟩ := by
 unfold refS
 have all : ∀ (ls : List (List Fop)) (v : ByteArray), (∀ l, l ∈ ls -> ∀ o, o ∈ l -> kyO o ≠ k) -> ls.foldl (lastV k t) v = v := by
  intro ls
  induction ls with
  | nil => intro v _; rfl
  | cons l ls ih =>
   intro v hl
   show ls.foldl (lastV k t) (lastV k t v l) = v
   rw [lastV_none l v (hl l List.mem_cons_self), ih v (fun x hx => hl x (List.mem_cons_of_mem _ hx))]
 exact all _ _ (fun l hl => h l (List.mem_of_mem_take hl))
structure KyR (Wb : World) (mb ob base : Nat) (H L : List Ky) (v : Value) (y : World) : Prop where
 had : HadK y mb H
 box : y.cell? ⟨ob, 0, none⟩ = some v
 frz : y.frozen? ⟨ob, 0, none⟩ = false
 row : RowY y base v L
 low : Below Wb.heap.size Wb y
 wm : Wb.heap.size <= mb
 mo : mb < ob
 ob : ob < base
 bs : base <= y.heap.size
theorem KyR.below {Wb : World} {mb ob base : Nat} {H L : List Ky} {v : Value} {y y' : World} (h : KyR Wb mb ob base H L v y) (hb : Below y.heap.size y y') : KyR Wb mb ob base H L v y' :=
 ⟨h.had.keeps (Keeps.of_below (fun _ => False) hb zr) (fun q => q), there_yet h.box hb, (Keeps.frozen (Keeps.of_below (fun _ => False) hb zr) (p := ⟨ob, 0, none⟩) (lt_of_cell h.box) (fun q => q)).trans h.frz, h.row.carry hb, h.low.trans (hb.mono h.low.size), h.wm, h.mo, h.ob, Nat.le_trans h.bs hb.size⟩
theorem KyR.add {Wb : World} {mb ob base : Nat} {H L : List Ky} {v v' : Value} {y y' : World} {k : Ky} (h : KyR Wb mb ob base H L v y) (hg : y.grownBy y' v.ownBlock) (hr : RowY y' base v' (L ++ [k])) : KyR Wb mb ob base H (L ++ [k]) v' (y'.setCell ⟨ob, 0, none⟩ v') := by
 have hkp := keeps_grown hg
 have hge : ∀ i, some i = v.ownBlock -> base <= i := fun i e => (World.ownsRow.lt h.row i e.symm).1
 have hmo := h.mo
 have hob := h.ob
 have hwm := h.wm
 have hob2 : ob < y.heap.size := lt_of_cell h.box
 have hbox := (hkp.cell (p := ⟨ob, 0, none⟩) hob2 (fun e => by have := hge ob e; omega)).trans h.box
 have hks := keeps_set y' ob 0 v'
 refine ⟨(h.had.keeps hkp (fun e => by have := hge mb e; omega)).keeps hks (fun e => by omega), World.cell?_setCell_same _ _ _ hbox, ?_, ?_, ?_, h.wm, h.mo, h.ob, ?_⟩
 ·rw [World.frozen?_setCell]
  exact (hkp.frozen (p := ⟨ob, 0, none⟩) hob2 (fun e => by have := hge ob e; omega)).trans h.frz
 ·refine World.ownsRow.kept (row := some ob) hr ⟨hks.os, hks.tape, hks.output, hks.size, fun i hi hn => hks.block i hi (fun e => hn (by rw [e]))⟩ ?_
  rcases e : v'.ownBlock with _ | g
  ·exact .inl rfl
  ·refine .inr (fun q => ?_)
   have := (World.ownsRow.lt hr g e).1
   cases q
   omega
 ·have h1 := h.low.trans (keeps_below hkp (fun i e => by have := hge i e; omega) h.low.size)
  exact h1.trans (keeps_below hks (fun i e => by subst e; omega) h1.size)
 ·exact Nat.le_trans h.bs (Nat.le_trans hkp.size hks.size)
theorem KyR.put {Wb : World} {mb ob base : Nat} {H L : List Ky} {v : Value} {y y' : World} {k : Ky} (h : KyR Wb mb ob base H L v y) (hk : Keeps (fun i => i = mb) y y') (hh : HadK y' mb (addY H k)) : KyR Wb mb ob base (addY H k) L v y' := by
 have hmo := h.mo
 have hob := h.ob
 have hob2 : ob < y.heap.size := lt_of_cell h.box
 refine ⟨hh, (hk.cell (p := ⟨ob, 0, none⟩) hob2 (fun e => by have : ob = mb := e; omega)).trans h.box, (hk.frozen (p := ⟨ob, 0, none⟩) hob2 (fun e => by have : ob = mb := e; omega)).trans h.frz, ?_, h.low.trans (keeps_below hk (fun i e => by subst e; exact h.wm) h.low.size), h.wm, h.mo, h.ob, Nat.le_trans h.bs hk.size⟩
 refine World.ownsRow.kept (row := some mb) h.row ⟨hk.os, hk.tape, hk.output, hk.size, fun i hi hn => hk.block i hi (fun e => hn (by rw [e]))⟩ ?_
 rcases e : v.ownBlock with _ | g
 ·exact .inl rfl
 ·refine .inr (fun q => ?_)
  have := (World.ownsRow.lt h.row g e).1
  cases q
  omega
def KeysSayR (w : World) (f : Ky -> ByteArray) (e : Ending) (w' : World) : Prop :=
 ∃ v L, e = .returned (.tuple #[v, .int .i64 0]) /\ RowY w' w.heap.size v L /\ L.Pairwise (fun a b => cfY a b < 0) /\ (∀ k, k ∈ L ↔ f k ≠ ByteArray.empty) /\ L.length <= 4000 /\ Below w.heap.size w w'
structure SeenY (f : Ky -> ByteArray) (P : List Fop) (H L : List Ky) : Prop where
 seen : ∀ k, k ∈ H ↔ ∃ o, o ∈ P /\ kyO o = k
 kept : ∀ k, k ∈ L ↔ k ∈ H /\ f k ≠ ByteArray.empty
 nodup : L.Nodup
 len : L.length <= H.length /\ H.length <= P.length
theorem seenY_none (f : Ky -> ByteArray) : SeenY f [] [] [] := ⟨by simp, by simp, List.nodup_nil, by simp⟩
theorem SeenY.known {f : Ky -> ByteArray} {P : List Fop} {H L : List Ky} (h : SeenY f P H L) {o : Fop} (hk : kyO o ∈ H) : SeenY f (P ++ [o]) (addY H (kyO o)) L := by
 rw [addY_in hk]
 refine ⟨fun k => ?_, h.kept, h.nodup, ⟨h.len.1, by have := h.len.2; simp; omega⟩⟩
 rw [h.seen k]
 constructor
 ·rintro ⟨x, hx, e⟩
  exact ⟨x, by simp [hx], e⟩
 ·rintro ⟨x, hx, e⟩
  rcases List.mem_append.1 hx with q | q
  ·exact ⟨x, q, e⟩
  ·obtain rfl := List.mem_singleton.1 q
   rw [<- e]
   exact (h.seen _).1 hk
theorem SeenY.seen_new {f : Ky -> ByteArray} {P : List Fop} {H L : List Ky} (h : SeenY f P H L) (o : Fop) (k : Ky) : k ∈ addY H (kyO o) ↔ ∃ x, x ∈ P ++ [o] /\ kyO x = k := by
 rw [mem_addY, h.seen k]
 constructor
 ·rintro (rfl | ⟨x, hx, e⟩)
  ·exact ⟨o, by simp, rfl⟩
  ·exact ⟨x, by simp [hx], e⟩
 ·rintro ⟨x, hx, e⟩
  rcases List.mem_append.1 hx with q | q
  ·exact .inr ⟨x, q, e⟩
  ·obtain rfl := List.mem_singleton.1 q
   exact .inl e.symm
theorem SeenY.skip {f : Ky -> ByteArray} {P : List Fop} {H L : List Ky} (h : SeenY f P H L) {o : Fop} (hf : f (kyO o) = ByteArray.empty) : SeenY f (P ++ [o]) (addY H (kyO o)) L := by
 have hl := addY_len H (kyO o)
 have hl2 : H.length <= (addY H (kyO o)).length := by
  rcases Classical.em (kyO o ∈ H) with q | q
  ·rw [addY_in q]; exact Nat.le_refl _
  ·rw [addY_out q]; simp
 refine ⟨h.seen_new o, fun k => ?_, h.nodup, ⟨Nat.le_trans h.len.1 hl2, by have := h.len.2; simp; omega⟩⟩
 rw [h.kept k, mem_addY]
 constructor
 ·exact fun q => ⟨.inr q.1, q.2⟩
 ·rintro ⟨rfl | q, e⟩
  ·exact absurd hf e
  ·exact ⟨q, e⟩
theorem SeenY.add {f : Ky -> ByteArray} {P : List Fop} {H L : List Ky} (h : SeenY f P H L) {o : Fop} (hn : kyO o ∉ H) (hf : f (kyO o) ≠ ByteArray.empty) : SeenY f (P ++ [o]) (addY H (kyO o)) (L ++ [kyO o]) := by
 refine ⟨h.seen_new o, fun k => ?_, ?_, ?_⟩
 ·rw [List.mem_append, List.mem_singleton, h.kept k, mem_addY]
  constructor
  ·rintro (q | rfl)
   ·exact ⟨.inr q.1, q.2⟩
   ·exact ⟨.inl rfl, hf⟩
  ·rintro ⟨rfl | q, e⟩
   ·exact .inr rfl
   ·exact .inl ⟨q, e⟩
 ·rw [List.nodup_append]
  refine ⟨h.nodup, by simp, fun a ha b hb => ?_⟩
  rw [List.mem_singleton] at hb
  subst hb
  rintro rfl
  exact hn ((h.kept _).1 ha).1
 ·rw [addY_out hn]
  have := h.len
  simp
  omega
theorem rp_keys_ok {w : World} {R : Nat} {txs : List (List Fop)} {known : Int} (h : RefP w R txs known) (c : Nat) (t : Int) (hcn : c <= txs.length) (he : countErr txs.length known c = 0) (ht : timedB t = true) (hky : ∀ l, l ∈ txs -> ∀ o, o ∈ l -> KyOk (kyO o)) :
  Calls Tryz.prog 56 #[.pointer (some ⟨R, 0, none⟩), .int .i64 c, .int .i64 t] w (KeysSayR w (fun k => refS txs k c t)) := by
 obtain ⟨ad, cap, c0, hT⟩ := h.txs
 have hm := h.most
 have HA := zh (rp_Ask c0 h.c1 c)
 rw [he] at HA
 have HTm := zh (fun W => ref_timed t W)
 rw [ht] at HTm
 have HR0 := zh h
 have HT := zh hT
 have HKy := zh hky
 have hmk := run_makeMap (P := Tryz.prog) 201 w
 have HNone := zh (fun k (q : ∀ l, l ∈ txs -> ∀ o, o ∈ l -> kyO o ≠ k) => refS_none q c t)
 obtain ⟨f, hf⟩ : ∃ f : Ky -> ByteArray, f = fun k => refS txs k c t := ⟨_, rfl⟩
 have HFf : Hid (∀ k, f k = refS txs k c t) := fun k => by rw [hf]
 rw [<- hf]
 obtain ⟨n, hn⟩ : ∃ n, n = txs.length := ⟨_, rfl⟩
 have HN := zh hn
 have HC0 := zh c0
 clear h he ht hky hT hf
 have hb4 : Below w.heap.size w ((w.alloc (.map #[] 0)).alloc (.cells #[.slice none 0 0] 78)) := ((Below.refl _ _).alloc zr _).alloc (by simp) _
 have d0 := there_yet c0 hb4
 have HT4 := zh ((uh HT).carry hb4)
 rw [<- hn] at d0 hm
 have HI0 : Hid (KyR w w.heap.size (w.heap.size + 1) (w.heap.size + 2) [] [] (.slice none 0 0) ((w.alloc (.map #[] 0)).alloc (.cells #[.slice none 0 0] 78))) := by
  refine ⟨(hadK_new w).keeps (Keeps.of_below (fun _ => False) (below_box _ _) zr) (fun q => q), ?_, ?_, World.ownsRow_nil _ _ _ _, hb4, Nat.le_refl _, by omega, by omega, by simp⟩
  ·rw [World.cell?_alloc_at _ _ _ _ (by simp)]; rfl
  ·exact World.frozen?_alloc_at _ _ _ _ (by simp)
 clear hb4 hn c0
 go_enter Tryz.func56, Tryz.ntmps56
 go_wp2_with fail
 refine (uh HA).mono ?_
 rintro e W1 ⟨rfl, hW1⟩
 obtain rfl : w = W1 := hW1.symm
 clear hW1 HA
 go_wp2_with fail
 refine (uh HTm _).mono ?_
 rintro e W2 ⟨rfl, hW2⟩
 obtain rfl : w = W2 := hW2.symm
 clear hW2 HTm
 go_upto_region 8 with fail
 clear hmk
 generalize hW4 : (w.alloc (.map #[] 0)).alloc (.cells #[.slice none 0 0] 78) = W4 at *
 clear hW4
 go_wp2_with fail
 go_loopw [30] (fun i y => ∃ (j : Nat) (H L : List Ky) (v : Value), j <= n /\ i = .int .i64 j /\ KyR w w.heap.size (w.heap.size + 1) (w.heap.size + 2) H L v y /\ SeenY f (txs.take j).flatten H L) (fun i _ => n - (intOf i).toNat)
 case atStart => exact ⟨0, [], [], _, by omega, rfl, uh HI0, seenY_none f⟩
 case round =>
  revert wr
  intro wo hrel
  clear HI0 d0
  obtain ⟨j, H, L, v, hj, rfl, hI, hS⟩ := hrel
  have HI := zh hI
  have HS := zh hS
  clear hI hS
  by_cases hlt : j < n
  ·have hlt' : (j : Int) < (n : Int) := by omega
   have hj0 : (0 : Int) <= (j : Int) := by omega
   have hjt : j < txs.length := by have := uh HN; omega
   obtain ⟨b, o, g, fo, cp, rfl, r0, r1, r2⟩ := uh HT j hjt
   have HSj : Hid ((txs.take (j + 1)).flatten = (txs.take j).flatten ++ txs[j]) := by
    unfold Hid
    rw [List.take_succ_eq_append_getElem hjt, List.flatten_append]
    simp only [List.flatten_cons, List.flatten_nil, List.append_nil]
   have HPl : Hid ((txs.take j).flatten.length <= 1200) := by
    have : ∀ (ls : List (List Fop)), (∀ l, l ∈ ls -> l.length <= 8) -> ls.flatten.length <= ls.length * 8 := by
     intro ls
     induction ls with
     | nil => intro _; simp
     | cons l ls ih =>
      intro hl
      have h1 := ih (fun x hx => hl x (List.mem_cons_of_mem _ hx))
      have h2 := hl l List.mem_cons_self
      simp only [List.flatten_cons, List.length_append, List.length_cons]
      omega
    have h1 := this (txs.take j) (fun l hl => by
     obtain ⟨i, hi, rfl⟩ := List.getElem_of_mem (List.mem_of_mem_take hl)
     obtain ⟨_, _, _, _, _, _, _, _, q⟩ := uh HT i hi
     exact q)
    rw [List.length_take] at h1
    show _ <= _
    omega
   have HKl : Hid (∀ o, o ∈ txs[j] -> KyOk (kyO o)) := uh HKy _ (List.getElem_mem hjt)
   obtain ⟨l, hl⟩ : ∃ l, l = txs[j] := ⟨_, rfl⟩
   rw [<- hl] at r0 r1 r2 HSj HKl
   have q0 := there_yet r0 (uh HI).low
   have HAt := zh r1
   obtain ⟨P, hP⟩ : ∃ P, P = (txs.take j).flatten := ⟨_, rfl⟩
   rw [<- hP] at HSj HS HPl
   clear r0 r1 hl hjt hP
   go_upto_region 11 with fail
   go_wp2_with fail
   go_loopw [36] (fun i y => ∃ (m : Nat) (H L : List Ky) (v : Value), m <= l.length /\ i = .int .i64 m /\ KyR w w.heap.size (w.heap.size + 1) (w.heap.size + 2) H L v y /\ SeenY f (P ++ l.take m) H L) (fun i _ => l.length - (intOf i).toNat)
   case atStart => exact ⟨0, H, L, v, by omega, rfl, uh HI, by simpa using uh HS⟩
   case round =>
    clear HI HS q0
    obtain ⟨m, H, L, v, hm', rfl, hI, hS⟩ := hrel
    have HI := zh hI
    have HS := zh hS
    clear hI hS
    by_cases hml : m < l.length
    ·have hml' : (m : Int) < (l.length : Int) := by omega
     have hm0 : (0 : Int) <= (m : Int) := by omega
     obtain ⟨a0, a1, a2, a3, a4, a5, a6⟩ := (uh HAt).2 m hml
     have HPn : Hid (P ++ l.take (m + 1) = (P ++ l.take m) ++ [l[m]]) := by
      unfold Hid
      rw [List.take_succ_eq_append_getElem hml, List.append_assoc]
     have hok := uh HKl l[m] (List.getElem_mem hml)
     have HLl : Hid (L.length <= 1300 /\ H.length <= 1300) := by
      have h1 := (uh HS).len
      have h2 := uh HPl
      rw [List.length_append, List.length_take] at h1
      exact ⟨by omega, by omega⟩
     obtain ⟨o, ho⟩ : ∃ o, o = l[m] := ⟨_, rfl⟩
     rw [<- ho] at a0 a1 a2 a3 a4 a5 a6 HPn hok
     have z0 := there_yet a0 (uh HI).low
     have z1 := there_yet a1 (uh HI).low
     have z2 := there_yet a2 (uh HI).low
     have z3 := there_yet a3 (uh HI).low
     have z4 := there_yet a4 (uh HI).low
     have z5 := there_yet a5 (uh HI).low
     have z6 := there_yet a6 (uh HI).low
     have HB8 := zh (below_box wr (.cells #[.int .i64 o.kind, .int .i64 o.a, .string o.word, .int .i64 o.b, .int .i64 o.lo, .int .i64 o.hi, .string o.value] 36))
     have HOk := zh hok
     obtain ⟨P2, hP2⟩ : ∃ P2, P2 = P ++ l.take m := ⟨_, rfl⟩
     rw [<- hP2] at HPn HS
     clear a0 a1 a2 a3 a4 a5 a6 ho hok hP2
     go_upto_region 14 with fail
     have y0 : (wr.alloc (.cells #[.int .i64 o.kind, .int .i64 o.a, .string o.word, .int .i64 o.b, .int .i64 o.lo, .int .i64 o.hi, .string o.value] 36)).cell? ⟨wr.heap.size, 0, none⟩ = some (.int .i64 o.kind) := by simp
     have y1 : (wr.alloc (.cells #[.int .i64 o.kind, .int .i64 o.a, .string o.word, .int .i64 o.b, .int .i64 o.lo, .int .i64 o.hi, .string o.value] 36)).cell? ⟨wr.heap.size, 1, none⟩ = some (.int .i64 o.a) := by simp
     have y2 : (wr.alloc (.cells #[.int .i64 o.kind, .int .i64 o.a, .string o.word, .int .i64 o.b, .int .i64 o.lo, .int .i64 o.hi, .string o.value] 36)).cell? ⟨wr.heap.size, 2, none⟩ = some (.string o.word) := by simp
     have y3 : (wr.alloc (.cells #[.int .i64 o.kind, .int .i64 o.a, .string o.word, .int .i64 o.b, .int .i64 o.lo, .int .i64 o.hi, .string o.value] 36)).cell? ⟨wr.heap.size, 3, none⟩ = some (.int .i64 o.b) := by simp
     have HI9 := zh ((uh HI).below (uh HB8))
     have hgo : ¬ wr.heap.size = w.heap.size := by
      have h1 := lt_of_cell (uh HI).box
      have h2 : w.heap.size + 1 < wr.heap.size := h1
      omega
     have hgo2 : ¬ wr.heap.size = w.heap.size + 1 := by
      have h1 := lt_of_cell (uh HI).box
      have h2 : w.heap.size + 1 < wr.heap.size := h1
      omega
     have HVg : Hid (∀ g, v.ownBlock = some g -> g < wr.heap.size) := fun g hg => (World.ownsRow.lt (uh HI).row g hg).2
     clear z0 z1 z2 z3 z4 z5 z6 HB8 HI
     generalize wr.alloc (.cells #[.int .i64 o.kind, .int .i64 o.a, .string o.word, .int .i64 o.b, .int .i64 o.lo, .int .i64 o.hi, .string o.value] 36) = W9 at *
     generalize wr.heap.size = gb at *
     rcases Classical.em (kyO o ∈ H) with hin | hin
     ·have hlk : (Instr.lookup 201 (.map (some w.heap.size)) (.agg #[.int .i64 o.kind, .int .i64 o.a, .string o.word, .int .i64 o.b]) false).run Tryz.prog W9 = .ok (.bool true) W9 := (uh HI9).had.look (uh HOk) hin
      have HS2 := zh ((uh HS).known hin)
      obtain ⟨D, hD, hKB⟩ := (uh HI9).had
      have HD := zh hD
      have HKB := zh hKB
      have HKo : Hid (keyOf Tryz.prog 32 (.agg #[.int .i64 o.kind, .int .i64 o.a, .string o.word, .int .i64 o.b]) = some (litK (kyO o))) := keyOf_key (kyO o) (uh HOk)
      have hHm : H.length < maxLen := by have := (uh HLl).2; unfold maxLen; omega
      clear hin hD hKB
      go_wp2_with (first
       | (at_mapUpdate; refine wpList_mapUpdate_in _ rfl _ _ _ 201 rfl 32 4 keyedK Tryz.underlying201 boolE w.heap.size H.length D rfl (uh HD) hHm _ _ _ rfl rfl (uh HKo) (.lit (.bool true)) [] rfl ?_))
      intro W11 own11 turn11
      have HI11 := zh ((uh HI9).put (turned_keeps turn11) (HadK.put (uh HKB) (uh HD) (kyO o) (uh HOk) own11))
      clear own11 turn11 hlk HD HKB HI9 y0 y1 y2 y3
      go_wp2
      go_roundw
      case rel => exact ⟨m + 1, _, _, _, by omega, by go_num, uh HI11, by rw [uh HPn]; exact uh HS2⟩
      case measure => simp [intOf]; omega
     ·have hlk : (Instr.lookup 201 (.map (some w.heap.size)) (.agg #[.int .i64 o.kind, .int .i64 o.a, .string o.word, .int .i64 o.b]) false).run Tryz.prog W9 = .ok (.bool false) W9 := (uh HI9).had.lookn (uh HOk) hin
      have hSd := rp_said ((uh HR0).carry (uh HI9).low) (kyO o) c hcn t
      rw [<- uh HFf (kyO o)] at hSd
      have HSd : Hid (Calls Tryz.prog 60 #[.pointer (some ⟨R, 0, none⟩), .agg #[.int .i64 o.kind, .int .i64 o.a, .string o.word, .int .i64 o.b], .int .i64 c, .int .i64 t] W9 fun e w' => e = .returned (.string (f (kyO o))) /\ Below W9.heap.size W9 w') := hSd
      have HKo : Hid (keyOf Tryz.prog 32 (.agg #[.int .i64 o.kind, .int .i64 o.a, .string o.word, .int .i64 o.b]) = some (litK (kyO o))) := keyOf_key (kyO o) (uh HOk)
      have hHm : H.length < maxLen := by have := (uh HLl).2; unfold maxLen; omega
      clear hSd
      go_wp2_with fail
      refine (uh HSd).mono ?_
      rintro e W10 ⟨rfl, b10⟩
      have HI10 := zh ((uh HI9).below b10)
      have x0 := there_yet y0 b10
      have x1 := there_yet y1 b10
      have x2 := there_yet y2 b10
      have x3 := there_yet y3 b10
      clear b10 hlk HSd HI9 y0 y1 y2 y3
      obtain ⟨fv, hfv⟩ : ∃ fv, fv = f (kyO o) := ⟨_, rfl⟩
      have HFv := zh hfv
      rw [<- hfv]
      clear hfv
      by_cases hne : fv = ByteArray.empty
      ·subst hne
       have HS2 := zh ((uh HS).skip (uh HFv).symm)
       obtain ⟨D, hD, hKB⟩ := (uh HI10).had
       have HD := zh hD
       have HKB := zh hKB
       clear hin hD hKB
       go_wp2_with (first
        | (at_mapUpdate; refine wpList_mapUpdate_in _ rfl _ _ _ 201 rfl 32 4 keyedK Tryz.underlying201 boolE w.heap.size H.length D rfl (uh HD) hHm _ _ _ rfl rfl (uh HKo) (.lit (.bool true)) [] rfl ?_))
       intro W11 own11 turn11
       have HI11 := zh ((uh HI10).put (turned_keeps turn11) (HadK.put (uh HKB) (uh HD) (kyO o) (uh HOk) own11))
       clear own11 turn11 HD HKB HI10 x0 x1 x2 x3
       go_wp2
       go_roundw
       case rel => exact ⟨m + 1, _, _, _, by omega, by go_num, uh HI11, by rw [uh HPn]; exact uh HS2⟩
       case measure => simp [intOf]; omega
      ·have HS2 := zh ((uh HS).add hin (by rw [<- uh HFv]; exact hne))
       obtain ⟨n1, n2⟩ := not_empty hne
       have bx := (uh HI10).box
       have fx := (uh HI10).frz
       have hbs := (uh HI10).bs
       have HB12 := zh (below_box W10 (.cells #[.int .i64 o.kind, .int .i64 o.a, .string o.word, .int .i64 o.b] 32))
       have HI12 := zh ((uh HI10).below (uh HB12))
       have HBx12 : Hid (BoxK W10.heap.size (kyO o) (W10.alloc (.cells #[.int .i64 o.kind, .int .i64 o.a, .string o.word, .int .i64 o.b] 32))) := boxK_new W10 (kyO o)
       have hw0 : ¬ W10.heap.size = w.heap.size + 1 := by
        have h1 := lt_of_cell (uh HI10).box
        have h2 : w.heap.size + 1 < W10.heap.size := h1
        omega
       clear hin hne
       go_wp2_with (first
        | (at_builtin; refine wpList_appY _ rfl (.tmp 54) (.tmp 57) rfl (w.heap.size + 2) _ L rfl (uh HI12).row W10.heap.size (kyO o) rfl (uh HBx12) ?d1 ?d2 ?_))
       case d1 => have := (uh HLl).1; omega
       case d2 => have := (uh HI12).bs; omega
       intro v9 W12 r1 r2
       have HI13 := zh ((uh HI12).add r2 r1)
       have hkp := keeps_grown r2
       have hge : ∀ i, some i = v.ownBlock -> w.heap.size + 2 <= i := fun i e => (World.ownsRow.lt (uh HI12).row i e.symm).1
       have u0 : W12.cell? ⟨w.heap.size + 1, 0, none⟩ = some v := (hkp.cell (p := ⟨w.heap.size + 1, 0, none⟩) (lt_of_cell (uh HI12).box) (fun e => by have q : w.heap.size + 2 <= w.heap.size + 1 := hge _ e; omega)).trans (uh HI12).box
       have u1 : W12.frozen? ⟨w.heap.size + 1, 0, none⟩ = false := (hkp.frozen (p := ⟨w.heap.size + 1, 0, none⟩) (lt_of_cell (uh HI12).box) (fun e => by have q : w.heap.size + 2 <= w.heap.size + 1 := hge _ e; omega)).trans (uh HI12).frz
       have hgf : ∀ p : Addr, p.block = gb -> ∀ u, W10.cell? p = some u -> (W12.setCell ⟨w.heap.size + 1, 0, none⟩ v9).cell? p = some u := fun p hp u hu => by
        have h1 := there_yet hu (uh HB12)
        have h2 := (hkp.cell (p := p) (lt_of_cell h1) (fun e => by have q := uh HVg _ e.symm; omega)).trans h1
        exact (World.cell?_setCell_far _ _ _ _ (by show ¬ w.heap.size + 1 = p.block; rw [hp]; omega)).trans h2
       have s0 := hgf _ rfl _ x0
       have s1 := hgf _ rfl _ x1
       have s2 := hgf _ rfl _ x2
       have s3 := hgf _ rfl _ x3
       obtain ⟨ad9, n9, cap9, rfl⟩ : ∃ ad n cap, v9 = .slice ad n cap := by
        obtain ⟨ad, cap, e⟩ := row_slice (show World.ownsRow _ _ _ _ _ _ _ from r1)
        exact ⟨ad, _, cap, e⟩
       obtain ⟨D, hD, hKB⟩ := (uh HI13).had
       have HD := zh hD
       have HKB := zh hKB
       clear hD hKB r1 r2 hkp hge hgf HI10 HI12 HB12 HBx12 x0 x1 x2 x3 bx fx n1 n2
       go_upto_region 16 with fail
       clear u0 u1
       generalize hW13 : W12.setCell ⟨w.heap.size + 1, 0, none⟩ (.slice ad9 n9 cap9) = W13 at *
       clear hW13
       go_wp2_with (first
        | (at_mapUpdate; refine wpList_mapUpdate_in _ rfl _ _ _ 201 rfl 32 4 keyedK Tryz.underlying201 boolE w.heap.size H.length D rfl (uh HD) hHm _ _ _ rfl rfl (uh HKo) (.lit (.bool true)) [] rfl ?_))
       intro W11 own11 turn11
       have HI11 := zh ((uh HI13).put (turned_keeps turn11) (HadK.put (uh HKB) (uh HD) (kyO o) (uh HOk) own11))
       clear own11 turn11 HD HKB HI13 s0 s1 s2 s3
       go_wp2
       go_roundw
       case rel => exact ⟨m + 1, _, _, _, by omega, by go_num, uh HI11, by rw [uh HPn]; exact uh HS2⟩
       case measure => simp [intOf]; omega
    ·obtain rfl : m = l.length := by omega
     have hlt3 : ¬ (l.length : Int) < (l.length : Int) := by omega
     rw [List.take_length] at HS
     go_wp2
     go_roundw
     case rel => exact ⟨j + 1, H, L, v, by omega, by go_num, uh HI, by rw [uh HSj]; exact uh HS⟩
     case measure => simp [intOf]; omega
  ·have HA : Hid (txs.take j = txs) := by
    have := uh HN
    exact List.take_of_length_le (by omega)
   rw [uh HA] at HS
   have hlt' : ¬ (j : Int) < (n : Int) := by omega
   have bx := (uh HI).box
   have hLl : L.length <= 1300 := by
    have h1 := (uh HS).len
    have : ∀ (ls : List (List Fop)), (∀ l, l ∈ ls -> l.length <= 8) -> ls.flatten.length <= ls.length * 8 := by
     intro ls
     induction ls with
     | nil => intro _; simp
     | cons l ls ih =>
      intro hl
      have h1 := ih (fun x hx => hl x (List.mem_cons_of_mem _ hx))
      have h2 := hl l List.mem_cons_self
      simp only [List.flatten_cons, List.length_append, List.length_cons]
      omega
    have h2 := this txs (fun l hl => by
     obtain ⟨i, hi, rfl⟩ := List.getElem_of_mem hl
     obtain ⟨_, _, _, _, _, _, _, _, q⟩ := uh HT i hi
     exact q)
    have := uh HN
    omega
   have hSo := slice_keys L v wo (w.heap.size + 2) (w.heap.size + 1) (by omega) (uh HI).row bx (fun g hg e => by
    have := (World.ownsRow.lt (uh HI).row g hg).1
    omega)
   have HSo := zh hSo
   obtain ⟨ad2, cap2, rfl⟩ := row_slice (show World.ownsRow _ _ _ _ _ _ _ from (uh HI).row)
   clear hSo
   go_wp2_with fail
   refine (uh HSo).mono ?_
   rintro e W5 ⟨rfl, l', hp, hs, ho, hg⟩
   have hl' : l'.length = L.length := hp.length_eq
   have hkp := keeps_grown hg
   have bx5 : W5.cell? ⟨w.heap.size + 1, 0, none⟩ = some (.slice ad2 L.length cap2) := (hkp.cell (p := ⟨w.heap.size + 1, 0, none⟩) (lt_of_cell bx) (fun e => by
    have q : w.heap.size + 2 <= w.heap.size + 1 := (World.ownsRow.lt (uh HI).row _ e.symm).1
    omega)).trans bx
   have HR : Hid (KeysSayR w f (.returned (.tuple #[.slice ad2 L.length cap2, .int .i64 0])) W5) := by
    refine ⟨_, l', rfl, ownsRow_rebase ho (by omega), nodup_sorted hp (uh HS).nodup hs, fun k => ?_, by omega, ?_⟩
    ·rw [hp.mem_iff, (uh HS).kept k, (uh HS).seen k]
     constructor
     ·exact fun q => q.2
     ·intro q
      refine ⟨?_, q⟩
      rcases Classical.em (∃ o, o ∈ txs.flatten /\ kyO o = k) with z | z
      ·exact z
      ·refine absurd ?_ q
       rw [uh HFf k]
       exact uh HNone k (fun l hl o ho e => z ⟨o, List.mem_flatten.2 ⟨l, hl, ho⟩, e⟩)
    ·refine (uh HI).low.grown hg (uh HI).low.size (fun i hi => ?_)
     have := (World.ownsRow.lt (uh HI).row i hi).1
     omega
   clear hp hs ho hg HSo hkp bx HI HS
   go_wp2
   go_ret2
   exact uh HR
end Go.Proofs.YtfoojmflbifkpaaGreatDoor
