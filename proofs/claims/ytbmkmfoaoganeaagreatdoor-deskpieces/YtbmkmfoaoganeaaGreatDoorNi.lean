/- Texts of one proof, one behind the other. -/
import Derived.Test.YtbmkmfoaoganeaaGreatDoorNe
import Derived.Test.YtbmkmfoaoganeaaGreatDoorNf
import Derived.Test.YtbmkmfoaoganeaaGreatDoorNa
import Derived.Test.YtbmkmfoaoganeaaGreatDoorNh
import Derived.Deep.QuietTactic
import Derived.DeepKeys5
set_option maxRecDepth 100000
set_option maxHeartbeats 16000000
namespace Go.Proofs.YtbmkmfoaoganeaaGreatDoor
open Go.RowKit Go.Maps
def verV (v : Ver) : Value := .agg #[.int .i64 v.lo, .int .i64 v.hi, .string v.val, .int .i64 v.s0, .int .i64 v.s1]
def verD (lo hi : Int) (val : ByteArray) (s0 s1 : Int) : DataW Unit := .agg [.lit (.int .i64 lo), .lit (.int .i64 hi), .lit (.string val.data.toList), .lit (.int .i64 s0), .lit (.int .i64 s1)]
def verElem : Value -> Option (DataW Unit × List MemPlace)
 | .agg a => match a.toList with
  | [.int .i64 lo, .int .i64 hi, .string val, .int .i64 s0, .int .i64 s1] => some (verD lo hi val s0 s1, [])
  | _ => none
 | _ => none
theorem verElem_at {u : Value} {v : Ver} {ps : List MemPlace} (h : verElem u = some (verD v.lo v.hi v.val v.s0 v.s1, ps)) : u = verV v := by
 unfold verElem at h
 split at h
 ·rename_i a
  split at h
  ·rename_i lo hi val s0 s1 e
   have k := (Prod.mk.inj (Option.some.inj h)).1
   clear h
   cases a
   simp at e
   subst e
   unfold verD at k
   injection k with k
   injection k with h1 k
   injection k with h2 k
   injection k with h3 k
   injection k with h4 k
   injection k with h5 _
   injection h1 with h1; injection h1 with _ h1
   injection h2 with h2; injection h2 with _ h2
   injection h3 with h3; injection h3 with h3
   injection h4 with h4; injection h4 with _ h4
   injection h5 with h5; injection h5 with _ h5
   have h3' : val = v.val := ByteArray.ext (Array.toList_inj.1 h3)
   unfold verV
   rw [h1, h2, h3', h4, h5]
  ·cases h
 ·cases h
def zv : DataW Unit := verD 0 0 ByteArray.empty 0 0
theorem keyedV : Keyed Tryz.prog 3 := int_keyed Tryz.underlying3
def Ver.D (v : Ver) : DataW Unit := verD v.lo v.hi v.val v.s0 v.s1
structure KeysV (D : DataW Unit) (V : List Ver) : Prop where
 there : ∀ v, v ∈ V -> D.atKey (.int .i64 v.n) zv = v.D
 has : ∀ v, v ∈ V -> Maps.has D (.int .i64 v.n) = true
 hasn : ∀ n, (∀ v, v ∈ V -> v.n ≠ n) -> Maps.has D (.int .i64 n) = false
 size : Maps.size D = V.length
theorem keysV_none : KeysV (.map []) [] := ⟨by simp, by simp, fun _ _ => rfl, rfl⟩
theorem KeysV.say {D : DataW Unit} {V : List Ver} (h : KeysV D V) (ht : Tidy D) {made lo hi now : Int} {val : ByteArray} (hn : ∀ v, v ∈ V -> v.n ≠ made) :
  KeysV (D.put (.int .i64 made) (verD lo hi val now 151)) (sayV V made lo hi val now) := by
 refine ⟨fun v hv => ?_, fun v hv => ?_, fun n hno => ?_, ?_⟩
 ·rcases mem_sayV.1 hv with hv | rfl
  ·rw [Maps.atKey_put_other (lit_ne (hn v hv))]
   exact h.there v hv
  ·exact Maps.atKey_put_same (k := .int .i64 made) ht.isMap trivial _ _
 ·rcases mem_sayV.1 hv with hv | rfl
  ·rw [Maps.has_put_other (lit_ne (hn v hv))]
   exact h.has v hv
  ·exact Maps.has_put_same (k := .int .i64 made) ht.isMap trivial _
 ·have h1 : made ≠ n := hno _ (mem_sayV.2 (.inr rfl))
  rw [Maps.has_put_other (lit_ne (fun q => h1 q.symm))]
  exact h.hasn n (fun v hv => hno v (mem_sayV.2 (.inl hv)))
 ·rw [Maps.size_put ht, h.hasn made hn]
  simp [sayV, h.size]
theorem KeysV.shut {D : DataW Unit} {V : List Ver} (h : KeysV D V) (ht : Tidy D) {made now : Int} (hL : V.Pairwise (fun a b => a.n < b.n)) {v : Ver} (hv : v ∈ V) (_hm : v.n < made) :
  KeysV (D.put (.int .i64 v.n) (verD v.lo v.hi v.val v.s0 now)) (shutV V v.n now) := by
 have one : ∀ u, u ∈ V -> u.n = v.n -> u = v := fun u hu e => by
  obtain ⟨i, hi, rfl⟩ := List.getElem_of_mem hu
  obtain ⟨j, hj, rfl⟩ := List.getElem_of_mem hv
  have hp := List.pairwise_iff_getElem.1 hL
  rcases Nat.lt_trichotomy i j with k | k | k
  ·have := hp i j hi hj k; omega
  ·subst k; rfl
  ·have := hp j i hj hi k; omega
 refine ⟨fun u hu => ?_, fun u hu => ?_, fun n hno => ?_, ?_⟩
 ·obtain ⟨x, hx, ⟨q, rfl⟩ | ⟨q, rfl⟩⟩ := mem_shutV hu
  ·rw [Maps.atKey_put_other (lit_ne q)]
   exact h.there _ hx
  ·obtain rfl := one x hx q
   exact Maps.atKey_put_same (k := .int .i64 x.n) ht.isMap trivial _ _
 ·obtain ⟨x, hx, ⟨q, rfl⟩ | ⟨q, rfl⟩⟩ := mem_shutV hu
  ·rw [Maps.has_put_other (lit_ne q)]
   exact h.has _ hx
  ·rw [show ({ x with s1 := now } : Ver).n = v.n from q]
   exact Maps.has_put_same (k := .int .i64 v.n) ht.isMap trivial _
 ·have h1 : v.n ≠ n := hno { v with s1 := now } (shutV_same hv rfl)
  rw [Maps.has_put_other (lit_ne (fun q => h1 q.symm))]
  refine h.hasn n (fun x hx => ?_)
  by_cases q : x.n = v.n
  ·rw [q]; exact h1
  ·exact hno x (shutV_other hx q)
 ·rw [Maps.size_put ht, h.has v hv]
  simp [shutV, h.size]
theorem KeysV.drop {D : DataW Unit} {V : List Ver} (h : KeysV D V) (ht : Tidy D) (hL : V.Pairwise (fun a b => a.n < b.n)) {v : Ver} (hv : v ∈ V) : KeysV (D.del (.int .i64 v.n)) (dropV V v.n) := by
 refine ⟨fun u hu => ?_, fun u hu => ?_, fun n hno => ?_, ?_⟩
 ·have := mem_dropV.1 hu
  rw [Maps.atKey_del_other (lit_ne this.2)]
  exact h.there u this.1
 ·have := mem_dropV.1 hu
  rw [Maps.has_del_other (lit_ne this.2)]
  exact h.has u this.1
 ·by_cases q : n = v.n
  ·subst q
   exact Maps.has_del_same
  ·rw [Maps.has_del_other (lit_ne q)]
   refine h.hasn n (fun x hx e => ?_)
   exact hno x (mem_dropV.2 ⟨hx, fun e' => q (e.symm.trans e')⟩) e
 ·have h1 := Maps.size_del (k := .int .i64 v.n) ht
  rw [h.has v hv, h.size] at h1
  have h2 := count_split (fun _ => true) v V hL hv
  simp only [Bool.true_and, if_true, List.countP_true] at h2
  have h3 : (dropV V v.n).length = V.countP (fun u => decide (u.n ≠ v.n)) := by
   unfold dropV
   rw [List.countP_eq_length_filter]
  simp only [if_true] at h1
  omega
structure LineX (w : World) (b m : Nat) (L : List Ent) (V : List Ver) (made : Int) (D : DataW Unit) (G F : Nat -> Prop) : Prop where
 tree : PT w b L G
 c0 : w.cell? ⟨b, 0, none⟩ = some (.map (some m))
 c3 : w.cell? ⟨b, 3, none⟩ = some (.int .i64 made)
 own : w.ownsMap Tryz.prog 3 verElem m V.length D
 keys : KeysV D V
 gm : ¬ G m
 fG : ∀ i, G i -> F i
 fm : F m
 lt : ∀ i, F i -> i < w.heap.size
def LineW (w : World) (b : Nat) (V : List Ver) (made : Int) (F : Nat -> Prop) : Prop := ∃ m D G, LineX w b m (openE V) V made D G F
def Grew (w : World) (F F' : Nat -> Prop) (w' : World) : Prop := (∀ i, F' i -> F i \/ w.heap.size <= i) /\ Keeps F w w'
def LineTurned (w : World) (b : Nat) (V' : List Ver) (made' : Int) (F : Nat -> Prop) (w' : World) : Prop := ∃ F', LineW w' b V' made' F' /\ Grew w F F' w'
theorem Grew.trans {a b c : World} {F F' F'' : Nat -> Prop} (h : Grew a F F' b) (k : Grew b F' F'' c) : Grew a F F'' c := by
 refine ⟨fun i hi => ?_, h.2.then k.2 (fun i hi q => ?_)⟩
 ·rcases k.1 i hi with q | q
  ·exact h.1 i q
  ·exact .inr (Nat.le_trans h.2.size q)
 ·rcases h.1 i q with r | r
  ·exact r
  ·omega
theorem Grew.below {a b c : World} {F F' : Nat -> Prop} (h : Below a.heap.size a b) (k : Grew b F F' c) : Grew a F F' c := by
 refine ⟨fun i hi => ?_, (Keeps.of_below F h zr).then k.2 (fun i _ q => q)⟩
 rcases k.1 i hi with q | q
 ·exact .inl q
 ·exact .inr (Nat.le_trans h.size q)
theorem Grew.of_below {a b : World} (F : Nat -> Prop) (h : Below a.heap.size a b) : Grew a F F b := ⟨fun _ h => .inl h, Keeps.of_below F h zr⟩
theorem PT.free {w : World} {B : Nat} {L : List Ent} {F : Nat -> Prop} (h : PT w B L F) (i : Nat) : w.frozen? ⟨B, i, none⟩ = false := by
 obtain ⟨mv, X, h⟩ := h
 exact h.f i
theorem PT.beside {w : World} {B : Nat} {L : List Ent} {F : Nat -> Prop} (h : PT w B L F) (i : Nat) (h1 : i ≠ 1) (h2 : i ≠ 2) (u : Value) : PT (w.setCell ⟨B, i, none⟩ u) B L F := by
 obtain ⟨mv, X, h⟩ := h
 have hk := keeps_set w B i u
 refine ⟨mv, X, ⟨?_, ?_, fun j => ?_, ?_, ?_, h.ordered, h.right, h.nodup, h.out, h.both, h.rising, h.len, h.fB, h.fm, h.fX, fun j hj => Nat.lt_of_lt_of_le (h.lt j hj) hk.size⟩⟩
 ·rw [zo _ _ _ _ (by simp <;> omega)]; exact h.c0
 ·rw [zo _ _ _ _ (by simp <;> omega)]; exact h.c1
 ·rw [World.frozen?_setCell]; exact h.f j
 ·rcases h.map with q | ⟨m, D, e, k1, k2⟩
  ·exact .inl q
  ·exact .inr ⟨m, D, e, ownsMap_keeps k1 hk (map_no_cells k1 h.c0), k2⟩
 ·refine h.lies.keeps hk (fun x hx => ?_)
  rw [items_link] at hx
  exact h.out x hx
theorem LineX.keeps {w w' : World} {b m : Nat} {L : List Ent} {V : List Ver} {made : Int} {D : DataW Unit} {G F H : Nat -> Prop} (h : LineX w b m L V made D G F) (hk : Keeps H w w') (hH : ∀ i, F i -> ¬ H i) : LineX w' b m L V made D G F := by
 have hb := h.tree.fB
 have hlt := h.tree.lt b hb
 exact ⟨h.tree.keeps hk (fun i hi => hH i (h.fG i hi)), (hk.cell (p := ⟨b, 0, none⟩) hlt (hH b (h.fG b hb))).trans h.c0, (hk.cell (p := ⟨b, 3, none⟩) hlt (hH b (h.fG b hb))).trans h.c3, ownsMap_keeps h.own hk (hH m h.fm), h.keys, h.gm, h.fG, h.fm, fun i hi => Nat.lt_of_lt_of_le (h.lt i hi) hk.size⟩
theorem LineX.below {w w' : World} {b m : Nat} {L : List Ent} {V : List Ver} {made : Int} {D : DataW Unit} {G F : Nat -> Prop} (h : LineX w b m L V made D G F) (hb : Below w.heap.size w w') : LineX w' b m L V made D G F :=
 h.keeps (Keeps.of_below (fun _ => False) hb zr) (fun _ _ h => h)
theorem LineW.keeps {w w' : World} {b : Nat} {V : List Ver} {made : Int} {F H : Nat -> Prop} (h : LineW w b V made F) (hk : Keeps H w w') (hH : ∀ i, F i -> ¬ H i) : LineW w' b V made F := by
 obtain ⟨m, D, G, h⟩ := h
 exact ⟨m, D, G, h.keeps hk hH⟩
theorem LineW.below {w w' : World} {b : Nat} {V : List Ver} {made : Int} {F : Nat -> Prop} (h : LineW w b V made F) (hb : Below w.heap.size w w') : LineW w' b V made F :=
 h.keeps (Keeps.of_below (fun _ => False) hb zr) (fun _ _ h => h)
theorem LineW.lt {w : World} {b : Nat} {V : List Ver} {made : Int} {F : Nat -> Prop} (h : LineW w b V made F) : ∀ i, F i -> i < w.heap.size := by
 obtain ⟨m, D, G, h⟩ := h
 exact h.lt
theorem LineW.fb {w : World} {b : Nat} {V : List Ver} {made : Int} {F : Nat -> Prop} (h : LineW w b V made F) : F b := by
 obtain ⟨m, D, G, h⟩ := h
 exact h.fG b h.tree.fB
theorem LineX.tree_to {w w' : World} {b m : Nat} {L L' : List Ent} {V : List Ver} {made : Int} {D : DataW Unit} {G F : Nat -> Prop} (h : LineX w b m L V made D G F) (ht : Turned w b L' G w') : ∃ G' F', LineX w' b m L' V made D G' F' /\ Grew w F F' w' := by
 obtain ⟨G', h1, h2, h3, h4⟩ := ht
 have hm := h.own.lt
 refine ⟨G', fun i => F i \/ G' i, ⟨h1, (h4 0 (by omega) (by omega)).trans h.c0, (h4 3 (by omega) (by omega)).trans h.c3, ownsMap_keeps h.own h3 h.gm, h.keys, fun q => ?_, fun i hi => .inr hi, .inl h.fm, fun i hi => ?_⟩, fun i hi => ?_, h3.mono (fun i _ hi => h.fG i hi)⟩
 ·rcases h2 m q with r | r
  ·exact h.gm r
  ·omega
 ·rcases hi with hi | hi
  ·exact Nat.lt_of_lt_of_le (h.lt i hi) h3.size
  ·exact h1.lt i hi
 ·rcases hi with hi | hi
  ·exact .inl hi
  ·rcases h2 i hi with r | r
   ·exact .inl (h.fG i r)
   ·exact .inr r
theorem LineX.map_to {w w' : World} {b m : Nat} {L : List Ent} {V V' : List Ver} {made : Int} {D D' : DataW Unit} {G F : Nat -> Prop} (h : LineX w b m L V made D G F) (ht : w.mapTurned w' m) {n : Nat} (ho : w'.ownsMap Tryz.prog 3 verElem m n D') (hk' : KeysV D' V') : LineX w' b m L V' made D' G F /\ Grew w F F w' := by
 have hk := turned_keeps ht
 have hb := h.tree.fB
 have hlt := h.tree.lt b hb
 have nb : ¬ b = m := fun e => h.gm (by rw [<- e]; exact hb)
 have := ownsMap_size ho
 rw [hk'.size] at this
 exact ⟨⟨h.tree.keeps hk (fun i hi e => h.gm (by rw [<- e]; exact hi)), (hk.cell (p := ⟨b, 0, none⟩) hlt nb).trans h.c0, (hk.cell (p := ⟨b, 3, none⟩) hlt nb).trans h.c3, this, hk', h.gm, h.fG, h.fm, fun i hi => Nat.lt_of_lt_of_le (h.lt i hi) hk.size⟩, fun _ h => .inl h, hk.mono (fun i _ e => by rw [e]; exact h.fm)⟩
theorem LineX.made_to {w : World} {b m : Nat} {L : List Ent} {V : List Ver} {made : Int} {D : DataW Unit} {G F : Nat -> Prop} (h : LineX w b m L V made D G F) (made' : Int) : LineX (w.setCell ⟨b, 3, none⟩ (.int .i64 made')) b m L V made' D G F /\ Grew w F F (w.setCell ⟨b, 3, none⟩ (.int .i64 made')) := by
 have hk := keeps_set w b 3 (.int .i64 made')
 have nb : ¬ m = b := fun e => h.gm (by rw [e]; exact h.tree.fB)
 refine ⟨⟨h.tree.beside 3 (by omega) (by omega) _, ?_, zs _ _ _ h.c3, ownsMap_keeps h.own hk nb, h.keys, h.gm, h.fG, h.fm, fun i hi => Nat.lt_of_lt_of_le (h.lt i hi) hk.size⟩, fun _ h => .inl h, hk.mono (fun i _ e => by rw [e]; exact h.fG b h.tree.fB)⟩
 rw [zo _ _ _ _ (by simp)]
 exact h.c0
theorem ents_rising {V : List Ver} (h : V.Pairwise (fun a b => a.n < b.n)) : Rising (V.map Ver.ent) := by
 unfold Rising
 rw [List.pairwise_map]
 exact h
theorem ents_say0 {V : List Ver} {made now lo hi : Int} {val : ByteArray} (h : V.Pairwise (fun a b => a.n < b.n)) (hn : ∀ v, v ∈ V -> v.n < made) (h0 : 0 <= made) (h1 : made <= 1048576) (hR : rightB lo hi = true) (hl : V.length < 4000) :
  addErr (V.map Ver.ent) ⟨made, lo, hi⟩ = 0 /\ addTo (V.map Ver.ent) ⟨made, lo, hi⟩ = (sayV V made lo hi val now).map Ver.ent := by
 obtain ⟨c1, c2, c3⟩ := comes (e := ⟨made, lo, hi⟩) (ents_rising h) (List.Perm.refl _) ⟨h0, h1⟩ hR (fun x hx => by
  obtain ⟨v, hv, rfl⟩ := List.mem_map.1 hx
  have := hn v hv
  show v.n ≠ made
  omega) (by rw [List.length_map]; exact hl)
 refine ⟨c1, rising_perm _ _ c2 ?_ ?_⟩
 ·refine ents_rising ?_
  unfold sayV
  rw [List.pairwise_append]
  refine ⟨h, by simp, fun a hx b hb => ?_⟩
  rw [List.mem_singleton] at hb
  subst hb
  exact hn a hx
 ·unfold sayV
  rw [List.map_append]
  exact c3.trans (List.perm_append_singleton _ _).symm
theorem dropV_perm {v : Ver} : ∀ {V : List Ver}, V.Pairwise (fun a b => a.n < b.n) -> v ∈ V -> V.Perm (v :: dropV V v.n)
 | [], _, h => by cases h
 | a :: V, hr, h => by
  have h1 : ∀ b, b ∈ V -> a.n < b.n := fun b hb => List.rel_of_pairwise_cons hr hb
  by_cases e : a.n = v.n
  ·have ev : v = a := by
    rcases List.mem_cons.1 h with q | q
    ·exact q
    ·have := h1 v q; omega
   subst ev
   have : dropV (v :: V) v.n = V := by
    unfold dropV
    rw [List.filter_cons_of_neg (by simp)]
    refine List.filter_eq_self.2 fun b hb => ?_
    have := h1 b hb
    exact decide_eq_true (by omega)
   rw [this]
  ·have hv : v ∈ V := by
    rcases List.mem_cons.1 h with q | q
    ·subst q; exact absurd rfl e
    ·exact q
   have ih := dropV_perm (List.Pairwise.of_cons hr) hv
   have : dropV (a :: V) v.n = a :: dropV V v.n := by
    unfold dropV
    rw [List.filter_cons_of_pos (by simpa using e)]
   rw [this]
   exact (ih.cons a).trans (List.Perm.swap v a _)
theorem ents_drop0 {V : List Ver} {v : Ver} (h : V.Pairwise (fun a b => a.n < b.n)) (hv : v ∈ V) : dropErr (V.map Ver.ent) v.n = 0 /\ dropTo (V.map Ver.ent) v.n = (dropV V v.n).map Ver.ent := by
 obtain ⟨c1, c2, c3⟩ := goes (e := v.ent) (S := (dropV V v.n).map Ver.ent) (ents_rising h) (by
  have := (dropV_perm h hv).map Ver.ent
  rw [List.map_cons] at this
  exact this)
 exact ⟨c1, rising_perm _ _ c2 (ents_rising (List.Pairwise.sublist List.filter_sublist h)) c3⟩
theorem ents_say {V : List Ver} {made now lo hi : Int} {val : ByteArray} (h : V.Pairwise (fun a b => a.n < b.n)) (hn : ∀ v, v ∈ V -> v.n < made) (h0 : 0 <= made) (h1 : made <= 1048576) (hR : rightB lo hi = true) (hl : V.length < 4000) :
  addErr (openE V) ⟨made, lo, hi⟩ = 0 /\ addTo (openE V) ⟨made, lo, hi⟩ = openE (sayV V made lo hi val now) := by
 unfold openE
 rw [openV_say]
 exact ents_say0 (openV_rising h) (fun v hv => hn v (mem_openV.1 hv).1) h0 h1 hR (by have := openV_len V; omega)
theorem ents_drop {V : List Ver} {v : Ver} {now : Int} (h : V.Pairwise (fun a b => a.n < b.n)) (hv : v ∈ V) (ho : v.s1 = 151) (h0 : now <= 150) : dropErr (openE V) v.n = 0 /\ dropTo (openE V) v.n = openE (endV V v now) := by
 unfold openE
 rw [openV_end V v h0]
 exact ents_drop0 (openV_rising h) (mem_openV.2 ⟨hv, ho⟩)
theorem ents_gone {V : List Ver} {v : Ver} (hL : ∀ u, u ∈ V -> u.n = v.n -> u = v) (ho : v.s1 ≠ 151) : openE (dropV V v.n) = openE V := by
 unfold openE
 rw [openV_gone hL ho]
theorem LineX.box {w : World} {b m : Nat} {L : List Ent} {V : List Ver} {made : Int} {D : DataW Unit} {G F : Nat -> Prop} (h : LineX w b m L V made D G F) : ¬ F w.heap.size := fun q => Nat.lt_irrefl _ (h.lt _ q)
theorem line_say {V : List Ver} {b : Nat} {made now lo hi : Int} {val : ByteArray} {F : Nat -> Prop} {w : World} (h : LineW w b V made F) (hr : V.Pairwise (fun a b => a.n < b.n)) (hn : ∀ v, v ∈ V -> v.n < made) (h0 : 0 <= made) (h1 : made <= 10000) (hl : V.length < 4000) (hR : rightB lo hi = true) :
  Calls Tryz.prog 253 #[.pointer (some ⟨b, 0, none⟩), .agg #[.int .i64 lo, .int .i64 hi, .string val], .int .i64 now] w fun e w' => e = .returned (.tuple #[]) /\ LineTurned w b (sayV V made lo hi val now) (made + 1) F w' := by
 obtain ⟨m, D, G, hX⟩ := h
 have hw : (Lit.int .i64 made).wf = true := WalkArith.wf_i64 (by omega)
 have HB := zh (below_box w (.cells #[.int .i64 lo, .int .i64 hi, .string val] 107))
 have HE := zh (ents_say (val := val) (now := now) hr hn h0 (by omega) hR hl)
 have HK := zh (fun (ht : Tidy D) => hX.keys.say (made := made) (lo := lo) (hi := hi) (val := val) (now := now) ht (fun v hv e => by have := hn v hv; omega))
 have HX := zh (hX.below (uh HB))
 have HN := zh hX.box
 have c3 := (uh HX).c3
 have b0 : (w.alloc (.cells #[.int .i64 lo, .int .i64 hi, .string val] 107)).cell? ⟨w.heap.size, 0, none⟩ = some (.int .i64 lo) := by simp
 have b1 : (w.alloc (.cells #[.int .i64 lo, .int .i64 hi, .string val] 107)).cell? ⟨w.heap.size, 1, none⟩ = some (.int .i64 hi) := by simp
 have b2 : (w.alloc (.cells #[.int .i64 lo, .int .i64 hi, .string val] 107)).cell? ⟨w.heap.size, 2, none⟩ = some (.string val) := by simp
 clear hX hr hn hR
 go_enter Tryz.func253, Tryz.ntmps253
 go_wp2
 generalize hW0 : w.alloc (.cells #[.int .i64 lo, .int .i64 hi, .string val] 107) = W0 at *
 clear hW0
 refine wp_region_tail (fun x => x = W0.drew) 9 (by kernel_rfl) (by kernel_rfl) rfl (fun hHeld => ?_)
 refine takeH 0 (h := ?_)
 try simp only [Act.put, sI, sZ, sS]
 refine takeH 1 (h := ?_)
 try simp only [Act.put, sI, sZ, sS]
 refine takeH 2 (h := ?_)
 try simp only [Act.put, sI, sZ, sS]
 refine takeH 3 (h := ?_)
 try simp only [Act.put, sI, sZ, sS]
 refine takeH 4 (h := ?_)
 try simp only [Act.put, sI, sZ, sS]
 refine takeH 5 (h := ?_)
 try simp only [Act.put, sI, sZ, sS]
 refine takeH 6 (h := ?_)
 try simp only [Act.put, sI, sZ, sS]
 refine takeH 7 (h := ?_)
 try simp only [Act.put, sI, sZ, sS]
 refine takeH 8 (h := ?_)
 try simp only [Act.put, sI, sZ, sS]
 refine wpAnyH_done (by kernel_rfl) ?_ _
 show wpList _ _ _ _ _ _
 clear hHeld
 have HXd := zh ((uh HX).below (below_drew W0))
 have HBd := zh ((uh HB).trans ((below_drew W0).mono (uh HB).size))
 go_wp2_with fail
 refine (tree_Add _ b G made lo hi _ (uh HXd).tree).mono ?_
 rintro e W1 ⟨rfl, ht⟩
 rw [(uh HE).2] at ht
 obtain ⟨G1, F1, x1, g1⟩ := (uh HXd).tree_to ht
 have k0 := (g1.2.cell (p := ⟨w.heap.size, 0, none⟩) (lt_of_cell b0) (uh HN)).trans b0
 have k1 := (g1.2.cell (p := ⟨w.heap.size, 1, none⟩) (lt_of_cell b1) (uh HN)).trans b1
 have k2 := (g1.2.cell (p := ⟨w.heap.size, 2, none⟩) (lt_of_cell b2) (uh HN)).trans b2
 have HX1 := zh x1
 have HG1 := zh (Grew.below (uh HBd) g1)
 have d0 := x1.c0
 have d3 := x1.c3
 clear ht x1 g1 HX HXd b0 b1 b2 c3 HN HB HBd
 go_wp2
 refine wp_region_tail (fun x => x = W1.drew) 12 (by kernel_rfl) (by kernel_rfl) rfl (fun hHeld => ?_)
 refine takeH 0 (h := ?_)
 try simp only [Act.put, sI, sZ, sS]
 refine takeH 1 (h := ?_)
 try simp only [Act.put, sI, sZ, sS]
 refine takeH 2 (h := ?_)
 try simp only [Act.put, sI, sZ, sS]
 refine takeH 3 (h := ?_)
 try simp only [Act.put, sI, sZ, sS]
 refine takeH 4 (h := ?_)
 try simp only [Act.put, sI, sZ, sS]
 refine takeH 5 (h := ?_)
 try simp only [Act.put, sI, sZ, sS]
 refine takeH 6 (h := ?_)
 try simp only [Act.put, sI, sZ, sS]
 refine takeH 7 (h := ?_)
 try simp only [Act.put, sI, sZ, sS]
 refine takeH 8 (h := ?_)
 try simp only [Act.put, sI, sZ, sS]
 refine takeH 9 (h := ?_)
 try simp only [Act.put, sI, sZ, sS]
 refine takeH 10 (h := ?_)
 try simp only [Act.put, sI, sZ, sS]
 refine takeH 11 (h := ?_)
 try simp only [Act.put, sI, sZ, sS]
 refine wpAnyH_done (by kernel_rfl) ?_ _
 show wpList _ _ _ _ _ _
 clear hHeld
 have HX2 := zh ((uh HX1).below (below_drew W1))
 have HG2 := zh ((uh HG1).trans (Grew.of_below F1 (below_drew W1)))
 clear HX1 HG1 d0 d3 k0 k1 k2
 refine wpList_mapUpdate_in _ rfl _ _ _ 199 rfl 3 207 keyedV Tryz.underlying199 verElem m V.length D rfl (uh HX2).own (by unfold maxLen; omega) _ _ _ rfl rfl (keyOf_int_mk Tryz.underlying3 hw) (verD lo hi val now 151) [] rfl ?_
 intro W2 own2 turn2
 have H3 := zh ((uh HX2).map_to turn2 own2 (uh HK ((uh HX2).own.tidy keyedV)))
 have d3 := (uh H3).1.c3
 have f3 := (uh H3).1.tree.free 3
 clear own2 turn2
 go_wp2
 have HL : Hid (LineTurned w b (sayV V made lo hi val now) (made + 1) F (W2.setCell ⟨b, 3, none⟩ (.int .i64 (made + 1)))) := ⟨F1, ⟨_, _, _, ((uh H3).1.made_to (made + 1)).1⟩, ((uh HG2).trans (uh H3).2).trans ((uh H3).1.made_to (made + 1)).2⟩
 (try simp only [Exit.inBlock, Exit.then])
 refine bodyPost_end (results_none rfl _ _ _) rfl ?_
 exact ⟨rfl, uh HL⟩
section
variable (w : World) {ops : Array Oper} {rest : List Oper} {o : Oper} {a : Act} {Q : Exit -> Act -> World -> Prop}
theorem wpList_look_ver (hg : o.guard = none) (m x : Operand) (hop : o.op = Op.lookup 199 m x false) (mv key v : Value) (hm : a.eval m = mv) (hx : a.eval x = key) (hr : (Instr.lookup 199 mv key false).run Tryz.prog w = .ok v w)
  (hK : wpList Tryz.prog ops Q rest (a.put o.dst v) w) : wpList Tryz.prog ops Q (o :: rest) a w := by
 refine wpList_plain hg fun K' hK' => ?_
 unfold Oper.wp
 simp [execOp, hop, hm, hx, hr, Result.andThen]
 exact hK' _ _ hK
end
theorem LineX.look {w : World} {b m : Nat} {L : List Ent} {V : List Ver} {made : Int} {D : DataW Unit} {G F : Nat -> Prop} (h : LineX w b m L V made D G F) {v : Ver} (hv : v ∈ V) (hw : (Lit.int .i64 v.n).wf = true) :
  (Instr.lookup 199 (.map (some m)) (.int .i64 v.n) false).run Tryz.prog w = .ok (verV v) w := by
 obtain ⟨u, ps, hr, hu⟩ := h.own.lookup keyedV Tryz.underlying199 (Tryz.zeroValue207 w) (zd := zv) (zp := []) rfl (keyOf_int_mk Tryz.underlying3 hw)
 rw [h.keys.there v hv] at hu
 rw [hr, verElem_at hu]
theorem own_nums {w : World} {base : Nat} {v : Value} {l : List Int} (h : w.ownsRow base 3 1 v l.length (l.map (Value.int .i64))) : ∃ g ad c, v = .slice ad l.length c /\ ∀ j, (hj : j < l.length) -> ad = some ⟨g, 0, none⟩ /\ base <= g /\ w.cell? ⟨g, j, none⟩ = some (.int .i64 l[j]) := by
 obtain ⟨_, h2⟩ := h
 rcases h2 with ⟨h2, h3⟩ | ⟨g, cap, cur, hv, hg, hh, h3, h4, h5, h6⟩
 ·exact ⟨0, none, 0, by rw [h2, h3], fun j hj => by omega⟩
 ·refine ⟨g, _, cap, hv, fun j hj => ⟨rfl, hg, ?_⟩⟩
  have hc : cur.toList[j]? = some (.int .i64 l[j]) := by
   rw [<- List.getElem?_take_of_lt (show j < l.length * 1 by omega), h6, List.getElem?_map, List.getElem?_eq_getElem hj]; rfl
  unfold World.cell?
  simp only [hh]
  rw [<- Array.getElem?_toList]
  exact hc
theorem encs_at : ∀ (l : List (Int × Int)) (j : Nat) (h : j < l.length), (encs l)[j * 2]? = some (.int .i64 l[j].1) /\ (encs l)[j * 2 + 1]? = some (.int .i64 l[j].2)
 | e :: l, 0, _ => ⟨rfl, rfl⟩
 | e :: l, j + 1, h => by
  have := encs_at l j (by simpa using h)
  have e1 : (j + 1) * 2 = j * 2 + 1 + 1 := by omega
  rw [e1]
  simpa [encs] using this
theorem own_spans {w : World} {base : Nat} {v : Value} {l : List (Int × Int)} (h : w.ownsRow base 79 2 v l.length (encs l)) : ∃ g ad c, v = .slice ad l.length c /\ ∀ j, (hj : j < l.length) -> ad = some ⟨g, 0, none⟩ /\ base <= g /\ w.cell? ⟨g, j * 2, none⟩ = some (.int .i64 l[j].1) /\ w.cell? ⟨g, j * 2 + 1, none⟩ = some (.int .i64 l[j].2) := by
 obtain ⟨_, h2⟩ := h
 rcases h2 with ⟨h2, h3⟩ | ⟨g, cap, cur, hv, hg, hh, h3, h4, h5, h6⟩
 ·exact ⟨0, none, 0, by rw [h2, h3], fun j hj => by omega⟩
 ·refine ⟨g, _, cap, hv, fun j hj => ⟨rfl, hg, ?_⟩⟩
  have hc0 : cur.toList[j * 2]? = some (.int .i64 l[j].1) := by
   rw [<- List.getElem?_take_of_lt (show j * 2 < l.length * 2 by omega), h6]; exact (encs_at l j hj).1
  have hc1 : cur.toList[j * 2 + 1]? = some (.int .i64 l[j].2) := by
   rw [<- List.getElem?_take_of_lt (show j * 2 + 1 < l.length * 2 by omega), h6]; exact (encs_at l j hj).2
  unfold World.cell?
  simp only [hh]
  rw [<- Array.getElem?_toList, <- Array.getElem?_toList]
  exact ⟨hc0, hc1⟩
theorem drop_shut (V : List Ver) (n now : Int) : dropV (shutV V n now) n = dropV V n := by
 unfold dropV shutV
 rw [List.filter_map]
 have : ((fun v : Ver => decide (v.n ≠ n)) ∘ fun v => if v.n = n then { v with s1 := now } else v) = fun v => decide (v.n ≠ n) := by
  funext v
  show decide ((if v.n = n then { v with s1 := now } else v : Ver).n ≠ n) = _
  split <;> rfl
 rw [this]
 refine (List.map_congr_left fun v hv => ?_).trans (List.map_id _)
 have := of_decide_eq_true (List.mem_filter.1 hv).2
 rw [if_neg this]
 rfl
theorem shut_rising {V : List Ver} (n now : Int) (h : V.Pairwise (fun a b => a.n < b.n)) : (shutV V n now).Pairwise (fun a b => a.n < b.n) := by
 unfold shutV
 rw [List.pairwise_map]
 refine h.imp (fun {a b} q => ?_)
 have e : ∀ v : Ver, (if v.n = n then { v with s1 := now } else v : Ver).n = v.n := fun v => by split <;> rfl
 rw [e, e]
 exact q
def EndSays (w : World) (b : Nat) (made lo hi now known : Int) (S : Int -> Int -> ByteArray) (F : Nat -> Prop) (e : Ending) (w' : World) : Prop :=
 e = .returned (.tuple #[]) /\ ∃ V' made', LineTurned w b V' made' F w' /\ LineOk V' made' now /\ Tells V' known now (fun c t => if c = now /\ lo <= t /\ t < hi then ByteArray.empty else S c t) /\ 0 <= made' /\ made' <= made + 2 /\ ∀ u, u ∈ V' -> u.s1 = 151 -> ∀ t, u.has t -> ¬ (lo <= t /\ t < hi)
theorem line_end {V : List Ver} {b : Nat} {made now lo hi known : Int} {S : Int -> Int -> ByteArray} {F : Nat -> Prop} {w : World} (h : LineW w b V made F) (hO : LineOk V made now) (hT : Tells V known now S) (h0 : 0 <= made) (h1 : made <= 3700) (hR : rightB lo hi = true) (hn1 : 1 <= now) (hn2 : now <= 150) (hk : known <= now) :
  Calls Tryz.prog 252 #[.pointer (some ⟨b, 0, none⟩), .agg #[.int .i64 lo, .int .i64 hi], .int .i64 now] w (EndSays w b made lo hi now known S F) := by
 have HI := zh (EndI.start hO h0 hT hn2 hR)
 have HN : Hid ((meetsT (openE V) lo hi).Pairwise (· < ·)) := by
  unfold Hid meetsT
  rw [if_pos hR]
  exact met_rises _ (ents_rising (openV_rising hO.rising)) _
 have hlen : (meetsT (openE V) lo hi).length <= 4000 := by
  have h2 := hO.len
  have h3 := openV_len V
  unfold meetsT
  rw [if_pos hR, List.length_map]
  have := List.length_filter_le (meetB lo hi) (openE V)
  unfold openE at this ⊢
  rw [List.length_map] at this
  omega
 have HB := zh (below_box w (.cells #[.int .i64 lo, .int .i64 hi] 79))
 have HL := zh ((h.below (uh HB)).below (below_drew _))
 have HFl := zh h.lt
 have b0 : (w.alloc (.cells #[.int .i64 lo, .int .i64 hi] 79)).drew.cell? ⟨w.heap.size, 0, none⟩ = some (.int .i64 lo) := by simp
 have b1 : (w.alloc (.cells #[.int .i64 lo, .int .i64 hi] 79)).drew.cell? ⟨w.heap.size, 1, none⟩ = some (.int .i64 hi) := by simp
 have HB0 : Hid (Below w.heap.size w (w.alloc (.cells #[.int .i64 lo, .int .i64 hi] 79)).drew /\ w.heap.size < (w.alloc (.cells #[.int .i64 lo, .int .i64 hi] 79)).drew.heap.size) := ⟨below_alloc_drew w _, by show w.heap.size < (w.alloc _).heap.size; simp⟩
 clear h hO hT
 obtain ⟨mm, DD, GG, hXX⟩ := uh HL
 have HTr := zh (fun lo hi => tree_Meets _ b GG lo hi _ hXX.tree)
 clear hXX
 go_enter Tryz.func252, Tryz.ntmps252
 go_wp2
 go_region_held3 (fun x => x.cell? ⟨w.heap.size, 0, none⟩ = some (.int .i64 lo) /\ x.cell? ⟨w.heap.size, 1, none⟩ = some (.int .i64 hi))
  (first | exact hs1 | exact ⟨b0, b1⟩)
  (first | (go_at_call 266; refine (uh HTr _ _).mono ?_; rintro e W1 ⟨v, rfl, ho, hb⟩; have hs1 : W1.cell? ⟨w.heap.size, 0, none⟩ = some (.int .i64 lo) /\ W1.cell? ⟨w.heap.size, 1, none⟩ = some (.int .i64 hi) := ⟨(hb.cell (p := ⟨w.heap.size, 0, none⟩) (lt_of_cell b0)).trans b0, (hb.cell (p := ⟨w.heap.size, 1, none⟩) (lt_of_cell b1)).trans b1⟩; obtain ⟨g, ad, c, rfl, hf⟩ := own_nums ho))
 rename_i hh
 have HS1 := zh hs1
 have HL1 := zh ((uh HL).below hb)
 have HB1 := zh ((uh HB0).1.trans (hb.mono (uh HB0).1.size))
 have HF1 := zh hf
 have hsz : w.heap.size < W1.heap.size := Nat.lt_of_lt_of_le (uh HB0).2 hb.size
 have HSZ : Hid ((w.alloc (.cells #[.int .i64 lo, .int .i64 hi] 79)).drew.heap.size <= W1.heap.size /\ w.heap.size < (w.alloc (.cells #[.int .i64 lo, .int .i64 hi] 79)).drew.heap.size) := ⟨hb.size, (uh HB0).2⟩
 have HNg : Hid (∀ j, j < (meetsT (openE V) lo hi).length -> ¬ F g) := fun j hj q => by
  have h2 := (hf j hj).2.1
  have h3 := uh HFl g q
  have h4 := (uh HB0).2
  omega
 have HNb : Hid (¬ F w.heap.size) := fun q => Nat.lt_irrefl _ (uh HFl _ q)
 clear hh hs1 hb hf ho HTr HB0 HB HL b0 b1
 generalize meetsT (openE V) lo hi = N at *
 go_wp2
 go_loopw [17] (fun i x => ∃ (k : Nat) (V' : List Ver) (made' : Int) (F' : Nat -> Prop), k <= N.length /\ i = .int .i64 k /\ EndI made N lo hi now known S k V' made' /\ LineW x b V' made' F' /\ Grew W1 F F' x) (fun i _ => N.length - (intOf i).toNat)
 case atStart => exact ⟨0, V, made, F, Nat.zero_le _, rfl, uh HI, uh HL1, Grew.of_below F (Below.refl _ _)⟩
 case round =>
  clear HI HL1
  revert wr
  intro wo hrel
  obtain ⟨k, V', made', F', hkl, rfl, hI, hL, hG⟩ := hrel
  have HI := zh hI
  have HL := zh hL
  have HG := zh hG
  clear hI hL hG
  by_cases hlt : k < N.length
  ·have hlt' : (k : Int) < (N.length : Int) := by omega
   have hk0 : (0 : Int) <= (k : Int) := by omega
   obtain ⟨hag, hgb, hgc⟩ := uh HF1 k hlt
   subst hag
   have cn := ((uh HG).2.cell (p := ⟨g, k, none⟩) (lt_of_cell hgc) (uh HNg k hlt)).trans hgc
   obtain ⟨v, hv, hvn, ho, hvM⟩ := (uh HI).there N[k] (by rw [<- List.getElem_cons_drop hlt]; exact List.mem_cons_self)
   obtain ⟨m, D, G, hX⟩ := uh HL
   have hvw := (uh HI).ok.num v hv
   have hmd := (uh HI).made
   have hw : (Lit.int .i64 v.n).wf = true := WalkArith.wf_i64 (by omega)
   rw [<- hvn] at cn
   have HTd := zh (tree_Drop _ b G v.n _ hX.tree hw)
   have HE := zh (ents_drop (now := now) (uh HI).ok.rising hv ho hn2)
   have HX0 := zh hX
   have HV := zh hv
   have HVN := zh hvn
   have HVM := zh hvM
   have HMD := zh hmd
   clear hX hv hvn hvM hgc hgb hmd
   go_wp2_with fail
   refine (uh HTd).mono ?_
   rintro e Wd ⟨rfl, ht⟩
   rw [(uh HE).2] at ht
   obtain ⟨Gd, Fd, xd, gd⟩ := (uh HX0).tree_to ht
   have HX := zh xd
   have HGd := zh ((uh HG).trans gd)
   clear ht xd gd HTd HE HX0 HG cn
   have hlk : (Instr.lookup 199 (.map (some m)) (.int .i64 v.n) false).run Tryz.prog Wd = .ok (.agg #[.int .i64 v.lo, .int .i64 v.hi, .string v.val, .int .i64 v.s0, .int .i64 v.s1]) Wd := (uh HX).look (uh HV) hw
   have c0 := (uh HX).c0
   have HNo : Hid (¬ Fd Wd.heap.size) := fun q => Nat.lt_irrefl _ ((uh HX).lt _ q)
   have hmlt : m < Wd.heap.size := (uh HX).own.lt
   have HNs : Hid (¬ Fd w.heap.size) := fun q => by
    rcases (uh HGd).1 _ q with r | r
    ·exact uh HNb r
    ·omega
   have hswo : w.heap.size < Wd.heap.size := Nat.lt_of_lt_of_le hsz (uh HGd).2.size
   have HSo : Hid (Wd.cell? ⟨w.heap.size, 0, none⟩ = some (.int .i64 lo) /\ Wd.cell? ⟨w.heap.size, 1, none⟩ = some (.int .i64 hi)) := ⟨((uh HGd).2.cell (p := ⟨w.heap.size, 0, none⟩) hsz (uh HNb)).trans (uh HS1).1, ((uh HGd).2.cell (p := ⟨w.heap.size, 1, none⟩) hsz (uh HNb)).trans (uh HS1).2⟩
   go_wp2_with (at_lookup; refine wpList_look_ver _ rfl _ _ rfl _ _ _ rfl rfl hlk ?_)
   have HBn := zh (below_box Wd (.cells #[.int .i64 v.lo, .int .i64 v.hi, .string v.val, .int .i64 v.s0, .int .i64 now] 207))
   have p0 : (Wd.alloc (.cells #[.int .i64 v.lo, .int .i64 v.hi, .string v.val, .int .i64 v.s0, .int .i64 now] 207)).cell? ⟨Wd.heap.size, 0, none⟩ = some (.int .i64 v.lo) := by simp
   have p1 : (Wd.alloc (.cells #[.int .i64 v.lo, .int .i64 v.hi, .string v.val, .int .i64 v.s0, .int .i64 now] 207)).cell? ⟨Wd.heap.size, 1, none⟩ = some (.int .i64 v.hi) := by simp
   have p2 : (Wd.alloc (.cells #[.int .i64 v.lo, .int .i64 v.hi, .string v.val, .int .i64 v.s0, .int .i64 now] 207)).cell? ⟨Wd.heap.size, 2, none⟩ = some (.string v.val) := by simp
   have p3 : (Wd.alloc (.cells #[.int .i64 v.lo, .int .i64 v.hi, .string v.val, .int .i64 v.s0, .int .i64 now] 207)).cell? ⟨Wd.heap.size, 3, none⟩ = some (.int .i64 v.s0) := by simp
   have p4 : (Wd.alloc (.cells #[.int .i64 v.lo, .int .i64 v.hi, .string v.val, .int .i64 v.s0, .int .i64 now] 207)).cell? ⟨Wd.heap.size, 4, none⟩ = some (.int .i64 now) := by simp
   have HX2 := zh ((uh HX).below (uh HBn))
   have e0 := (uh HX2).c0
   clear c0 hlk
   generalize Wd.alloc (.cells #[.int .i64 v.lo, .int .i64 v.hi, .string v.val, .int .i64 v.s0, .int .i64 now] 207) = W2 at *
   refine wp_region_tail (fun x => x = W2.drew) 6 (by kernel_rfl) (by kernel_rfl) rfl (fun hHeld => ?_)
   refine takeH 0 (h := ?_)
   try simp only [Act.put, sI, sZ, sS]
   refine takeH 1 (h := ?_)
   try simp only [Act.put, sI, sZ, sS]
   refine takeH 2 (h := ?_)
   try simp only [Act.put, sI, sZ, sS]
   refine takeH 3 (h := ?_)
   try simp only [Act.put, sI, sZ, sS]
   refine takeH 4 (h := ?_)
   try simp only [Act.put, sI, sZ, sS]
   refine takeH 5 (h := ?_)
   try simp only [Act.put, sI, sZ, sS]
   refine wpAnyH_done (by kernel_rfl) ?_ _
   show wpList _ _ _ _ _ _
   clear hHeld e0
   have hVl : V'.length <= 4000 := by
    have q1 := (uh HI).ok.len
    have q2 := uh HMD
    omega
   refine wpList_mapUpdate_in _ rfl _ _ _ 199 rfl 3 207 keyedV Tryz.underlying199 verElem m V'.length D rfl ((uh HX2).below (below_drew W2)).own (by unfold maxLen; omega) _ _ _ rfl rfl (keyOf_int_mk Tryz.underlying3 hw) (verD v.lo v.hi v.val v.s0 now) [] rfl ?_
   intro W3 own3 turn3
   obtain ⟨x3, g3⟩ := ((uh HX2).below (below_drew W2)).map_to turn3 own3 (((uh HX2).keys).shut ((uh HX2).own.tidy keyedV) (uh HI).ok.rising (uh HV) hvw.2)
   have HL3 := zh x3
   have hBW : Below Wd.heap.size Wd W2.drew := (uh HBn).trans ((below_drew W2).mono (uh HBn).size)
   have HG3 := zh (Grew.below hBW g3)
   have hsz2 : Wd.heap.size < W2.heap.size := lt_of_cell p0
   have k0 := (g3.2.cell (p := ⟨Wd.heap.size, 0, none⟩) hsz2 (uh HNo)).trans p0
   have k1 := (g3.2.cell (p := ⟨Wd.heap.size, 1, none⟩) hsz2 (uh HNo)).trans p1
   have k2 := (g3.2.cell (p := ⟨Wd.heap.size, 2, none⟩) hsz2 (uh HNo)).trans p2
   have k3 := (g3.2.cell (p := ⟨Wd.heap.size, 3, none⟩) hsz2 (uh HNo)).trans p3
   have s0 := ((uh HG3).2.cell (p := ⟨w.heap.size, 0, none⟩) hswo (uh HNs)).trans (uh HSo).1
   have s1 := ((uh HG3).2.cell (p := ⟨w.heap.size, 1, none⟩) hswo (uh HNs)).trans (uh HSo).2
   have hsz3 : Wd.heap.size < W3.heap.size := lt_of_cell k0
   clear own3 turn3 x3 g3 HX HX2 p0 p1 p2 p3 p4 hBW HBn HSo HL
   by_cases hs0 : v.s0 = now
   case' pos =>
    have HKd := zh ((uh HL3).keys.drop ((uh HL3).own.tidy keyedV) (shut_rising v.n now (uh HI).ok.rising) (shutV_same (uh HV) rfl))
    have d0 := (uh HL3).c0
    go_wp2_with (first | (at_delete; refine wpList_delete_own _ rfl _ _ 199 3 rfl 207 keyedV Tryz.underlying199 verElem m _ _ rfl (uh HL3).own _ _ rfl (keyOf_int_mk Tryz.underlying3 hw) ?_; intro W4 own4 turn4; obtain ⟨l4, g4⟩ := (uh HL3).map_to turn4 own4 (uh HKd); have j0 := (g4.2.cell (p := ⟨Wd.heap.size, 0, none⟩) hsz3 (uh HNo)).trans k0; have j1 := (g4.2.cell (p := ⟨Wd.heap.size, 1, none⟩) hsz3 (uh HNo)).trans k1; have j2 := (g4.2.cell (p := ⟨Wd.heap.size, 2, none⟩) hsz3 (uh HNo)).trans k2; have r0 := (g4.2.cell (p := ⟨w.heap.size, 0, none⟩) (lt_of_cell s0) (uh HNs)).trans s0; have r1 := (g4.2.cell (p := ⟨w.heap.size, 1, none⟩) (lt_of_cell s1) (uh HNs)).trans s1))
    obtain ⟨F4, hF4⟩ : ∃ F4, F4 = Fd := ⟨_, rfl⟩
    rw [<- hF4] at l4
    have HL4 : Hid (LineW W4 b (endV V' v now) made' F4) := by
     have e : endV V' v now = dropV (shutV V' v.n now) v.n := by
      unfold endV
      rw [if_pos hs0, drop_shut]
     rw [<- e] at l4
     exact ⟨_, _, _, l4⟩
    have HG4 : Hid (Grew Wd Fd F4 W4) := by rw [hF4]; exact (uh HG3).trans g4
    have HN4 : Hid (¬ F4 Wd.heap.size /\ ¬ F4 w.heap.size) := by rw [hF4]; exact ⟨uh HNo, uh HNs⟩
    clear HKd d0 own4 turn4 hF4 l4 g4 HL3 HG3 k0 k1 k2 k3 s0 s1
   case' neg =>
    obtain ⟨W4, hW4⟩ : ∃ W4, W4 = W3 := ⟨_, rfl⟩
    obtain ⟨F4, hF4⟩ : ∃ F4, F4 = Fd := ⟨_, rfl⟩
    have HL4 : Hid (LineW W4 b (endV V' v now) made' F4) := by
     rw [hW4, hF4]
     have x := uh HL3
     have e : endV V' v now = shutV V' v.n now := by
      unfold endV
      rw [if_neg hs0]
     rw [<- e] at x
     exact ⟨_, _, _, x⟩
    have HG4 : Hid (Grew Wd Fd F4 W4) := by rw [hW4, hF4]; exact uh HG3
    have HN4 : Hid (¬ F4 Wd.heap.size /\ ¬ F4 w.heap.size) := by rw [hF4]; exact ⟨uh HNo, uh HNs⟩
    rw [<- hW4] at k0 k1 k2 k3 s0 s1
    rw [<- hW4]
    have j0 := k0
    have j1 := k1
    have j2 := k2
    have j3 := k3
    have r0 := s0
    have r1 := s1
    clear HL3 HG3 k0 k1 k2 k3 s0 s1 hW4 hF4
   all_goals
    have HLs := zh (span_Less v.lo v.hi lo hi W4)
    (try go_wp2_with fail)
    refine (uh HLs).mono ?_
    rintro e W5 ⟨sv, rfl, hso, hb5⟩
    rw [less_is v.lo v.hi lo hi (of_decide_eq_true (uh HVM))] at hso
    obtain ⟨g2, ad2, c2, rfl, hf2⟩ := own_spans hso
    have HL5 := zh ((uh HL4).below hb5)
    have HG5 := zh ((uh HG4).trans (Grew.of_below F4 hb5))
    have hsz4 : Wd.heap.size < W4.heap.size := lt_of_cell j0
    have j2' := (hb5.cell (p := ⟨Wd.heap.size, 2, none⟩) hsz4).trans j2
    have HF2 := zh hf2
    have HNg2 : Hid (∀ j, j < (lessL v.lo v.hi lo hi).length -> ¬ F4 g2) := fun j hj q => by
     have q1 := (hf2 j hj).2.1
     have q2 := (uh HL4).lt _ q
     omega
    have HRo := zh (fun j => rest_ok (uh HI).ok (uh HI).m0 (uh HV) ho hn2 hn1 hR (uh HVM) j)
    have hR2 : (lessL v.lo v.hi lo hi).length <= 2 := by
     unfold lessL
     rw [List.length_append]
     split <;> split <;> simp
    have HRr := zh (rest_facts (uh HI).ok (uh HV) ho hn2 hR (uh HVM)).1
    have HJ2 := zh j2'
    have HSt := zh ((uh HI).step (uh HN) hlt (uh HV) (uh HVN) ho (uh HVM) hR hn2 hn1 hk)
    clear hso hb5 hf2 HLs j0 j1 j2 j2' r0 r1 HL4 HG4
    have HES : Hid (endStep V' made' v lo hi now = sayAll v.val now (lessL v.lo v.hi lo hi) (endV V' v now, made')) := rfl
    generalize lessL v.lo v.hi lo hi = R at *
    go_wp2
    go_loopw [57] (fun i x => ∃ (j : Nat) (F5 : Nat -> Prop), j <= R.length /\ i = .int .i64 j /\ LineW x b (sayAll v.val now (R.take j) (endV V' v now, made')).1 (sayAll v.val now (R.take j) (endV V' v now, made')).2 F5 /\ Grew W5 F4 F5 x) (fun i _ => R.length - (intOf i).toNat)
    case atStart => exact ⟨0, F4, Nat.zero_le _, rfl, uh HL5, Grew.of_below F4 (Below.refl _ _)⟩
    case round =>
     clear HL5
     obtain ⟨j, F5, hj, rfl, hL, hG⟩ := hrel
     have HL := zh hL
     have HGr := zh hG
     clear hL hG
     by_cases hjl : j < R.length
     ·have hjl' : (j : Int) < (R.length : Int) := by omega
      have hj0 : (0 : Int) <= (j : Int) := by omega
      obtain ⟨had, hgb, q0, q1⟩ := uh HF2 j hjl
      subst had
      have z0 := ((uh HGr).2.cell (p := ⟨g2, j * 2, none⟩) (lt_of_cell q0) (uh HNg2 j hjl)).trans q0
      have z1 := ((uh HGr).2.cell (p := ⟨g2, j * 2 + 1, none⟩) (lt_of_cell q1) (uh HNg2 j hjl)).trans q1
      have HBx := zh (below_box wr (.cells #[.int .i64 R[j].1, .int .i64 R[j].2] 79))
      have z2 := ((uh HBx).cell (p := ⟨Wd.heap.size, 2, none⟩) (Nat.lt_of_lt_of_le (lt_of_cell (uh HJ2)) (uh HGr).2.size)).trans (((uh HGr).2.cell (p := ⟨Wd.heap.size, 2, none⟩) (lt_of_cell (uh HJ2)) (uh HN4).1).trans (uh HJ2))
      have hok := uh HRo j
      have hmd := sayAll_made v.val now (R.take j) (endV V' v now, made')
      have htl : (R.take j).length = j := by rw [List.length_take]; omega
      have HSn : Hid (sayAll v.val now (R.take (j + 1)) (endV V' v now, made') = (sayV (sayAll v.val now (R.take j) (endV V' v now, made')).1 (sayAll v.val now (R.take j) (endV V' v now, made')).2 R[j].1 R[j].2 v.val now, (sayAll v.val now (R.take j) (endV V' v now, made')).2 + 1)) := by
       unfold Hid
       rw [List.take_succ_eq_append_getElem hjl, sayAll_snoc]
      have HSy := zh (line_say (now := now) (lo := R[j].1) (hi := R[j].2) (val := v.val) ((uh HL).below (uh HBx)) hok.rising (fun u hu => by
       have := (hok.num u hu).2
       rw [hmd]
       exact this) (by
       have := (uh HI).m0
       rw [hmd]
       dsimp only
       omega) (by
       have := uh HMD
       rw [hmd, htl]
       dsimp only
       omega) (by
       have q2 := hok.len
       have q3 := uh HMD
       rw [htl] at q2
       omega) (uh HRr _ (List.getElem_mem hjl)))
      clear hok hmd htl q0 q1 hgb
      go_wp2_with fail
      refine (uh HSy).mono ?_
      rintro e W7 ⟨rfl, F7, l7, g7⟩
      have HL7 : Hid (LineW W7 b (sayAll v.val now (R.take (j + 1)) (endV V' v now, made')).1 (sayAll v.val now (R.take (j + 1)) (endV V' v now, made')).2 F7) := by
       unfold Hid
       rw [uh HSn]
       exact l7
      have HG7 := zh (((uh HGr).trans (Grew.of_below F5 (uh HBx))).trans g7)
      clear l7 g7 HSy HSn z0 z1 z2 HL HGr HBx
      go_wp2
      go_roundw
      case rel => exact ⟨j + 1, F7, by omega, by go_num, uh HL7, uh HG7⟩
      case measure => simp [intOf]; omega
     ·have hjl' : ¬ (j : Int) < (R.length : Int) := by omega
      obtain rfl : j = R.length := by omega
      have HLf : Hid (LineW wr b (endStep V' made' v lo hi now).1 (endStep V' made' v lo hi now).2 F5) := by
       unfold Hid
       rw [uh HES]
       have := uh HL
       rw [List.take_length] at this
       exact this
      have HGf := zh (((uh HGd).trans (uh HG5)).trans (uh HGr))
      clear HL HGr HRo HRr HF2 HNg2 HES HG5
      go_wp2
      go_roundw
      case rel => exact ⟨k + 1, (endStep V' made' v lo hi now).1, (endStep V' made' v lo hi now).2, F5, by omega, by go_num, uh HSt, uh HLf, uh HGf⟩
      case measure => simp [intOf]; omega
  ·have hlt' : ¬ (k : Int) < (N.length : Int) := by omega
   obtain rfl : k = N.length := by omega
   obtain ⟨d1, d2, d3⟩ := (uh HI).done hn2
   have HD : Hid (EndSays w b made lo hi now known S F (.returned (.tuple #[])) wo) := ⟨rfl, V', made', ⟨F', uh HL, Grew.below (uh HB1) (uh HG)⟩, (uh HI).ok, d1, (uh HI).m0, d2, d3⟩
   clear d1 d2 d3 HI HL HG HN
   go_wp2
   (try simp only [Exit.inBlock, Exit.then])
   refine bodyPost_end (results_none rfl _ _ _) rfl ?_
   exact uh HD
end Go.Proofs.YtbmkmfoaoganeaaGreatDoor

namespace Go.Proofs.YtbmkmfoaoganeaaGreatDoor
open Go.RowKit Go.Maps
structure Ky where
 kind : Int
 a : Int
 word : ByteArray
 b : Int
def keyV (k : Ky) : Value := .agg #[.int .i64 k.kind, .int .i64 k.a, .string k.word, .int .i64 k.b]
def litK (k : Ky) : Lit := .string (keyBytes [.int .i64 k.kind, .int .i64 k.a, .string k.word.data.toList, .int .i64 k.b])
structure KyOk (k : Ky) : Prop where
 kind : (Lit.int .i64 k.kind).wf = true
 a : (Lit.int .i64 k.a).wf = true
 b : (Lit.int .i64 k.b).wf = true
 word : k.word.size <= maxLen
theorem laidOutK : laidOutB Tryz.prog = true := by kernel_rfl
theorem rowK : (73 : TypeId) < Tryz.prog.types.size := of_decide_eq_true (by kernel_rfl)
theorem wideK : (match Tryz.prog.underlying 73 with | some (.array _ _) | some (.struct _) => true | _ => false) = true := by kernel_rfl
theorem keyedK : Keyed Tryz.prog 73 := Keyed.of_law (deep_law_laid laidOutK (m := 3) (by omega) rowK (by kernel_rfl) wideK)
theorem cellsK : Tryz.prog.cellsOf 73 = 4 := by kernel_rfl
theorem typeK : Tryz.prog.keyType 73 = true := by kernel_rfl
theorem cellsI1 : Tryz.prog.cellsOf 3 = 1 := by kernel_rfl
theorem cellsS1 : Tryz.prog.cellsOf 9 = 1 := by kernel_rfl
theorem lits_int (d : Nat) (n : Int) (h : (Lit.int .i64 n).wf = true) : Tryz.prog.keyLits (d + 1) 3 [.int .i64 n] = some [.int .i64 n] := by
 unfold Program.keyLits
 rw [Tryz.underlying3]
 simp [h]
theorem lits_string (d : Nat) (s : ByteArray) (h : s.size <= maxLen) : Tryz.prog.keyLits (d + 1) 9 [.string s] = some [.string s.data.toList] := by
 unfold Program.keyLits
 rw [Tryz.underlying9]
 simp [h]
theorem lits_key (d : Nat) (k : Ky) (h : KyOk k) : Tryz.prog.keyLits (d + 2) 73 [.int .i64 k.kind, .int .i64 k.a, .string k.word, .int .i64 k.b] = some [.int .i64 k.kind, .int .i64 k.a, .string k.word.data.toList, .int .i64 k.b] := by
 unfold Program.keyLits
 rw [Tryz.underlying73]
 simp [cellsK, cellsI1, cellsS1, lits_int d _ h.kind, lits_int d _ h.a, lits_int d _ h.b, lits_string d _ h.word]
theorem keyOf_key (k : Ky) (h : KyOk k) : keyOf Tryz.prog 73 (keyV k) = some (litK k) := by
 have hl := lits_key (Tryz.prog.types.size - 1) k h
 have hs : Tryz.prog.types.size - 1 + 2 = Tryz.prog.types.size + 1 := by
  have : 0 < Tryz.prog.types.size := of_decide_eq_true (by kernel_rfl)
  omega
 rw [hs] at hl
 have hf : (keyV k).formed Tryz.prog 73 = true := by
  unfold keyV Value.formed
  rw [Tryz.underlying73]
  simp [cellsK]
 unfold keyOf
 rw [Tryz.underlying73]
 show (if (Tryz.prog.keyType 73 && (keyV k).formed Tryz.prog 73) = true then (Tryz.prog.keyLits (Tryz.prog.types.size + 1) 73 [.int .i64 k.kind, .int .i64 k.a, .string k.word, .int .i64 k.b]).map fun ls => Lit.string (keyBytes ls) else none) = some (litK k)
 rw [typeK, hf, hl]
 rfl
theorem keyV_inj {k l : Ky} (h : keyV k = keyV l) : k = l := by
 obtain ⟨k1, k2, k3, k4⟩ := k
 obtain ⟨l1, l2, l3, l4⟩ := l
 unfold keyV at h
 simp only [Value.agg.injEq, Array.mk.injEq, List.cons.injEq, Value.int.injEq, Value.string.injEq, true_and, and_true] at h
 obtain ⟨rfl, rfl, rfl, rfl⟩ := h
 rfl
theorem litK_ne {k l : Ky} (hk : KyOk k) (hl : KyOk l) (h : k ≠ l) : litK k ≠ litK l := fun e => h (keyV_inj (keyedK.inj (keyOf_key k hk) (by rw [e]; exact keyOf_key l hl)))
structure KeysL (D : DataW Unit) (X : List (Ky × Nat)) : Prop where
 ok : ∀ x, x ∈ X -> KyOk x.1
 there : ∀ x, x ∈ X -> D.atKey (litK x.1) zd = .lit (.int .i64 ((x.2 : Int) + 1))
 has : ∀ x, x ∈ X -> Maps.has D (litK x.1) = true
 hasn : ∀ k, KyOk k -> (∀ x, x ∈ X -> x.1 ≠ k) -> Maps.has D (litK k) = false
 size : Maps.size D = X.length
theorem keysL_none : KeysL (.map []) [] := ⟨by simp, by simp, by simp, fun _ _ _ => rfl, rfl⟩
theorem KeysL.add {D : DataW Unit} {X : List (Ky × Nat)} (h : KeysL D X) (ht : Tidy D) (k : Ky) (b : Nat) (hk : KyOk k) (hn : ∀ x, x ∈ X -> x.1 ≠ k) : KeysL (D.put (litK k) (.lit (.int .i64 ((b : Int) + 1)))) ((k, b) :: X) := by
 refine ⟨fun x hx => ?_, fun x hx => ?_, fun x hx => ?_, fun l hl hno => ?_, ?_⟩
 ·rcases List.mem_cons.1 hx with rfl | hx
  ·exact hk
  ·exact h.ok x hx
 ·rcases List.mem_cons.1 hx with rfl | hx
  ·exact Maps.atKey_put_same (k := litK k) ht.isMap trivial _ _
  ·rw [Maps.atKey_put_other (litK_ne (h.ok x hx) hk (hn x hx))]
   exact h.there x hx
 ·rcases List.mem_cons.1 hx with rfl | hx
  ·exact Maps.has_put_same (k := litK k) ht.isMap trivial _
  ·rw [Maps.has_put_other (litK_ne (h.ok x hx) hk (hn x hx))]
   exact h.has x hx
 ·have h1 : k ≠ l := hno (k, b) (by simp)
  rw [Maps.has_put_other (litK_ne hl hk (fun q => h1 q.symm))]
  exact h.hasn l hl (fun x hx => hno x (by simp [hx]))
 ·rw [Maps.size_put ht, h.hasn k hk hn]
  simp [h.size]
theorem KeysL.del {D : DataW Unit} {X Y : List (Ky × Nat)} (h : KeysL D X) (ht : Tidy D) (p : Ky × Nat) (hp : X.Perm (p :: Y)) (hn : ∀ x, x ∈ Y -> x.1 ≠ p.1) : KeysL (D.del (litK p.1)) Y := by
 have hm : ∀ x, x ∈ X ↔ x = p \/ x ∈ Y := fun x => by rw [hp.mem_iff, List.mem_cons]
 have hpo := h.ok p ((hm p).2 (.inl rfl))
 refine ⟨fun x hx => h.ok x ((hm x).2 (.inr hx)), fun x hx => ?_, fun x hx => ?_, fun l hl hno => ?_, ?_⟩
 ·rw [Maps.atKey_del_other (litK_ne (h.ok x ((hm x).2 (.inr hx))) hpo (hn x hx))]
  exact h.there x ((hm x).2 (.inr hx))
 ·rw [Maps.has_del_other (litK_ne (h.ok x ((hm x).2 (.inr hx))) hpo (hn x hx))]
  exact h.has x ((hm x).2 (.inr hx))
 ·rcases Classical.em (l = p.1) with q | q
  ·subst q
   exact Maps.has_del_same
  ·rw [Maps.has_del_other (litK_ne hl hpo q)]
   refine h.hasn l hl (fun x hx => ?_)
   rcases (hm x).1 hx with rfl | hx
   ·exact fun e => q e.symm
   ·exact hno x hx
 ·have h1 := Maps.size_del (k := litK p.1) ht
  rw [h.has p ((hm p).2 (.inl rfl)), h.size, hp.length_eq, List.length_cons] at h1
  simpa using h1
def MapL (w : World) (mv : Option Nat) (X : List (Ky × Nat)) : Prop := (mv = none /\ X = []) \/ ∃ m D, mv = some m /\ w.ownsMap Tryz.prog 73 ptrElem m X.length D /\ KeysL D X
theorem MapL.keeps {w w' : World} {mv : Option Nat} {X : List (Ky × Nat)} {G : Nat -> Prop} (h : MapL w mv X) (hk : Keeps G w w') (hG : ∀ m, mv = some m -> ¬ G m) : MapL w' mv X := by
 rcases h with h | ⟨m, D, e, h1, h2⟩
 ·exact .inl h
 ·exact .inr ⟨m, D, e, ownsMap_keeps h1 hk (hG m e), h2⟩
theorem zero_line (w : World) : (zeroValue 198).run Tryz.prog w = .ok (.pointer none) w := by kernel_rfl
theorem lookL_none {w : World} {mv : Option Nat} {X : List (Ky × Nat)} (h : MapL w mv X) (k : Ky) (hk : KyOk k) (hn : ∀ x, x ∈ X -> x.1 ≠ k) :
  (Instr.lookup 126 (.map mv) (keyV k) false).run Tryz.prog w = .ok (.pointer none) w := by
 rcases h with ⟨rfl, _⟩ | ⟨m, D, rfl, h1, h2⟩
 ·exact Maps.look_nil false keyedK Tryz.underlying126 (zero_line w) (keyOf_key k hk)
 ·obtain ⟨v, ps, hr, hv⟩ := h1.lookup keyedK Tryz.underlying126 (zero_line w) (zd := zd) (zp := []) rfl (keyOf_key k hk)
  rw [Maps.atKey_of_not_has (h2.hasn k hk hn)] at hv
  rw [hr, ptrElem_nil hv]
theorem lookL_at {w : World} {mv : Option Nat} {X : List (Ky × Nat)} (h : MapL w mv X) (x : Ky × Nat) (hx : x ∈ X) :
  (Instr.lookup 126 (.map mv) (keyV x.1) false).run Tryz.prog w = .ok (.pointer (some ⟨x.2, 0, none⟩)) w := by
 rcases h with ⟨_, rfl⟩ | ⟨m, D, rfl, h1, h2⟩
 ·cases hx
 ·obtain ⟨v, ps, hr, hv⟩ := h1.lookup keyedK Tryz.underlying126 (zero_line w) (zd := zd) (zp := []) rfl (keyOf_key x.1 (h2.ok x hx))
  rw [h2.there x hx] at hv
  rw [hr, ptrElem_at hv]
section
variable (w : World) {ops : Array Oper} {rest : List Oper} {o : Oper} {a : Act} {Q : Exit -> Act -> World -> Prop}
end
end Go.Proofs.YtbmkmfoaoganeaaGreatDoor

namespace Go.Proofs.YtbmkmfoaoganeaaGreatDoor
open Go.RowKit Go.Maps
def upd {α : Type} (f : Nat -> α) (b : Nat) (v : α) : Nat -> α := fun i => if i = b then v else f i
theorem upd_same {α : Type} (f : Nat -> α) (b : Nat) (v : α) : upd f b v b = v := by simp [upd]
theorem upd_other {α : Type} (f : Nat -> α) {b i : Nat} (v : α) (h : i ≠ b) : upd f b v i = f i := by simp [upd, h]
structure Pl where
 b : Nat
 o : Nat
 R : Nat -> Option Value
structure PastX (w : World) (P : Pl) (now known : Int) (mv : Option Nat) (X : List (Ky × Nat)) (Ln : Nat -> List Ver × Int) (Fs : Nat -> Nat -> Prop) : Prop where
 c0 : w.cell? ⟨P.b, P.o, none⟩ = some (.int .i64 now)
 c1 : w.cell? ⟨P.b, P.o + 1, none⟩ = some (.int .i64 known)
 c2 : w.cell? ⟨P.b, P.o + 2, none⟩ = some (.map mv)
 f : ∀ i, w.frozen? ⟨P.b, i, none⟩ = false
 map : MapL w mv X
 keys : X.Pairwise (fun x y => x.1 ≠ y.1)
 blocks : X.Pairwise (fun x y => x.2 ≠ y.2)
 line : ∀ x, x ∈ X -> LineW w x.2 (Ln x.2).1 (Ln x.2).2 (Fs x.2)
 apart : ∀ x y, x ∈ X -> y ∈ X -> x.2 ≠ y.2 -> ∀ i, Fs x.2 i -> ¬ Fs y.2 i
 nP : ∀ x, x ∈ X -> ¬ Fs x.2 P.b
 nm : ∀ x, x ∈ X -> ∀ m, mv = some m -> ¬ Fs x.2 m
 rest : ∀ i, i < P.o \/ P.o + 3 <= i -> w.cell? ⟨P.b, i, none⟩ = P.R i
def pastF (P : Pl) (mv : Option Nat) (X : List (Ky × Nat)) (Fs : Nat -> Nat -> Prop) (i : Nat) : Prop := i = P.b \/ mv = some i \/ ∃ x, x ∈ X /\ Fs x.2 i
theorem PastX.Plt {w : World} {P : Pl} {now known : Int} {mv : Option Nat} {X : List (Ky × Nat)} {Ln : Nat -> List Ver × Int} {Fs : Nat -> Nat -> Prop} (h : PastX w P now known mv X Ln Fs) : P.b < w.heap.size := lt_of_cell h.c0
theorem PastX.mlt {w : World} {P : Pl} {now known : Int} {mv : Option Nat} {X : List (Ky × Nat)} {Ln : Nat -> List Ver × Int} {Fs : Nat -> Nat -> Prop} (h : PastX w P now known mv X Ln Fs) {m : Nat} (e : mv = some m) : m < w.heap.size := by
 rcases h.map with ⟨q, _⟩ | ⟨m', D, q, k, _⟩
 ·rw [q] at e; cases e
 ·rw [q] at e; cases e; exact k.lt
theorem PastX.mP {w : World} {P : Pl} {now known : Int} {mv : Option Nat} {X : List (Ky × Nat)} {Ln : Nat -> List Ver × Int} {Fs : Nat -> Nat -> Prop} (h : PastX w P now known mv X Ln Fs) {m : Nat} (e : mv = some m) : m ≠ P.b := by
 rcases h.map with ⟨q, _⟩ | ⟨m', D, q, k, _⟩
 ·rw [q] at e; cases e
 ·rw [q] at e
  cases e
  intro e
  subst e
  obtain ⟨es, ck, hb, _⟩ := k
  have := h.c0
  simp [World.cell?, hb] at this
theorem PastX.lt {w : World} {P : Pl} {now known : Int} {mv : Option Nat} {X : List (Ky × Nat)} {Ln : Nat -> List Ver × Int} {Fs : Nat -> Nat -> Prop} (h : PastX w P now known mv X Ln Fs) : ∀ i, pastF P mv X Fs i -> i < w.heap.size := by
 rintro i (rfl | e | ⟨x, hx, hi⟩)
 ·exact h.Plt
 ·exact h.mlt e
 ·exact (h.line x hx).lt i hi
theorem PastX.keeps {w w' : World} {P : Pl} {now known : Int} {mv : Option Nat} {X : List (Ky × Nat)} {Ln : Nat -> List Ver × Int} {Fs : Nat -> Nat -> Prop} {H : Nat -> Prop} (h : PastX w P now known mv X Ln Fs) (hk : Keeps H w w') (hH : ∀ i, pastF P mv X Fs i -> ¬ H i) : PastX w' P now known mv X Ln Fs := by
 have hP := hH P.b (.inl rfl)
 exact ⟨(hk.cell (p := ⟨P.b, P.o, none⟩) h.Plt hP).trans h.c0, (hk.cell (p := ⟨P.b, P.o + 1, none⟩) h.Plt hP).trans h.c1, (hk.cell (p := ⟨P.b, P.o + 2, none⟩) h.Plt hP).trans h.c2, fun i => (hk.frozen (p := ⟨P.b, i, none⟩) h.Plt hP).trans (h.f i), h.map.keeps hk (fun m e => hH m (.inr (.inl e))), h.keys, h.blocks, fun x hx => (h.line x hx).keeps hk (fun i hi => hH i (.inr (.inr ⟨x, hx, hi⟩))), h.apart, h.nP, h.nm, fun i hi => (hk.cell (p := ⟨P.b, i, none⟩) h.Plt hP).trans (h.rest i hi)⟩
theorem PastX.below {w w' : World} {P : Pl} {now known : Int} {mv : Option Nat} {X : List (Ky × Nat)} {Ln : Nat -> List Ver × Int} {Fs : Nat -> Nat -> Prop} (h : PastX w P now known mv X Ln Fs) (hb : Below w.heap.size w w') : PastX w' P now known mv X Ln Fs :=
 h.keeps (Keeps.of_below (fun _ => False) hb zr) (fun _ _ h => h)
theorem PastX.turn {w w' : World} {P : Pl} {now known : Int} {mv : Option Nat} {X : List (Ky × Nat)} {Ln : Nat -> List Ver × Int} {Fs : Nat -> Nat -> Prop} (h : PastX w P now known mv X Ln Fs) {x : Ky × Nat} (hx : x ∈ X) {V' : List Ver} {made' : Int} {F' : Nat -> Prop} (hl : LineW w' x.2 V' made' F') (hg : Grew w (Fs x.2) F' w') :
  PastX w' P now known mv X (upd Ln x.2 (V', made')) (upd Fs x.2 F') /\ Grew w (pastF P mv X Fs) (pastF P mv X (upd Fs x.2 F')) w' := by
 have hk := hg.2
 have hP := h.nP x hx
 have hF' : ∀ i, i < w.heap.size -> F' i -> Fs x.2 i := fun i hi hf => by
  rcases hg.1 i hf with q | q
  ·exact q
  ·omega
 have fs : ∀ y, y ∈ X -> ∀ i, upd Fs x.2 F' y.2 i -> (y.2 = x.2 /\ F' i) \/ (y.2 ≠ x.2 /\ Fs y.2 i) := fun y _ i hi => by
  by_cases e : y.2 = x.2
  ·rw [e, upd_same] at hi
   exact .inl ⟨e, hi⟩
  ·rw [upd_other _ _ e] at hi
   exact .inr ⟨e, hi⟩
 refine ⟨⟨(hk.cell (p := ⟨P.b, P.o, none⟩) h.Plt hP).trans h.c0, (hk.cell (p := ⟨P.b, P.o + 1, none⟩) h.Plt hP).trans h.c1, (hk.cell (p := ⟨P.b, P.o + 2, none⟩) h.Plt hP).trans h.c2, fun i => (hk.frozen (p := ⟨P.b, i, none⟩) h.Plt hP).trans (h.f i), h.map.keeps hk (fun m e => h.nm x hx m e), h.keys, h.blocks, fun y hy => ?_, fun y z hy hz hne i hi hi' => ?_, fun y hy hi => ?_, fun y hy m e hi => ?_, fun i hi => (hk.cell (p := ⟨P.b, i, none⟩) h.Plt hP).trans (h.rest i hi)⟩, fun i hi => ?_, hk.mono (fun i _ hi => .inr (.inr ⟨x, hx, hi⟩))⟩
 ·by_cases e : y.2 = x.2
  ·rw [e, upd_same, upd_same]
   exact hl
  ·rw [upd_other _ _ e, upd_other _ _ e]
   exact (h.line y hy).keeps hk (fun i hi => h.apart y x hy hx e i hi)
 ·rcases fs y hy i hi with ⟨e1, q1⟩ | ⟨e1, q1⟩
  ·rcases fs z hz i hi' with ⟨e2, _⟩ | ⟨e2, q2⟩
   ·exact hne (e1.trans e2.symm)
   ·exact h.apart z x hz hx e2 i q2 (hF' i ((h.line z hz).lt i q2) q1)
  ·rcases fs z hz i hi' with ⟨e2, q2⟩ | ⟨e2, q2⟩
   ·exact h.apart y x hy hx e1 i q1 (hF' i ((h.line y hy).lt i q1) q2)
   ·exact h.apart y z hy hz hne i q1 q2
 ·rcases fs y hy P.b hi with ⟨_, q⟩ | ⟨_, q⟩
  ·exact hP (hF' P.b h.Plt q)
  ·exact h.nP y hy q
 ·rcases fs y hy m hi with ⟨_, q⟩ | ⟨_, q⟩
  ·exact h.nm x hx m e (hF' m (h.mlt e) q)
  ·exact h.nm y hy m e q
 ·rcases hi with q | q | ⟨y, hy, q⟩
  ·exact .inl (.inl q)
  ·exact .inl (.inr (.inl q))
  ·rcases fs y hy i q with ⟨_, q⟩ | ⟨_, q⟩
   ·rcases hg.1 i q with r | r
    ·exact .inl (.inr (.inr ⟨x, hx, r⟩))
    ·exact .inr r
   ·exact .inl (.inr (.inr ⟨y, hy, q⟩))
theorem PastX.set {w : World} {P : Pl} {now known : Int} {mv : Option Nat} {X : List (Ky × Nat)} {Ln : Nat -> List Ver × Int} {Fs : Nat -> Nat -> Prop} (h : PastX w P now known mv X Ln Fs) (n' : Int) : PastX (w.setCell ⟨P.b, P.o, none⟩ (.int .i64 n')) P n' known mv X Ln Fs /\ Grew w (pastF P mv X Fs) (pastF P mv X Fs) (w.setCell ⟨P.b, P.o, none⟩ (.int .i64 n')) := by
 have hk := keeps_set w P.b P.o (.int .i64 n')
 refine ⟨⟨zs _ _ _ h.c0, ?_, ?_, fun i => ?_, h.map.keeps hk (fun m e => h.mP e), h.keys, h.blocks, fun x hx => (h.line x hx).keeps hk (fun i hi e => h.nP x hx (by rw [<- e]; exact hi)), h.apart, h.nP, h.nm, fun i hi => by rw [zo _ _ _ _ (fun e => by injection e with _ e; omega)]; exact h.rest i hi⟩, fun _ h => .inl h, hk.mono (fun i _ e => .inl e)⟩
 ·rw [zo _ _ _ _ (by simp)]; exact h.c1
 ·rw [zo _ _ _ _ (by simp)]; exact h.c2
 ·rw [World.frozen?_setCell]; exact h.f i
theorem PastX.set1 {w : World} {P : Pl} {now known : Int} {mv : Option Nat} {X : List (Ky × Nat)} {Ln : Nat -> List Ver × Int} {Fs : Nat -> Nat -> Prop} (h : PastX w P now known mv X Ln Fs) (n' : Int) : PastX (w.setCell ⟨P.b, P.o + 1, none⟩ (.int .i64 n')) P now n' mv X Ln Fs /\ Grew w (pastF P mv X Fs) (pastF P mv X Fs) (w.setCell ⟨P.b, P.o + 1, none⟩ (.int .i64 n')) := by
 have hk := keeps_set w P.b (P.o + 1) (.int .i64 n')
 refine ⟨⟨?_, zs _ _ _ h.c1, ?_, fun i => ?_, h.map.keeps hk (fun m e => h.mP e), h.keys, h.blocks, fun x hx => (h.line x hx).keeps hk (fun i hi e => h.nP x hx (by rw [<- e]; exact hi)), h.apart, h.nP, h.nm, fun i hi => by rw [zo _ _ _ _ (fun e => by injection e with _ e; omega)]; exact h.rest i hi⟩, fun _ h => .inl h, hk.mono (fun i _ e => .inl e)⟩
 ·rw [zo _ _ _ _ (by simp)]; exact h.c0
 ·rw [zo _ _ _ _ (by simp)]; exact h.c2
 ·rw [World.frozen?_setCell]; exact h.f i
theorem PastX.made {w : World} {P : Pl} {now known : Int} {X : List (Ky × Nat)} {Ln : Nat -> List Ver × Int} {Fs : Nat -> Nat -> Prop} (h : PastX w P now known none X Ln Fs) :
  PastX ((w.alloc (.map #[] 0)).setCell ⟨P.b, P.o + 2, none⟩ (.map (some w.heap.size))) P now known (some w.heap.size) [] Ln Fs /\ X = [] /\ Grew w (pastF P none X Fs) (pastF P (some w.heap.size) [] Fs) ((w.alloc (.map #[] 0)).setCell ⟨P.b, P.o + 2, none⟩ (.map (some w.heap.size))) := by
 have hX : X = [] := by
  rcases h.map with ⟨_, e⟩ | ⟨m, D, e, _⟩
  ·exact e
  ·cases e
 have b1 := below_box w (.map #[] 0)
 have k2 := keeps_set (w.alloc (.map #[] 0)) P.b (P.o + 2) (.map (some w.heap.size))
 have a0 := (b1.cell (p := ⟨P.b, P.o, none⟩) h.Plt).trans h.c0
 have a1 := (b1.cell (p := ⟨P.b, P.o + 1, none⟩) h.Plt).trans h.c1
 have a2 := (b1.cell (p := ⟨P.b, P.o + 2, none⟩) h.Plt).trans h.c2
 refine ⟨⟨?_, ?_, zs _ _ _ a2, fun i => ?_, ?_, List.Pairwise.nil, List.Pairwise.nil, by simp, by simp, by simp, by simp, fun i hi => by rw [zo _ _ _ _ (fun e => by injection e with _ e; omega)]; exact (b1.cell (p := ⟨P.b, i, none⟩) h.Plt).trans (h.rest i hi)⟩, hX, fun i hi => ?_, ?_⟩
 ·rw [zo _ _ _ _ (by simp)]; exact a0
 ·rw [zo _ _ _ _ (by simp)]; exact a1
 ·rw [World.frozen?_setCell]; exact (b1.frozen (p := ⟨P.b, i, none⟩) h.Plt).trans (h.f i)
 ·refine .inr ⟨w.heap.size, .map [], rfl, ?_, keysL_none⟩
  have hp := h.Plt
  exact (World.ownsMap_made w Tryz.prog 73 ptrElem).setCell (a := ⟨P.b, P.o + 2, none⟩) (by show w.heap.size ≠ P.b; omega) (.map (some w.heap.size))
 ·rcases hi with q | q | ⟨x, hx, _⟩
  ·exact .inl (.inl q)
  ·cases q; exact .inr zr
  ·cases hx
 ·exact (Keeps.of_below _ b1 zr).then k2 (fun i _ e => .inl e)
end Go.Proofs.YtbmkmfoaoganeaaGreatDoor
