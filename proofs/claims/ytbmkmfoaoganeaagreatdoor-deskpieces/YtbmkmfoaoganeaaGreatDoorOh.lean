/- Texts of one proof, one behind the other. -/
import Derived.Test.YtbmkmfoaoganeaaGreatDoorOg
import Derived.Test.YtbmkmfoaoganeaaGreatDoorOf
import Derived.Test.YtbmkmfoaoganeaaGreatDoorNa
import Derived.Deep.DeepCutAuto
set_option maxRecDepth 100000
set_option maxHeartbeats 16000000
namespace Go.Proofs.YtbmkmfoaoganeaaGreatDoor
open Go.RowKit Go.Maps
theorem RowY.cells {W : World} {base : Nat} {v : Value} {L : List Ky} (h : RowY W base v L) : ∃ g ad c, v = .slice ad L.length c /\ ∀ j, (hj : j < L.length) -> ad = some ⟨g, 0, none⟩ /\ W.cell? ⟨g, j * 4, none⟩ = some (.int .i64 L[j].kind) /\ W.cell? ⟨g, j * 4 + 1, none⟩ = some (.int .i64 L[j].a) /\ W.cell? ⟨g, j * 4 + 2, none⟩ = some (.string L[j].word) /\ W.cell? ⟨g, j * 4 + 3, none⟩ = some (.int .i64 L[j].b) := by
 rcases (show World.ownsRow _ _ _ _ _ _ _ from h).2 with ⟨h1, h2⟩ | ⟨g, cap, cur, hv, _, hh, _, _, _, h6⟩
 ·exact ⟨0, none, 0, by rw [h1, h2], fun j hj => by omega⟩
 ·refine ⟨g, _, cap, hv, fun j hj => ⟨rfl, ?_⟩⟩
  have key : ∀ i, i < 4 -> W.cell? ⟨g, j * 4 + i, none⟩ = some ((encY L[j])[i]!) := fun i hi => by
   have e := encYs_get L (j * 4 + i) (by omega)
   rw [show (j * 4 + i) / 4 = j by omega, show (j * 4 + i) % 4 = i by omega] at e
   unfold World.cell?
   simp only [hh]
   have q : cur.toList[j * 4 + i]? = (encYs L)[j * 4 + i]? := by rw [<- h6, List.getElem?_take_of_lt (by omega)]
   rw [e] at q
   simp [hj] at q
   simpa using q
  exact ⟨key 0 (by omega), key 1 (by omega), key 2 (by omega), key 3 (by omega)⟩
theorem GrI.add {W W3 : World} {g m : Nat} {V : Ky -> ByteArray} {L : List Ky} {X : List (Int × Nat)} {Nd : Nat -> Gn} {Fs : Nat -> Nat -> Prop} (h : GrI W g m V L X Nd Fs) (hL : ∀ k, k ∈ L -> k.kind = 1) (n : Int) (hn : n ∉ nodesG L)
  {q : Nat} {D : DataW Unit} (hKD : KeysG D X) (ht : Tidy D) (hturn : World.mapTurned (W.alloc (.cells #[.string (V ⟨1, n, ⟨#[]⟩, 0⟩), .slice none 0 0, .slice none 0 0] 136)) W3 m)
  (hown : W3.ownsMap Tryz.prog 3 ptrElem m q (D.put (.int .i64 n) (.lit (.int .i64 ((W.heap.size : Int) + 1))))) :
  GrI W3 g m V (L ++ [⟨1, n, ⟨#[]⟩, 0⟩]) (X ++ [(n, W.heap.size)]) (upd Nd W.heap.size ⟨V ⟨1, n, ⟨#[]⟩, 0⟩, [], []⟩) (upd Fs W.heap.size (· = W.heap.size)) /\ Grew W (graphF g m X Fs) (graphF g m (X ++ [(n, W.heap.size)]) (upd Fs W.heap.size (· = W.heap.size))) W3 := by
 have hnx : ∀ x, x ∈ X -> x.1 ≠ n := fun x hx e => hn (by rw [<- h.ids]; exact List.mem_map.2 ⟨x, hx, e⟩)
 obtain ⟨g1, g2⟩ := h.gx.add n (V ⟨1, n, ⟨#[]⟩, 0⟩) hnx hKD ht hturn hown
 refine ⟨⟨g1, ?_, fun x hx => ?_⟩, g2⟩
 ·rw [List.map_append, h.ids, nodesG_node rfl]
  rfl
 ·obtain ⟨e1, e2⟩ := gnOf_node (V := V) (L := L) (k := ⟨1, n, ⟨#[]⟩, 0⟩) hL rfl x.1
  rw [e1]
  rcases List.mem_append.1 hx with q | q
  ·have hne : x.2 ≠ W.heap.size := fun e => by
    have := (h.gx.node x q).lt _ (h.gx.node x q).fb
    omega
   rw [upd_other _ _ hne, h.nd x q, e2]
  ·obtain rfl := List.mem_singleton.1 q
   rw [upd_same]
def AtSays (w : World) (V : Ky -> ByteArray) (e : Ending) (w' : World) : Prop :=
 ∃ g m L X Nd Fs, e = .returned (.tuple #[.pointer (some ⟨g, 0, none⟩), .nilIface]) /\ GrI w' g m V L X Nd Fs /\ L.Pairwise (fun a b => cfY a b < 0) /\ (∀ k, k ∈ L ↔ V k ≠ ByteArray.empty) /\ L.length <= 4000 /\ (∀ i, graphF g m X Fs i -> w.heap.size <= i) /\ Below w.heap.size w w'
structure AtI (W1 : World) (n g gb : Nat) (V : Ky -> ByteArray) (L : List Ky) (X : List (Int × Nat)) (Nd : Nat -> Gn) (Fs : Nat -> Nat -> Prop) (y : World) : Prop where
 gr : GrI y g n V L X Nd Fs
 box : y.cell? ⟨gb, 0, none⟩ = some (.pointer (some ⟨g, 0, none⟩))
 low : Below n W1 y
 own : ∀ i, graphF g n X Fs i -> n <= i /\ i ≠ gb
 two : gb < y.heap.size
 ngb : n < gb
theorem AtI.below {W1 : World} {n g gb : Nat} {V : Ky -> ByteArray} {L : List Ky} {X : List (Int × Nat)} {Nd : Nat -> Gn} {Fs : Nat -> Nat -> Prop} {y y' : World} (h : AtI W1 n g gb V L X Nd Fs y) (hb : Below y.heap.size y y') : AtI W1 n g gb V L X Nd Fs y' :=
 ⟨h.gr.below hb, (hb.cell (p := ⟨gb, 0, none⟩) (lt_of_cell h.box)).trans h.box, h.low.trans (hb.mono (by have := h.two; have := h.ngb; omega)), h.own, Nat.lt_of_lt_of_le h.two hb.size, h.ngb⟩
theorem AtI.turn {W1 : World} {n g gb : Nat} {V : Ky -> ByteArray} {L L' : List Ky} {X X' : List (Int × Nat)} {Nd Nd' : Nat -> Gn} {Fs Fs' : Nat -> Nat -> Prop} {y y' : World} (h : AtI W1 n g gb V L X Nd Fs y) (hg : GrI y' g n V L' X' Nd' Fs') (hw : Grew y (graphF g n X Fs) (graphF g n X' Fs') y') : AtI W1 n g gb V L' X' Nd' Fs' y' := by
 have ht := h.two
 have hn := h.ngb
 refine ⟨hg, (hw.2.cell (p := ⟨gb, 0, none⟩) ht (fun q => (h.own _ q).2 rfl)).trans h.box, h.low.trans (keeps_below hw.2 (fun i q => (h.own i q).1) (by omega)), fun i hi => ?_, Nat.lt_of_lt_of_le ht hw.2.size, hn⟩
 rcases hw.1 i hi with q | q
 ·exact h.own i q
 ·exact ⟨by omega, by omega⟩
theorem cell_new (w : World) (v : Value) (t : TypeId) : (w.alloc (.cells #[v] t)).cell? ⟨w.heap.size, 0, none⟩ = some v := by simp
theorem at_begin (W1 : World) (V : Ky -> ByteArray) : AtI W1 W1.heap.size (W1.heap.size + 1) (W1.heap.size + 1 + 1) V [] [] (fun _ => ⟨ByteArray.empty, [], []⟩) (fun _ _ => False) (((W1.alloc (.map #[] 0)).alloc (.cells #[.map (some W1.heap.size)] 131)).alloc (.cells #[.pointer (some ⟨W1.heap.size + 1, 0, none⟩)] 44)) := by
 have b1 := below_box W1 (.map #[] 0)
 have b2 := below_box (W1.alloc (.map #[] 0)) (.cells #[.map (some W1.heap.size)] 131)
 have b3 := below_box ((W1.alloc (.map #[] 0)).alloc (.cells #[.map (some W1.heap.size)] 131)) (.cells #[.pointer (some ⟨W1.heap.size + 1, 0, none⟩)] 44)
 have e1 : (W1.alloc (.map #[] 0)).heap.size = W1.heap.size + 1 := by simp
 have e2 : ((W1.alloc (.map #[] 0)).alloc (.cells #[.map (some W1.heap.size)] 131)).heap.size = W1.heap.size + 1 + 1 := by simp
 have c12 := b1.trans (b2.mono b1.size)
 refine ⟨⟨⟨?_, ⟨.map [], ?_, keysG_none⟩, List.Pairwise.nil, List.Pairwise.nil, by simp, by simp, by simp, by simp, by omega⟩, rfl, by simp⟩, ?_, c12.trans (b3.mono c12.size), fun i hi => ?_, by simp, by omega⟩
 ·have q := cell_new (W1.alloc (.map #[] 0)) (.map (some W1.heap.size)) 131
  rw [e1] at q
  exact (b3.cell (p := ⟨W1.heap.size + 1, 0, none⟩) (by show W1.heap.size + 1 < _; rw [e2]; omega)).trans q
 ·exact ((World.ownsMap_made W1 Tryz.prog 3 ptrElem).alloc _).alloc _
 ·have q := cell_new ((W1.alloc (.map #[] 0)).alloc (.cells #[.map (some W1.heap.size)] 131)) (.pointer (some ⟨W1.heap.size + 1, 0, none⟩)) 44
  rw [e2] at q
  exact q
 ·rcases hi with q | q | ⟨x, hx, _⟩
  ·exact ⟨by omega, by omega⟩
  ·exact ⟨by omega, by omega⟩
  ·cases hx
theorem kind_le {a b : Ky} (h : cfY a b < 0) : a.kind <= b.kind := by
 rcases Int.lt_or_le b.kind a.kind with q | q
 ·exfalso
  unfold cfY keyCmp orL at h
  have e : Lib.compareInt a.kind b.kind = 1 := by
   unfold Lib.compareInt
   split
   ·omega
   ·first | rfl | (split <;> omega)
  simp [e] at h
 ·exact q
theorem key_kinds {k : Ky} (h : keyB k.kind k.a k.word k.b = true) : (k = ⟨1, k.a, ⟨#[]⟩, 0⟩) \/ k.kind = 2 \/ k.kind = 3 := by
 obtain ⟨kk, ka, kw, kb⟩ := k
 dsimp only at h ⊢
 unfold keyB at h
 by_cases e1 : kk = 1
 ·rw [if_pos e1] at h
  obtain ⟨a, b⟩ := Bool.and_eq_true_iff.1 h
  obtain ⟨_, a2⟩ := Bool.and_eq_true_iff.1 a
  have hb := of_decide_eq_true b
  have hw := empty_data kw a2
  have : kw = ⟨#[]⟩ := by
   cases kw with
   | mk d =>
    have : d = #[] := by simpa using hw
    rw [this]
  left
  rw [e1, this, hb]
 ·rw [if_neg e1] at h
  by_cases e2 : kk = 2
  ·exact .inr (.inl e2)
  ·rw [if_neg e2] at h
   by_cases e3 : kk = 3
   ·exact .inr (.inr e3)
   ·rw [if_neg e3] at h
    cases h
theorem gnOf_edge {V : Ky -> ByteArray} {L : List Ky} {k : Ky} (hk : k.kind = 2) (hb : k.b ∈ nodesG L) : gnOf V (L ++ [k]) k.a = { gnOf V L k.a with edges := (gnOf V L k.a).edges ++ [k] } := by
 unfold gnOf
 dsimp only
 rw [edgesG_snoc (by omega), propsG_snoc, if_pos ⟨hk, rfl, hb⟩, if_neg (fun q => by omega), List.append_nil]
theorem gnOf_prop {V : Ky -> ByteArray} {L : List Ky} {k : Ky} (hk : k.kind = 3) : gnOf V (L ++ [k]) k.a = { gnOf V L k.a with props := (gnOf V L k.a).props ++ [(k.word, V k)] } := by
 unfold gnOf
 dsimp only
 rw [edgesG_snoc (by omega), propsG_snoc, if_neg (fun q => by omega), if_pos ⟨hk, rfl⟩, List.append_nil]
theorem edgesG_le (L : List Ky) (a : Int) : (edgesG L a).length <= L.length := List.length_filter_le _ _
theorem propsG_le (V : Ky -> ByteArray) (L : List Ky) (a : Int) : (propsG V L a).length <= L.length := by
 unfold propsG
 rw [List.length_map]
 exact List.length_filter_le _ _
def NdS (g m gb kx : Nat) (a : Int) (y : World) : Prop := y.cell? ⟨gb, 0, none⟩ = some (.pointer (some ⟨g, 0, none⟩)) /\ y.cell? ⟨g, 0, none⟩ = some (.map (some m)) /\ y.cell? ⟨kx, 1, none⟩ = some (.int .i64 a)
theorem NdS.carry {g m gb kx : Nat} {a : Int} {x y : World} (h : NdS g m gb kx a x) (hb : Below x.heap.size x y) : NdS g m gb kx a y := ⟨there_yet' h.1 hb, there_yet' h.2.1 hb, there_yet' h.2.2 hb⟩
theorem at_put {W1 : World} {n g gb kx : Nat} {V : Ky -> ByteArray} {L L' : List Ky} {X : List (Int × Nat)} {Nd Nd' : Nat -> Gn} {Fs Fs' : Nat -> Nat -> Prop} {y y' : World} {k : Ky} {b : Nat} (h : AtI W1 n g gb V L X Nd Fs y) (hx : BoxK kx k y) (hkx : ¬ graphF g n X Fs kx) (hg : GrI y' g n V L' X Nd' Fs') (hw : Grew y (graphF g n X Fs) (graphF g n X Fs') y') (hm : (k.a, b) ∈ X) (ha : (Lit.int .i64 k.a).wf = true) :
  y'.cell? ⟨gb, 0, none⟩ = some (.pointer (some ⟨g, 0, none⟩)) /\ y'.cell? ⟨g, 0, none⟩ = some (.map (some n)) /\ y'.cell? ⟨kx, 0, none⟩ = some (.int .i64 k.kind) /\ y'.cell? ⟨kx, 1, none⟩ = some (.int .i64 k.a) /\ y'.cell? ⟨kx, 2, none⟩ = some (.string k.word) /\ y'.cell? ⟨kx, 3, none⟩ = some (.int .i64 k.b) /\ (Instr.lookup 129 (.map (some n)) (.int .i64 k.a) false).run Tryz.prog y' = .ok (.pointer (some ⟨b, 0, none⟩)) y' := by
 have h' := h.turn hg hw
 have hx' := hx.keeps hw.2 hkx
 exact ⟨h'.box, hg.gx.c0, hx'.c0, hx'.c1, hx'.c2, hx'.c3, lookG_at hg.gx.map (k.a, b) ha hm⟩
theorem walk_At {w : World} {P : Pl} {now known bd : Int} {S : Ky -> Int -> Int -> ByteArray} {F : Nat -> Prop} (h : PastW w P now known bd S F) (hb1 : bd <= 4000) (at_ t : Int) (h0 : 0 <= at_) (h1 : known <= at_) (h2 : at_ <= now) (t0 : -1099511627776 <= t) (t1 : t < 1099511627776)
  (hv : ∀ k, S k at_ t ≠ ByteArray.empty -> KyOk k /\ keyB k.kind k.a k.word k.b = true) :
  Calls Tryz.prog 38 #[.pointer (some ⟨P.b, P.o, none⟩), .int .i64 at_, .int .i64 t] w (AtSays w (fun k => S k at_ t)) := by
 have HKs := zh (keys_ok h hb1 at_ t h0 h1 h2 t0 t1)
 have HVl := zh (fun W (hW : Below w.heap.size w W) k hk hkb => value_ok (h.below hW) hb1 k hk hkb at_ t h0 h1 h2 t0 t1)
 have HV := zh hv
 have hmm := @run_makeMap Tryz.prog
 clear h hb1 h0 h1 h2 t0 t1 hv
 go_enter Tryz.func38, Tryz.ntmps38
 go_wp2_with fail
 refine (uh HKs).mono ?_
 rintro e W1 ⟨v8, L, rfl, hr, hpw, hme, hlen, b1⟩
 obtain ⟨g8, ad8, c8, rfl, hf8⟩ := hr.cells
 have HR := zh hf8
 have HPw := zh hpw
 have HMe := zh hme
 have HB1 := zh b1
 clear HKs hr hpw hme b1 hf8
 have HI0 := zh (at_begin W1 (fun k => S k at_ t))
 go_wp2
 generalize ((W1.alloc (.map #[] 0)).alloc (.cells #[.map (some W1.heap.size)] 131)).alloc (.cells #[.pointer (some ⟨W1.heap.size + 1, 0, none⟩)] 44) = W2 at *
 have hs1 := (uh HB1).size
 generalize W1.heap.size + 1 + 1 = gb at *
 generalize W1.heap.size + 1 = g at *
 generalize hn : W1.heap.size = n at *
 go_loopw [35] (fun i y => ∃ (j : Nat) (X : List (Int × Nat)) (Nd : Nat -> Gn) (Fs : Nat -> Nat -> Prop), j <= L.length /\ i = .int .i64 j /\ AtI W1 n g gb (fun k => S k at_ t) (L.take j) X Nd Fs y) (fun i _ => L.length - (intOf i).toNat)
 case atStart => exact ⟨0, [], _, _, Nat.zero_le _, rfl, uh HI0⟩
 case round =>
  clear HI0
  obtain ⟨j, X, Nd, Fs, hj, rfl, hI⟩ := hrel
  have HI := zh hI
  clear hI
  by_cases hlt : j < L.length
  ·have hlt' : (j : Int) < (L.length : Int) := by omega
   have hj0 : (0 : Int) <= (j : Int) := by omega
   obtain ⟨rfl, a0, a1, a2, a3⟩ := uh HR j hlt
   have hkm : L[j] ∈ L := List.getElem_mem hlt
   obtain ⟨hko, hkb⟩ := uh HV L[j] ((uh HMe L[j]).1 hkm)
   have HTk : Hid (L.take (j + 1) = L.take j ++ [L[j]]) := List.take_succ_eq_append_getElem hlt
   have HEar : Hid (∀ x, x ∈ L.take j -> x.kind <= L[j].kind /\ x ≠ L[j] /\ S x at_ t ≠ ByteArray.empty) := fun x hx => by
    obtain ⟨i, hi, rfl⟩ := List.getElem_of_mem hx
    have hij : i < j := by simp at hi; omega
    rw [List.getElem_take]
    have q := List.pairwise_iff_getElem.1 (uh HPw) i j (by omega) hlt hij
    refine ⟨kind_le q, fun e => ?_, (uh HMe _).1 (List.getElem_mem _)⟩
    rw [e] at q
    have := cfY_zero.2 (rfl : L[j] = L[j])
    omega
   obtain ⟨k, hkk⟩ : ∃ k, k = L[j] := ⟨_, rfl⟩
   rw [<- hkk] at a0 a1 a2 a3 hko hkb HTk HEar
   have z0 := there_at a0 (by rw [hn]; exact (uh HI).low)
   have z1 := there_at a1 (by rw [hn]; exact (uh HI).low)
   have z2 := there_at a2 (by rw [hn]; exact (uh HI).low)
   have z3 := there_at a3 (by rw [hn]; exact (uh HI).low)
   have HKo := zh hko
   have HKb := zh hkb
   have HBk := zh (below_box wr (.cells #[.int .i64 k.kind, .int .i64 k.a, .string k.word, .int .i64 k.b] 73))
   have HBx := zh (boxK_new wr k)
   have HI1 := zh ((uh HI).below (uh HBk))
   have hbw : Below w.heap.size w (wr.alloc (.cells #[.int .i64 k.kind, .int .i64 k.a, .string k.word, .int .i64 k.b] 73)) := (uh HB1).trans ((uh HI1).low.mono hs1)
   have HVk := zh (uh HVl _ hbw k hko hkb)
   have x0 := (uh HBx).c0
   have x1 := (uh HBx).c1
   have x2 := (uh HBx).c2
   have x3 := (uh HBx).c3
   have HKx : Hid (¬ graphF g n X Fs wr.heap.size) := fun q => Nat.lt_irrefl _ ((uh HI).gr.gx.lt _ q)
   clear a0 a1 a2 a3 hko hkb hkm hkk hbw HI
   go_wp2_with fail
   generalize wr.alloc (.cells #[.int .i64 k.kind, .int .i64 k.a, .string k.word, .int .i64 k.b] 73) = V1 at *
   refine (uh HVk).mono ?_
   rintro e V2 ⟨rfl, b2⟩
   have HI2 := zh ((uh HI1).below b2)
   have HBx2 := zh ((uh HBx).below b2)
   clear b2 HVk HI1 HBx x0 x1 x2 x3 z0 z1 z2 z3 HBk
   generalize wr.heap.size = kx at *
   rcases key_kinds (uh HKb) with hk1 | hk23
   ·have hnn : k.a ∉ nodesG (L.take j) := fun q => by
     obtain ⟨x, hx, e⟩ := List.mem_map.1 q
     obtain ⟨hx1, hx2⟩ := List.mem_filter.1 hx
     have hx2' := of_decide_eq_true hx2
     obtain ⟨_, q2, q3⟩ := uh HEar x hx1
     rcases key_kinds (uh HV x q3).2 with r | r
     ·exact q2 (by rw [r, hk1, e])
     ·omega
    have hall : ∀ x, x ∈ L.take j -> x.kind = 1 := fun x hx => by
     obtain ⟨q1, _, q3⟩ := uh HEar x hx
     have hk0 : k.kind = 1 := by rw [hk1]
     rcases key_kinds (uh HV x q3).2 with r | r
     ·rw [r]
     ·omega
    have HNn := zh hnn
    have HAl := zh hall
    have HKa := zh (uh HKo).a
    have HKe := zh hk1
    have x0 : V2.cell? ⟨kx, 0, none⟩ = some (.int .i64 1) := by rw [(uh HBx2).c0, hk1]
    have x1 := (uh HBx2).c1
    have hSk : S k at_ t = S ⟨1, k.a, ⟨#[]⟩, 0⟩ at_ t := by rw [<- hk1]
    rw [hSk]
    clear hnn hall hk1 HKo HKb hSk
    generalize k.a = ka at *
    go_wp2
    have HS : Hid (NdS g n gb kx ka V2.drew) := ⟨(uh HI2).box, (uh HI2).gr.gx.c0, x1⟩
    have HI3 := zh ((uh HI2).below (below_drew V2))
    clear x0 x1
    refine wp_region_tail (fun x => x.cell? ⟨gb, 0, none⟩ = some (.pointer (some ⟨g, 0, none⟩)) /\ x.cell? ⟨g, 0, none⟩ = some (.map (some n)) /\ x.cell? ⟨kx, 1, none⟩ = some (.int .i64 ka)) 9 (by kernel_rfl) (by kernel_rfl) (uh HS) (fun hHeld => ?_)
    refine takeH 0 (h := ?_)
    try simp only [Act.put, sI, sZ, sS]
    refine takeH 1 (h := ?_)
    try simp only [Act.put, sI, sZ, sS]
    refine takeH 2 (h := ?_)
    try simp only [Act.put, sI, sZ, sS]
    refine takeH 3 (h := ?_)
    try simp only [Act.put, sI, sZ, sS]
    refine takeH 4 (h := ?_)
    try simp only [Act.put, sI, sZ, sS]
    refine takeH 5 (h := ?_)
    try simp only [Act.put, sI, sZ, sS]
    refine takeH 6 (h := ?_)
    try simp only [Act.put, sI, sZ, sS]
    refine takeH 7 (h := ?_)
    try simp only [Act.put, sI, sZ, sS]
    refine readyH 8 (h := fun K hK => ?_)
    go_simp
    refine hK.out _ _ (show NdS g n gb kx ka (V2.drew.alloc _) from (uh HS).carry (below_box _ _)) (fun hHeld => ?_)
    clear hK K
    try simp only [Act.put, sI, sZ, sS]
    refine wpAnyH_done (by kernel_rfl) ?_ _
    show wpList _ _ _ _ _ _
    clear hHeld
    obtain ⟨D, hownD, hKD⟩ := (uh HI3).gr.gx.map
    have hXl : X.length <= 4000 := by
     have e := congrArg List.length (uh HI3).gr.ids
     rw [List.length_map] at e
     rw [e]
     unfold nodesG
     rw [List.length_map]
     exact Nat.le_trans (List.length_filter_le _ _) (by rw [List.length_take]; omega)
    refine wpList_mapUpdate_in _ rfl _ _ _ 129 rfl 3 132 keyedV Tryz.underlying129 ptrElem n _ D rfl (hownD.alloc _) (by unfold maxLen; omega) _ _ _ rfl rfl (keyOf_int_mk Tryz.underlying3 (uh HKa)) (.lit (.int .i64 ((V2.heap.size : Int) + 1))) [] rfl ?_
    intro V3 own3 turn3
    obtain ⟨gr3, gw3⟩ := GrI.add (W := V2.drew) (uh HI3).gr (uh HAl) ka (uh HNn) hKD (hownD.tidy keyedV) turn3 own3
    have HI4 := zh ((uh HI3).turn gr3 gw3)
    have HI5 : Hid (∃ X Nd Fs, AtI W1 n g gb (fun k => S k at_ t) (L.take (j + 1)) X Nd Fs V3) := by
     unfold Hid
     rw [uh HTk, uh HKe]
     exact ⟨_, _, _, uh HI4⟩
    clear own3 turn3 gr3 gw3 HI4 hownD hKD
    go_wp2
    go_roundw
    case rel =>
     obtain ⟨X', Nd', Fs', q⟩ := uh HI5
     exact ⟨j + 1, X', Nd', Fs', by omega, by go_num, q⟩
    case measure => simp [intOf]; omega
   ·have hk1 : k.kind ≠ 1 := by omega
    have HK1 := zh hk1
    obtain ⟨kk, ka, kw, kb⟩ := k
    dsimp only at hk23 hk1 HTk HK1
    have x0 := (uh HBx2).c0
    have x1 := (uh HBx2).c1
    have x2 := (uh HBx2).c2
    have x3 := (uh HBx2).c3
    dsimp only at x0 x1 x2 x3
    by_cases hha : hasG X ka
    ·obtain ⟨⟨ka', b⟩, hxm, e⟩ := hha
     obtain rfl : ka' = ka := e
     have HMx := zh hxm
     clear hxm
     rcases hk23 with rfl | rfl
     ·by_cases hhb : hasG X kb
      ·obtain ⟨⟨kb', b'⟩, hym, e⟩ := hhb
       obtain rfl : kb' = kb := e
       have HMb : Hid (kb' ∈ nodesG (L.take j)) := ((uh HI2).gr.has kb').1 ⟨(kb', b'), hym, rfl⟩
       have HNw := zh (nowhere_e (uh HI2).gr.gx (uh HI2).box ⟨2, ka', kw, kb'⟩ (uh HKo) b (uh HMx) rfl b' hym)
       clear hym hk1
       dsimp only at HNw
       go_wp2_with fail
       refine (uh HNw).mono ?_
       rintro e V3 ⟨rfl, b3⟩
       have HI4 := zh (((uh HI2).below b3).below (below_drew V3))
       have HBx3 := zh (((uh HBx2).below b3).below (below_drew V3))
       have HGn : Hid (GnW V3.drew b (gnOf (fun k => S k at_ t) (L.take j) ka') (Fs b)) := by
        have q := (uh HI4).gr.gx.node (ka', b) (uh HMx)
        rw [(uh HI4).gr.nd (ka', b) (uh HMx)] at q
        exact q
       have HPt := zh (gn_put_edge (uh HGn) ka' kw kb' (S ⟨2, ka', kw, kb'⟩ at_ t) (by show (edgesG (L.take j) ka').length <= 100000; have := edgesG_le (L.take j) ka'; rw [List.length_take] at this; omega))
       have hlk := lookG_at (uh HI4).gr.gx.map (ka', b) (uh HKo).a (uh HMx)
       have hs0 : V3.drew.cell? ⟨gb, 0, none⟩ = some (.pointer (some ⟨g, 0, none⟩)) /\ V3.drew.cell? ⟨g, 0, none⟩ = some (.map (some n)) /\ V3.drew.cell? ⟨kx, 0, none⟩ = some (.int .i64 2) /\ V3.drew.cell? ⟨kx, 1, none⟩ = some (.int .i64 ka') /\ V3.drew.cell? ⟨kx, 2, none⟩ = some (.string kw) /\ V3.drew.cell? ⟨kx, 3, none⟩ = some (.int .i64 kb') /\ (Instr.lookup 129 (.map (some n)) (.int .i64 ka') false).run Tryz.prog V3.drew = .ok (.pointer (some ⟨b, 0, none⟩)) V3.drew := ⟨(uh HI4).box, (uh HI4).gr.gx.c0, (uh HBx3).c0, (uh HBx3).c1, (uh HBx3).c2, (uh HBx3).c3, hlk⟩
       have HS0 := zh hs0
       clear b3 HNw HI2 HBx2 x0 x1 x2 x3 hlk hs0
       go_upto_region 17 with fail
       go_region_held3 (fun y => y.cell? ⟨gb, 0, none⟩ = some (.pointer (some ⟨g, 0, none⟩)) /\ y.cell? ⟨g, 0, none⟩ = some (.map (some n)) /\ y.cell? ⟨kx, 0, none⟩ = some (.int .i64 2) /\ y.cell? ⟨kx, 1, none⟩ = some (.int .i64 ka') /\ y.cell? ⟨kx, 2, none⟩ = some (.string kw) /\ y.cell? ⟨kx, 3, none⟩ = some (.int .i64 kb') /\ (Instr.lookup 129 (.map (some n)) (.int .i64 ka') false).run Tryz.prog y = .ok (.pointer (some ⟨b, 0, none⟩)) y)
        (first | exact hs1 | exact uh HS0)
        (first
         | (go_at_call 88; refine (uh HPt).mono ?_; rintro e V4 ⟨rfl, F4, gn4, gw4⟩; have hq := (uh HI4).gr.put (k := ⟨2, ka', kw, kb'⟩) (show (2 : Int) ≠ 1 by decide) (uh HMx) rfl (F' := F4) (by rw [gnOf_edge rfl (uh HMb)]; exact gn4) gw4; have hs1 : V4.cell? ⟨gb, 0, none⟩ = some (.pointer (some ⟨g, 0, none⟩)) /\ V4.cell? ⟨g, 0, none⟩ = some (.map (some n)) /\ V4.cell? ⟨kx, 0, none⟩ = some (.int .i64 2) /\ V4.cell? ⟨kx, 1, none⟩ = some (.int .i64 ka') /\ V4.cell? ⟨kx, 2, none⟩ = some (.string kw) /\ V4.cell? ⟨kx, 3, none⟩ = some (.int .i64 kb') /\ (Instr.lookup 129 (.map (some n)) (.int .i64 ka') false).run Tryz.prog V4 = .ok (.pointer (some ⟨b, 0, none⟩)) V4 := at_put (uh HI4) (uh HBx3) (uh HKx) hq.1 hq.2 (uh HMx) (uh HKo).a))
       rename_i hh
       have HI5 : Hid (∃ Nd' Fs', AtI W1 n g gb (fun k => S k at_ t) (L.take (j + 1)) X Nd' Fs' V4) := by
        unfold Hid
        rw [uh HTk]
        exact ⟨_, _, (uh HI4).turn hq.1 hq.2⟩
       clear hh hq hs1 gn4 gw4 HPt HGn HI4 HBx3 HS0
       go_wp2
       go_roundw
       case rel =>
        obtain ⟨Nd', Fs', q⟩ := uh HI5
        exact ⟨j + 1, X, Nd', Fs', by omega, by go_num, q⟩
       case measure => simp [intOf]; omega
      ·have HNw := zh (nowhere_b (uh HI2).gr.gx (uh HI2).box ⟨2, ka', kw, kb⟩ (uh HKo) b (uh HMx) rfl hhb)
       have HNb : Hid (kb ∉ nodesG (L.take j)) := fun q => hhb (((uh HI2).gr.has kb).2 q)
       clear hhb hk1
       dsimp only at HNw
       go_wp2_with fail
       refine (uh HNw).mono ?_
       rintro e V3 ⟨rfl, b3⟩
       have HI4 := zh ((uh HI2).below b3)
       have HI5 : Hid (AtI W1 n g gb (fun k => S k at_ t) (L.take (j + 1)) X Nd Fs V3) := by
        unfold Hid
        rw [uh HTk]
        exact ⟨(uh HI4).gr.skip (uh HK1) (.inr ⟨rfl, uh HNb⟩), (uh HI4).box, (uh HI4).low, (uh HI4).own, (uh HI4).two, (uh HI4).ngb⟩
       clear b3 HNw HI2 HI4 HBx2 x0 x1 x2 x3
       go_wp2
       go_roundw
       case rel => exact ⟨j + 1, X, Nd, Fs, by omega, by go_num, uh HI5⟩
       case measure => simp [intOf]; omega
     ·have HNw := zh (nowhere_p (uh HI2).gr.gx (uh HI2).box ⟨3, ka', kw, kb⟩ (uh HKo) b (uh HMx) rfl)
      clear hk1
      dsimp only at HNw
      go_wp2_with fail
      refine (uh HNw).mono ?_
      rintro e V3 ⟨rfl, b3⟩
      have HI4 := zh (((uh HI2).below b3).below (below_drew V3))
      have HBx3 := zh (((uh HBx2).below b3).below (below_drew V3))
      have HGn : Hid (GnW V3.drew b (gnOf (fun k => S k at_ t) (L.take j) ka') (Fs b)) := by
       have q := (uh HI4).gr.gx.node (ka', b) (uh HMx)
       rw [(uh HI4).gr.nd (ka', b) (uh HMx)] at q
       exact q
      have HPt := zh (gn_put_prop (uh HGn) ka' kw kb (S ⟨3, ka', kw, kb⟩ at_ t) (by show (propsG (fun k => S k at_ t) (L.take j) ka').length <= 100000; have := propsG_le (fun k => S k at_ t) (L.take j) ka'; rw [List.length_take] at this; omega))
      have hlk := lookG_at (uh HI4).gr.gx.map (ka', b) (uh HKo).a (uh HMx)
      have hs0 : V3.drew.cell? ⟨gb, 0, none⟩ = some (.pointer (some ⟨g, 0, none⟩)) /\ V3.drew.cell? ⟨g, 0, none⟩ = some (.map (some n)) /\ V3.drew.cell? ⟨kx, 0, none⟩ = some (.int .i64 3) /\ V3.drew.cell? ⟨kx, 1, none⟩ = some (.int .i64 ka') /\ V3.drew.cell? ⟨kx, 2, none⟩ = some (.string kw) /\ V3.drew.cell? ⟨kx, 3, none⟩ = some (.int .i64 kb) /\ (Instr.lookup 129 (.map (some n)) (.int .i64 ka') false).run Tryz.prog V3.drew = .ok (.pointer (some ⟨b, 0, none⟩)) V3.drew := ⟨(uh HI4).box, (uh HI4).gr.gx.c0, (uh HBx3).c0, (uh HBx3).c1, (uh HBx3).c2, (uh HBx3).c3, hlk⟩
      have HS0 := zh hs0
      clear b3 HNw HI2 HBx2 x0 x1 x2 x3 hlk hs0
      go_upto_region 17 with fail
      go_region_held3 (fun y => y.cell? ⟨gb, 0, none⟩ = some (.pointer (some ⟨g, 0, none⟩)) /\ y.cell? ⟨g, 0, none⟩ = some (.map (some n)) /\ y.cell? ⟨kx, 0, none⟩ = some (.int .i64 3) /\ y.cell? ⟨kx, 1, none⟩ = some (.int .i64 ka') /\ y.cell? ⟨kx, 2, none⟩ = some (.string kw) /\ y.cell? ⟨kx, 3, none⟩ = some (.int .i64 kb) /\ (Instr.lookup 129 (.map (some n)) (.int .i64 ka') false).run Tryz.prog y = .ok (.pointer (some ⟨b, 0, none⟩)) y)
       (first | exact hs1 | exact uh HS0)
       (first
        | (go_at_call 88; refine (uh HPt).mono ?_; rintro e V4 ⟨rfl, F4, gn4, gw4⟩; have hq := (uh HI4).gr.put (k := ⟨3, ka', kw, kb⟩) (show (3 : Int) ≠ 1 by decide) (uh HMx) rfl (F' := F4) (by rw [gnOf_prop rfl]; exact gn4) gw4; have hs1 : V4.cell? ⟨gb, 0, none⟩ = some (.pointer (some ⟨g, 0, none⟩)) /\ V4.cell? ⟨g, 0, none⟩ = some (.map (some n)) /\ V4.cell? ⟨kx, 0, none⟩ = some (.int .i64 3) /\ V4.cell? ⟨kx, 1, none⟩ = some (.int .i64 ka') /\ V4.cell? ⟨kx, 2, none⟩ = some (.string kw) /\ V4.cell? ⟨kx, 3, none⟩ = some (.int .i64 kb) /\ (Instr.lookup 129 (.map (some n)) (.int .i64 ka') false).run Tryz.prog V4 = .ok (.pointer (some ⟨b, 0, none⟩)) V4 := at_put (uh HI4) (uh HBx3) (uh HKx) hq.1 hq.2 (uh HMx) (uh HKo).a))
      rename_i hh
      have HI5 : Hid (∃ Nd' Fs', AtI W1 n g gb (fun k => S k at_ t) (L.take (j + 1)) X Nd' Fs' V4) := by
       unfold Hid
       rw [uh HTk]
       exact ⟨_, _, (uh HI4).turn hq.1 hq.2⟩
      clear hh hq hs1 gn4 gw4 HPt HGn HI4 HBx3 HS0
      go_wp2
      go_roundw
      case rel =>
       obtain ⟨Nd', Fs', q⟩ := uh HI5
       exact ⟨j + 1, X, Nd', Fs', by omega, by go_num, q⟩
      case measure => simp [intOf]; omega
    ·have HNw := zh (nowhere_a (uh HI2).gr.gx (uh HI2).box ⟨kk, ka, kw, kb⟩ (uh HKo) hha)
     have HNa : Hid (ka ∉ nodesG (L.take j)) := fun q => hha (((uh HI2).gr.has ka).2 q)
     have hk1e : ¬ kk = 1 := hk1
     clear hha hk1 hk23
     dsimp only at HNw
     go_wp2_with fail
     refine (uh HNw).mono ?_
     rintro e V3 ⟨rfl, b3⟩
     have HI4 := zh ((uh HI2).below b3)
     have HI5 : Hid (AtI W1 n g gb (fun k => S k at_ t) (L.take (j + 1)) X Nd Fs V3) := by
      unfold Hid
      rw [uh HTk]
      exact ⟨(uh HI4).gr.skip (uh HK1) (.inl (uh HNa)), (uh HI4).box, (uh HI4).low, (uh HI4).own, (uh HI4).two, (uh HI4).ngb⟩
     clear b3 HNw HI2 HI4 HBx2 x0 x1 x2 x3
     go_wp2
     go_roundw
     case rel => exact ⟨j + 1, X, Nd, Fs, by omega, by go_num, uh HI5⟩
     case measure => simp [intOf]; omega
  ·obtain rfl : j = L.length := by omega
   have hlt' : ¬ (L.length : Int) < (L.length : Int) := by omega
   have cb := (uh HI).box
   have HF : Hid (AtSays w (fun k => S k at_ t) (.returned (.tuple #[.pointer (some ⟨g, 0, none⟩), .nilIface])) wr) := by
    have hg := (uh HI).gr
    rw [List.take_length] at hg
    exact ⟨g, n, L, X, Nd, Fs, rfl, hg, uh HPw, uh HMe, hlen, fun i hi => by
     have := ((uh HI).own i hi).1
     omega, (uh HB1).trans ((uh HI).low.mono hs1)⟩
   clear HI
   go_wp2
   go_ret2
   exact uh HF
def RowN (y : World) (base : Nat) (v : Value) (L : List Int) : Prop := y.ownsRow base 3 1 v L.length (L.map (Value.int .i64))
theorem RowN.carry {w w' : World} {base : Nat} {v : Value} {L : List Int} (h : RowN w base v L) (hb : Below w.heap.size w w') : RowN w' base v L := ownsRow_carry h hb
theorem infoN : (Tryz.prog.info? 3).map (fun i => (i.zero, i.size, i.bytes)) = some (some (.int .i64 0), 1, 8) := by kernel_rfl
theorem wpList_appN (w : World) {ops : Array Oper} {rest : List Oper} {o : Oper} {a : Act} {Q : Exit -> Act -> World -> Prop} (hgd : o.guard = none) (s x : Operand)
  (ho : o.op = .call { callee := .builtin .append, args := #[s, x], argTypes := #[89, 89] })
  (base : Nat) (v : Value) (L : List Int) (hs : a.eval s = v) (hown : RowN w base v L)
  (b : Nat) (k : Int) (hx : a.eval x = .slice (some ⟨b, 0, none⟩) 1 1) (hc : w.cell? ⟨b, 0, none⟩ = some (.int .i64 k))
  (hlen : L.length <= 1000000) (hbase : base <= w.heap.size)
  (h : ∀ v' w', RowN w' base v' (L ++ [k]) -> w.grownBy w' v.ownBlock -> wpList Tryz.prog ops Q rest (a.put o.dst v') w') : wpList Tryz.prog ops Q (o :: rest) a w := by
 obtain ⟨i0, hi0, hz0, hz1, hz2⟩ := info_parts infoN
 refine wpList_append_own w hgd s x 89 ho base 3 i0 (.int .i64 0) 1 8 Tryz.underlying89 hi0 hz0 hz1 hz2 rfl (by decide) v L.length (L.map (Value.int .i64)) hs hown ⟨b, 0, none⟩ 1 1 [.int .i64 k] hx rfl ?_ ?_ ?_ ?_ hbase ?_
 ·intro j u hj
  match j, hj with
  | 0, hj => simp at hj; subst hj; simpa [Addr.add] using hc
 ·intro u hu
  simp at hu
  subst hu; rfl
 ·unfold maxLen; omega
 ·omega
 ·intro v' w' k1 k2 _
  refine h v' w' ?_ k2
  unfold RowN
  simpa using k1
def ofWord (word : ByteArray) (k : Ky) : Bool := decide (word = ⟨#[]⟩) || decide (k.word = word)
def leadG (E : List Ky) (word : ByteArray) : List Int := (E.filter (ofWord word)).map (·.b)
def nextG (E : List Ky) (word : ByteArray) : List Int := sortedI (leadG E word)
theorem leadG_snoc (E : List Ky) (k : Ky) (word : ByteArray) : leadG (E ++ [k]) word = leadG E word ++ (if ofWord word k = true then [k.b] else []) := by
 unfold leadG
 rw [List.filter_append, List.map_append]
 congr 1
 by_cases q : ofWord word k = true
 ·simp [q]
 ·rw [Bool.not_eq_true] at q
  simp [q]
theorem leadG_le (E : List Ky) (word : ByteArray) : (leadG E word).length <= E.length := by
 unfold leadG
 rw [List.length_map]
 exact List.length_filter_le _ _
def NextSays (w : World) (L : List Int) (e : Ending) (w' : World) : Prop := ∃ v, e = .returned v /\ RowN w' w.heap.size v L /\ Below w.heap.size w w'
theorem grown_below {a w w' : World} {base : Nat} {v : Value} {L : List Int} (hb : Below base a w) (hr : RowN w base v L) (hg : w.grownBy w' v.ownBlock) (hs : base <= w.heap.size) : Below base a w' :=
 hb.trans ⟨hg.os, hg.tape, hg.output, hg.size, fun k hk => hg.block k (by omega) (fun e => by
  have := (World.ownsRow.lt hr k e.symm).1
  omega)⟩
theorem gn_next {w : World} {b : Nat} {d : Gn} {F : Nat -> Prop} (h : GnW w b d F) (word : ByteArray) (hl : d.edges.length <= 100000) :
  Calls Tryz.prog 148 #[.pointer (some ⟨b, 0, none⟩), .string word] w (NextSays w (nextG d.edges word)) := by
 obtain ⟨ev, pv, hX, rfl⟩ := h
 have c1 := hX.c1
 obtain ⟨ge, ade, ce, rfl, hfe⟩ := RowY.cells hX.re
 have HE := zh hfe
 clear hX hfe
 go_enter Tryz.func148, Tryz.ntmps148
 go_wp2
 go_loopw [5, 13] (fun o i y => ∃ j : Nat, j <= d.edges.length /\ i = .int .i64 j /\ RowN y w.heap.size o (leadG (d.edges.take j) word) /\ Below w.heap.size w y) (fun _ i _ => d.edges.length - (intOf i).toNat)
 case atStart => exact ⟨0, Nat.zero_le _, rfl, ⟨rfl, .inl ⟨rfl, rfl⟩⟩, Below.refl _ _⟩
 case round =>
  obtain ⟨j, hj, rfl, hro, hb⟩ := hrel
  have HRo := zh hro
  have HB := zh hb
  obtain ⟨ado, co, rfl⟩ := row_slice hro
  have hle := leadG_le (d.edges.take j) word
  rw [List.length_take] at hle
  clear hro hb c1
  by_cases hlt : j < d.edges.length
  ·have hlt' : (j : Int) < (d.edges.length : Int) := by omega
   have hj0 : (0 : Int) <= (j : Int) := by omega
   obtain ⟨rfl, a0, a1, a2, a3⟩ := uh HE j hlt
   have HTk : Hid (d.edges.take (j + 1) = d.edges.take j ++ [d.edges[j]]) := List.take_succ_eq_append_getElem hlt
   obtain ⟨k, hkk⟩ : ∃ k, k = d.edges[j] := ⟨_, rfl⟩
   rw [<- hkk] at a0 a1 a2 a3 HTk
   have z0 := there_at a0 (uh HB)
   have z1 := there_at a1 (uh HB)
   have z2 := there_at a2 (uh HB)
   have z3 := there_at a3 (uh HB)
   have HBk := zh (below_box wr (.cells #[.int .i64 k.kind, .int .i64 k.a, .string k.word, .int .i64 k.b] 73))
   have HBx := zh (boxK_new wr k)
   clear a0 a1 a2 a3 hkk
   go_upto_region 5 with fail
   generalize hV1 : wr.alloc (.cells #[.int .i64 k.kind, .int .i64 k.a, .string k.word, .int .i64 k.b] 73) = V1 at *
   have x2 := (uh HBx).c2
   go_cut [24] (fun s24 wx => s24 = .bool (ofWord word k) /\ wx = V1)
   case first =>
    by_cases hw : word = ⟨#[]⟩
    ·subst hw
     have HO : Hid (ofWord ⟨#[]⟩ k = true) := by simp [Hid, ofWord]
     go_wp2
     go_meet
     case rel => exact ⟨by rw [uh HO], rfl⟩
    ·have hne := list_some word hw
     by_cases hkw : k.word = word
     ·have HO : Hid (ofWord word k = true) := by simp [Hid, ofWord, hkw]
      rw [hkw] at x2
      clear hkw hw
      go_wp2
      go_meet
      case rel => exact ⟨by rw [uh HO], rfl⟩
     ·have HO : Hid (ofWord word k = false) := by simp [Hid, ofWord, hkw, hw]
      have hbe : (k.word.toList == word.toList) = false := by
       rw [beq_eq_false_iff_ne, ByteArray.toList_eq, ByteArray.toList_eq]
       exact fun e => hkw (ByteArray.ext (Array.toList_inj.1 e))
      clear hkw hw
      go_wp2
      go_meet
      case rel => exact ⟨by rw [uh HO], rfl⟩
   case rest =>
    obtain ⟨rfl, hwc⟩ := hcut
    obtain rfl : V1 = wc := hwc.symm
    clear hwc
    have HRo1 := zh ((uh HRo).carry (uh HBk))
    have HB1 := zh ((uh HB).trans ((uh HBk).mono (uh HB).size))
    have x3 := (uh HBx).c3
    have hs0 := (uh HB1).size
    clear hV1 HBk HB HRo x2 z0 z1 z2 z3
    cases hof : ofWord word k with
    | true =>
     have HL : Hid (leadG (d.edges.take (j + 1)) word = leadG (d.edges.take j) word ++ [k.b]) := by
      unfold Hid
      rw [uh HTk, leadG_snoc, hof]
      rfl
     generalize leadG (d.edges.take j) word = Lj at *
     have HBy := zh (below_box V1 (.cells #[.int .i64 k.b] 3))
     have HRo2 := zh ((uh HRo1).carry (uh HBy))
     have HB2 := zh ((uh HB1).trans ((uh HBy).mono (uh HB1).size))
     have hcy := cell_new V1 (.int .i64 k.b) 3
     have hLj : Lj.length <= 1000000 := by omega
     have hbs := (uh HB2).size
     clear HRo1 HB1 HBy hof
     go_wp2_with (first
      | (at_builtin; refine wpList_appN _ rfl (.tmp 25) (.tmp 28) rfl w.heap.size _ Lj rfl (uh HRo2) V1.heap.size k.b rfl hcy hLj hbs ?_))
     intro v9 W7 r1 r2
     have HR7 := zh r1
     have HB7 := zh (grown_below (uh HB2) (uh HRo2) r2 hbs)
     obtain ⟨ad7, cap7, rfl⟩ := row_slice (show World.ownsRow _ _ _ _ _ _ _ from r1)
     have hlen7 : (Lj ++ [k.b]).length = Lj.length + 1 := by simp
     rw [hlen7] at HR7
     clear r1 r2 HRo2 HB2 hcy hbs x3 hs0
     go_wp2
     go_roundw
     case rel => exact ⟨j + 1, by omega, by go_num, by rw [uh HL]; first | exact uh HR7 | (rw [hlen7]; exact uh HR7), uh HB7⟩
     case measure => simp [intOf]; omega
    | false =>
     have HL : Hid (leadG (d.edges.take (j + 1)) word = leadG (d.edges.take j) word) := by
      unfold Hid
      rw [uh HTk, leadG_snoc, hof]
      simp
     go_wp2
     go_roundw
     case rel => exact ⟨j + 1, by omega, by go_num, by rw [uh HL]; exact uh HRo1, uh HB1⟩
     case measure => simp [intOf]; omega
  ·obtain rfl : j = d.edges.length := by omega
   have hlt' : ¬ (d.edges.length : Int) < (d.edges.length : Int) := by omega
   rw [List.take_length] at HRo ⊢
   have HSo := zh (sort_ints (leadG d.edges word) _ wr w.heap.size (by have := leadG_le d.edges word; omega) (uh HRo))
   have HLe : Hid ((sortedI (leadG d.edges word)).length = (leadG d.edges word).length) := sortedI_length _
   go_wp2_with fail
   refine (uh HSo).mono ?_
   rintro e W2 ⟨rfl, r1, r2⟩
   have HF : Hid (NextSays w (nextG d.edges word) (.returned (.slice ado (leadG d.edges word).length co)) W2) := ⟨_, rfl, r1, grown_below (uh HB) (uh HRo) r2 (uh HB).size⟩
   clear r1 r2 HSo HRo HB
   go_wp2
   go_ret
   exact uh HF
end Go.Proofs.YtbmkmfoaoganeaaGreatDoor

namespace Go.Proofs.YtbmkmfoaoganeaaGreatDoor
def visit (a : Int) (st : List (Int × Int) × List Int) (b : Int) : List (Int × Int) × List Int :=
 if b ∈ st.1.map (·.1) then st else (st.1 ++ [(b, a)], st.2 ++ [b])
def visits (nx : Int -> List Int) (st : List (Int × Int) × List Int) (a : Int) : List (Int × Int) × List Int := (nx a).foldl (visit a) st
def ringStep (nx : Int -> List Int) (st : List (Int × Int) × List Int) : List (Int × Int) × List Int := st.2.foldl (visits nx) (st.1, [])
def rounds (nx : Int -> List Int) (n : Int) : Nat -> List (Int × Int) × List Int
 | 0 => ([(n, n)], [n])
 | i + 1 => ringStep nx (rounds nx n i)
structure Since (nx : Int -> List Int) (c0 : List (Int × Int)) (ring : Int -> Prop) (st : List (Int × Int) × List Int) (new : List (Int × Int)) : Prop where
 came : st.1 = c0 ++ new
 outer : st.2 = new.map (·.1)
 nodup : (st.1.map (·.1)).Nodup
 edge : ∀ p, p ∈ new -> ring p.2 /\ p.1 ∈ nx p.2
theorem Since.one {nx : Int -> List Int} {c0 : List (Int × Int)} {ring : Int -> Prop} {st : List (Int × Int) × List Int} {new : List (Int × Int)} (h : Since nx c0 ring st new) {a b : Int} (ha : ring a) (hb : b ∈ nx a) : ∃ new', Since nx c0 ring (visit a st b) new' /\ (∀ p, p ∈ new -> p ∈ new') /\ b ∈ (visit a st b).1.map (·.1) := by
 unfold visit
 by_cases q : b ∈ st.1.map (·.1)
 ·rw [if_pos q]
  exact ⟨new, h, fun _ h => h, q⟩
 ·rw [if_neg q]
  refine ⟨new ++ [(b, a)], ⟨?_, ?_, ?_, ?_⟩, fun p hp => by simp [hp], by simp⟩
  ·show st.1 ++ [(b, a)] = _
   rw [h.came, List.append_assoc]
  ·show st.2 ++ [b] = _
   rw [h.outer]
   simp
  ·show ((st.1 ++ [(b, a)]).map (·.1)).Nodup
   rw [List.map_append, List.nodup_append]
   refine ⟨h.nodup, by simp, ?_⟩
   intro x hx y hy e
   simp at hy
   subst hy e
   exact q hx
  ·intro p hp
   rcases List.mem_append.1 hp with hp | hp
   ·exact h.edge p hp
   ·obtain rfl := List.mem_singleton.1 hp
    exact ⟨ha, hb⟩
theorem visit_keys (a b : Int) (st : List (Int × Int) × List Int) (x : Int) (h : x ∈ st.1.map (·.1)) : x ∈ (visit a st b).1.map (·.1) := by
 unfold visit
 split
 ·exact h
 ·simp at h ⊢
  exact .inl h
theorem fold_keys (a : Int) : ∀ (l : List Int) (st : List (Int × Int) × List Int) (x : Int), x ∈ st.1.map (·.1) -> x ∈ (l.foldl (visit a) st).1.map (·.1)
 | [], _, _, h => h
 | b :: l, st, x, h => fold_keys a l (visit a st b) x (visit_keys a b st x h)
theorem Since.row {nx : Int -> List Int} {c0 : List (Int × Int)} {ring : Int -> Prop} {a : Int} (ha : ring a) : ∀ (l : List Int) (st : List (Int × Int) × List Int) (new : List (Int × Int)), (∀ b, b ∈ l -> b ∈ nx a) -> Since nx c0 ring st new -> ∃ new', Since nx c0 ring (l.foldl (visit a) st) new' /\ ∀ b, b ∈ l -> b ∈ (l.foldl (visit a) st).1.map (·.1)
 | [], st, new, _, h => ⟨new, h, fun b hb => by cases hb⟩
 | b :: l, st, new, hl, h => by
  obtain ⟨n1, h1, _, hb⟩ := h.one ha (hl b (by simp))
  obtain ⟨n2, h2, h3⟩ := Since.row ha l (visit a st b) n1 (fun c hc => hl c (by simp [hc])) h1
  refine ⟨n2, h2, fun c hc => ?_⟩
  rcases List.mem_cons.1 hc with rfl | hc
  ·exact fold_keys a l _ _ hb
  ·exact h3 c hc
theorem visits_keys (nx : Int -> List Int) : ∀ (l : List Int) (st : List (Int × Int) × List Int) (x : Int), x ∈ st.1.map (·.1) -> x ∈ (l.foldl (visits nx) st).1.map (·.1)
 | [], _, _, h => h
 | a :: l, st, x, h => visits_keys nx l _ x (fold_keys a (nx a) st x h)
theorem Since.ringed {nx : Int -> List Int} {c0 : List (Int × Int)} {ring : Int -> Prop} : ∀ (l : List Int) (st : List (Int × Int) × List Int) (new : List (Int × Int)), (∀ a, a ∈ l -> ring a) -> Since nx c0 ring st new -> ∃ new', Since nx c0 ring (l.foldl (visits nx) st) new' /\ ∀ a, a ∈ l -> ∀ b, b ∈ nx a -> b ∈ (l.foldl (visits nx) st).1.map (·.1)
 | [], st, new, _, h => ⟨new, h, fun a ha => by cases ha⟩
 | a :: l, st, new, hl, h => by
  obtain ⟨n1, h1, hb⟩ := Since.row (nx := nx) (hl a (by simp)) (nx a) st new (fun b hb => hb) h
  obtain ⟨n2, h2, h3⟩ := Since.ringed l (visits nx st a) n1 (fun c hc => hl c (by simp [hc])) h1
  refine ⟨n2, h2, fun c hc b hbn => ?_⟩
  rcases List.mem_cons.1 hc with rfl | hc
  ·exact visits_keys nx l _ _ (hb b hbn)
  ·exact h3 c hc b hbn
def cameK (nx : Int -> List Int) (n : Int) (i : Nat) : List Int := (rounds nx n i).1.map (·.1)
theorem ring_more {nx : Int -> List Int} {n : Int} (i : Nat) (h : (cameK nx n i).Nodup) : ∃ new, Since nx (rounds nx n i).1 (· ∈ (rounds nx n i).2) (rounds nx n (i + 1)) new /\ ∀ a, a ∈ (rounds nx n i).2 -> ∀ b, b ∈ nx a -> b ∈ cameK nx n (i + 1) := by
 obtain ⟨new, h1, h2⟩ := Since.ringed (nx := nx) (c0 := (rounds nx n i).1) (ring := (· ∈ (rounds nx n i).2)) (rounds nx n i).2 ((rounds nx n i).1, []) [] (fun _ h => h) ⟨by simp, rfl, h, fun p hp => by cases hp⟩
 exact ⟨new, h1, h2⟩
theorem came_nodup (nx : Int -> List Int) (n : Int) : ∀ i, (cameK nx n i).Nodup
 | 0 => by simp [cameK, rounds]
 | i + 1 => by
  obtain ⟨new, h, _⟩ := ring_more i (came_nodup nx n i)
  exact h.nodup
theorem step_of (nx : Int -> List Int) (n : Int) (i : Nat) : ∃ new, Since nx (rounds nx n i).1 (· ∈ (rounds nx n i).2) (rounds nx n (i + 1)) new /\ ∀ a, a ∈ (rounds nx n i).2 -> ∀ b, b ∈ nx a -> b ∈ cameK nx n (i + 1) := ring_more i (came_nodup nx n i)
theorem came_mono (nx : Int -> List Int) (n : Int) (i : Nat) : (rounds nx n i).1 <+: (rounds nx n (i + 1)).1 := by
 obtain ⟨new, h, _⟩ := step_of nx n i
 rw [h.came]
 exact List.prefix_append _ _
theorem came_le (nx : Int -> List Int) (n : Int) (i : Nat) : ∀ k, (rounds nx n i).1 <+: (rounds nx n (i + k)).1
 | 0 => List.prefix_refl _
 | k + 1 => (came_le nx n i k).trans (came_mono nx n (i + k))
theorem ring_came (nx : Int -> List Int) (n : Int) : ∀ i b, b ∈ (rounds nx n i).2 -> b ∈ cameK nx n i
 | 0, b, h => by simpa [cameK, rounds] using h
 | i + 1, b, h => by
  obtain ⟨new, hs, _⟩ := step_of nx n i
  rw [hs.outer] at h
  unfold cameK
  rw [hs.came, List.map_append]
  exact List.mem_append_right _ h
theorem ring_new (nx : Int -> List Int) (n : Int) (i : Nat) (b : Int) (h : b ∈ (rounds nx n (i + 1)).2) : b ∉ cameK nx n i := by
 obtain ⟨new, hs, _⟩ := step_of nx n i
 rw [hs.outer] at h
 have hn := hs.nodup
 rw [hs.came, List.map_append, List.nodup_append] at hn
 exact fun q => hn.2.2 b q b h rfl
theorem came_ring (nx : Int -> List Int) (n : Int) (i : Nat) (b : Int) (h : b ∈ cameK nx n (i + 1)) : b ∈ cameK nx n i \/ b ∈ (rounds nx n (i + 1)).2 := by
 obtain ⟨new, hs, _⟩ := step_of nx n i
 unfold cameK at h
 rw [hs.came, List.map_append] at h
 rcases List.mem_append.1 h with h | h
 ·exact .inl h
 ·exact .inr (by rw [hs.outer]; exact h)
theorem empty_on (nx : Int -> List Int) (n : Int) (i : Nat) (h : (rounds nx n i).2 = []) : rounds nx n (i + 1) = ((rounds nx n i).1, []) := by
 show ringStep nx (rounds nx n i) = _
 unfold ringStep
 rw [h]
 rfl
theorem empty_all (nx : Int -> List Int) (n : Int) (i : Nat) (h : (rounds nx n i).2 = []) : ∀ k, rounds nx n (i + k) = ((rounds nx n i).1, [])
 | 0 => by rw [<- h]; rfl
 | k + 1 => by
  have e := empty_all nx n i h k
  have := empty_on nx n (i + k) (by rw [e])
  rw [e] at this
  exact this
theorem came_in {nx : Int -> List Int} {n : Int} {N : List Int} (hn : n ∈ N) (hN : ∀ a, a ∈ N -> ∀ b, b ∈ nx a -> b ∈ N) : ∀ i b, b ∈ cameK nx n i -> b ∈ N
 | 0, b, h => by
  simp [cameK, rounds] at h
  rw [h]
  exact hn
 | i + 1, b, h => by
  rcases came_ring nx n i b h with h | h
  ·exact came_in hn hN i b h
  ·obtain ⟨new, hs, _⟩ := step_of nx n i
   rw [hs.outer] at h
   obtain ⟨p, hp, rfl⟩ := List.mem_map.1 h
   obtain ⟨e1, e2⟩ := hs.edge p hp
   exact hN p.2 (came_in hn hN i p.2 (ring_came nx n i p.2 e1)) p.1 e2
theorem came_many (nx : Int -> List Int) (n : Int) : ∀ i, (rounds nx n i).2 ≠ [] -> i + 1 <= (rounds nx n i).1.length
 | 0, _ => by simp [rounds]
 | i + 1, h => by
  have hi : (rounds nx n i).2 ≠ [] := fun e => h (by rw [empty_on nx n i e])
  have := came_many nx n i hi
  obtain ⟨new, hs, _⟩ := step_of nx n i
  rw [hs.came, List.length_append]
  have : new ≠ [] := fun e => h (by rw [hs.outer, e]; rfl)
  have := List.length_pos_iff.2 this
  omega
theorem nodup_le {l N : List Int} (h : l.Nodup) (hs : ∀ x, x ∈ l -> x ∈ N) : l.length <= N.length := by
 induction l generalizing N with
 | nil => simp
 | cons a l ih =>
  obtain ⟨h1, h2⟩ := List.nodup_cons.1 h
  have ha := hs a (by simp)
  have := ih (N := N.erase a) h2 (fun x hx => (List.mem_erase_of_ne (fun e => h1 (by rw [<- e]; exact hx))).2 (hs x (by simp [hx])))
  rw [List.length_erase_of_mem ha] at this
  have := List.length_pos_of_mem ha
  simp
  omega
structure IsWay (nx : Int -> List Int) (n : Int) (i : Nat) (w : List Int) (b : Int) : Prop where
 len : w.length = i + 1
 first : w[0]? = some n
 last : w[i]? = some b
 step : ∀ j a c, j < i -> w[j]? = some a -> w[j + 1]? = some c -> c ∈ nx a /\ (c, a) ∈ (rounds nx n i).1
 on : ∀ j a, w[j]? = some a -> a ∈ (rounds nx n j).2
theorem way_of (nx : Int -> List Int) (n : Int) : ∀ i b, b ∈ (rounds nx n i).2 -> ∃ w, IsWay nx n i w b
 | 0, b, h => by
  have : b = n := by simpa [rounds] using h
  subst this
  refine ⟨[b], rfl, rfl, rfl, fun j a c hj => by omega, fun j a h1 => ?_⟩
  cases j with
  | zero => simp at h1; subst h1; simp [rounds]
  | succ j => simp at h1
 | i + 1, b, h => by
  obtain ⟨new, hs, _⟩ := step_of nx n i
  have hb := h
  rw [hs.outer] at h
  obtain ⟨p, hp, rfl⟩ := List.mem_map.1 h
  obtain ⟨e1, e2⟩ := hs.edge p hp
  obtain ⟨w, hw⟩ := way_of nx n i p.2 e1
  have hin : p ∈ (rounds nx n (i + 1)).1 := by
   rw [hs.came]
   exact List.mem_append_right _ hp
  have hl := hw.len
  refine ⟨w ++ [p.1], by simp [hw.len], ?_, ?_, fun j a c hj h1 h2 => ?_, fun j a h1 => ?_⟩
  ·rw [List.getElem?_append_left (by omega)]; exact hw.first
  ·rw [List.getElem?_append_right (by omega)]; simp [hl]
  ·rw [List.getElem?_append_left (by omega)] at h1
   by_cases q : j < i
   ·rw [List.getElem?_append_left (by omega)] at h2
    obtain ⟨k1, k2⟩ := hw.step j a c q h1 h2
    exact ⟨k1, (came_mono nx n i).subset k2⟩
   ·obtain rfl : j = i := by omega
    rw [hw.last] at h1
    cases h1
    rw [List.getElem?_append_right (by omega)] at h2
    simp [hl] at h2
    subst h2
    exact ⟨e2, hin⟩
  ·by_cases q : j < w.length
   ·rw [List.getElem?_append_left q] at h1
    exact hw.on j a h1
   ·rw [List.getElem?_append_right (by omega)] at h1
    have hj : j = i + 1 := by
     rcases Nat.lt_or_ge j (w.length + 1) with r | r
     ·omega
     ·rw [List.getElem?_eq_none (by simp; omega)] at h1; cases h1
    subst hj
    simp [hl] at h1
    subst h1
    exact hb
theorem ring_of (nx : Int -> List Int) (n : Int) : ∀ i b, b ∈ cameK nx n i -> ∃ j, j <= i /\ b ∈ (rounds nx n j).2
 | 0, b, h => ⟨0, Nat.le_refl _, by simpa [cameK, rounds] using h⟩
 | i + 1, b, h => by
  rcases came_ring nx n i b h with h | h
  ·obtain ⟨j, hj, hb⟩ := ring_of nx n i b h
   exact ⟨j, by omega, hb⟩
  ·exact ⟨i + 1, Nat.le_refl _, h⟩
theorem keys_le (nx : Int -> List Int) (n : Int) (i k : Nat) (b : Int) (h : b ∈ cameK nx n i) : b ∈ cameK nx n (i + k) := by
 obtain ⟨p, hp, rfl⟩ := List.mem_map.1 h
 exact List.mem_map.2 ⟨p, (came_le nx n i k).subset hp, rfl⟩
theorem ring_one (nx : Int -> List Int) (n : Int) (i j : Nat) (b : Int) (h1 : b ∈ (rounds nx n i).2) (h2 : b ∈ cameK nx n j) : i <= j := by
 rcases Nat.lt_or_ge j i with q | q
 ·exfalso
  obtain ⟨k, rfl⟩ : ∃ k, i = k + 1 := ⟨i - 1, by omega⟩
  exact ring_new nx n k b h1 (by
   have := keys_le nx n j (k - j) b h2
   rwa [show j + (k - j) = k by omega] at this)
 ·exact q
end Go.Proofs.YtbmkmfoaoganeaaGreatDoor

namespace Go.Proofs.YtbmkmfoaoganeaaGreatDoor
open Go.RowKit Go.Maps
def numE : Value -> Option (DataW Unit × List MemPlace)
 | .int .i64 n => some (.lit (.int .i64 n), [])
 | _ => none
theorem numE_inv {v : Value} {n : Int} {ps : List MemPlace} (h : numE v = some (.lit (.int .i64 n), ps)) : v = .int .i64 n := by
 unfold numE at h
 split at h
 ·simp only [Option.some.injEq, Prod.mk.injEq, DataW.lit.injEq, Lit.int.injEq] at h
  rw [h.1.2]
 ·cases h
theorem numE_some {v : Value} {z : DataW Unit × List MemPlace} (h : numE v = some z) : ∃ n, v = .int .i64 n := by
 unfold numE at h
 split at h
 ·exact ⟨_, rfl⟩
 ·cases h
structure KeysC (D : DataW Unit) (C : List (Int × Int)) : Prop where
 there : ∀ x, x ∈ C -> D.atKey (.int .i64 x.1) zd = .lit (.int .i64 x.2)
 has : ∀ n, Maps.has D (.int .i64 n) = decide (n ∈ C.map (·.1))
 size : Maps.size D = C.length
theorem keysC_none : KeysC (.map []) [] := ⟨by simp, fun _ => rfl, rfl⟩
theorem KeysC.add {D : DataW Unit} {C : List (Int × Int)} (h : KeysC D C) (ht : Tidy D) (b a : Int) (hn : b ∉ C.map (·.1)) : KeysC (D.put (.int .i64 b) (.lit (.int .i64 a))) (C ++ [(b, a)]) := by
 refine ⟨fun x hx => ?_, fun n => ?_, ?_⟩
 ·rcases List.mem_append.1 hx with hx | hx
  ·have hne : x.1 ≠ b := fun e => hn (List.mem_map.2 ⟨x, hx, e⟩)
   rw [Maps.atKey_put_other (lit_ne hne)]
   exact h.there x hx
  ·rw [List.mem_singleton] at hx
   subst hx
   exact Maps.atKey_put_same (k := .int .i64 b) ht.isMap trivial _ _
 ·by_cases q : n = b
  ·subst q
   rw [Maps.has_put_same (k := .int .i64 n) ht.isMap trivial]
   simp
  ·rw [Maps.has_put_other (lit_ne q), h.has n]
   simp [q]
 ·rw [Maps.size_put ht, h.has b, h.size]
  simp only [hn, decide_false, List.length_append, List.length_singleton]
  rfl
def CameW (w : World) (m : Nat) (C : List (Int × Int)) : Prop := ∃ D, w.ownsMap Tryz.prog 3 numE m C.length D /\ KeysC D C
theorem CameW.keeps {w w' : World} {m : Nat} {C : List (Int × Int)} {H : Nat -> Prop} (h : CameW w m C) (hk : Keeps H w w') (hH : ¬ H m) : CameW w' m C := by
 obtain ⟨D, h1, h2⟩ := h
 exact ⟨D, ownsMap_keeps h1 hk hH, h2⟩
theorem CameW.lt {w : World} {m : Nat} {C : List (Int × Int)} (h : CameW w m C) : m < w.heap.size := by
 obtain ⟨D, h1, _⟩ := h
 exact h1.lt
theorem CameW.below {w w' : World} {m : Nat} {C : List (Int × Int)} (h : CameW w m C) (hb : Below w.heap.size w w') : CameW w' m C := h.keeps (Keeps.of_below (fun _ => False) hb zr) (fun f => f)
theorem came_new (w : World) : CameW (w.alloc (.map #[] 0)) w.heap.size [] := ⟨.map [], World.ownsMap_made w Tryz.prog 3 numE, keysC_none⟩
theorem zero_int (w : World) : (zeroValue 3).run Tryz.prog w = .ok (.int .i64 0) w := by kernel_rfl
theorem CameW.store {w : World} {m : Nat} {C : List (Int × Int)} (h : CameW w m C) (b a : Int) (hb : (Lit.int .i64 b).wf = true) (hn : b ∉ C.map (·.1)) (hl : C.length <= 1000000) :
  ∃ w', (Instr.mapUpdate 158 (.map (some m)) (.int .i64 b) (.int .i64 a)).run Tryz.prog w = .ok () w' /\ CameW w' m (C ++ [(b, a)]) /\ w.mapTurned w' m := by
 obtain ⟨D, h1, h2⟩ := h
 obtain ⟨w', r1, r2, r3⟩ := h1.store keyedV Tryz.underlying158 (by unfold maxLen; omega) (keyOf_int_mk Tryz.underlying3 hb) (val := .int .i64 a) (d := .lit (.int .i64 a)) (ps := []) rfl
 have h3 := h2.add (h1.tidy keyedV) b a hn
 have h4 := ownsMap_size r2
 rw [h3.size] at h4
 exact ⟨w', r1, ⟨_, h4, h3⟩, r3⟩
theorem wpList_insC (w : World) {ops : Array Oper} {rest : List Oper} {o : Oper} {a : Act} {Q : Exit -> Act -> World -> Prop} (hgd : o.guard = none) (mo ko vo : Operand)
  (ho : o.op = .insert 158 mo ko vo \/ o.op = .mapUpdate 158 mo ko vo) (m : Nat) (C : List (Int × Int)) (b x : Int) (hm : a.eval mo = .map (some m)) (hk : a.eval ko = .int .i64 b) (hv : a.eval vo = .int .i64 x)
  (hown : CameW w m C) (hb : (Lit.int .i64 b).wf = true) (hn : b ∉ C.map (·.1)) (hl : C.length <= 1000000)
  (h : ∀ w', CameW w' m (C ++ [(b, x)]) -> w.mapTurned w' m -> wpList Tryz.prog ops Q rest (a.put o.dst undef) w') : wpList Tryz.prog ops Q (o :: rest) a w := by
 refine wpList_plain hgd fun K' hK' => ?_
 obtain ⟨w', hrun, r1, r2⟩ := hown.store b x hb hn hl
 unfold Oper.wp
 rcases ho with ho | ho
 ·simp [execOp, ho, hm, hk, hv, hrun, Result.andThen]
  exact hK' _ _ (h w' r1 r2)
 ·simp [execOp, ho, hm, hk, hv, hrun, Result.andThen]
  exact hK' _ _ (h w' r1 r2)
theorem CameW.look {w : World} {m : Nat} {C : List (Int × Int)} (h : CameW w m C) (b : Int) (hb : (Lit.int .i64 b).wf = true) :
  ∃ c : Int, (Instr.lookup 158 (.map (some m)) (.int .i64 b) true).run Tryz.prog w = .ok (.tuple #[.int .i64 c, .bool (decide (b ∈ C.map (·.1)))]) w /\ ∀ x, x ∈ C -> x.1 = b -> c = x.2 := by
 obtain ⟨D, h1, h2⟩ := h
 obtain ⟨v, ps, hr, hv⟩ := h1.look_ok keyedV Tryz.underlying158 (zero_int w) (zd := zd) (zp := []) rfl (keyOf_int_mk Tryz.underlying3 hb)
 obtain ⟨c, rfl⟩ := numE_some hv
 refine ⟨c, by rw [hr, h2.has b], fun x hx e => ?_⟩
 subst e
 rw [h2.there x hx] at hv
 have := numE_inv hv
 injection this
theorem CameW.look1 {w : World} {m : Nat} {C : List (Int × Int)} (h : CameW w m C) (x : Int × Int) (hx : x ∈ C) (hb : (Lit.int .i64 x.1).wf = true) :
  (Instr.lookup 158 (.map (some m)) (.int .i64 x.1) false).run Tryz.prog w = .ok (.int .i64 x.2) w := by
 obtain ⟨D, h1, h2⟩ := h
 obtain ⟨v, ps, hr, hv⟩ := h1.lookup keyedV Tryz.underlying158 (zero_int w) (zd := zd) (zp := []) rfl (keyOf_int_mk Tryz.underlying3 hb)
 rw [h2.there x hx] at hv
 rw [hr, numE_inv hv]
theorem visit_in {a b : Int} {st : List (Int × Int) × List Int} (h : b ∈ st.1.map (·.1)) : visit a st b = st := by
 unfold visit
 rw [if_pos h]
theorem visit_out {a b : Int} {st : List (Int × Int) × List Int} (h : b ∉ st.1.map (·.1)) : visit a st b = (st.1 ++ [(b, a)], st.2 ++ [b]) := by
 unfold visit
 rw [if_neg h]
theorem visit_take {a : Int} {st : List (Int × Int) × List Int} {l : List Int} {j : Nat} (h : j < l.length) : (l.take (j + 1)).foldl (visit a) st = visit a ((l.take j).foldl (visit a) st) l[j] := by
 rw [List.take_succ_eq_append_getElem h, List.foldl_append]
 rfl
theorem visits_take {nx : Int -> List Int} {st : List (Int × Int) × List Int} {l : List Int} {j : Nat} (h : j < l.length) : (l.take (j + 1)).foldl (visits nx) st = visits nx ((l.take j).foldl (visits nx) st) l[j] := by
 rw [List.take_succ_eq_append_getElem h, List.foldl_append]
 rfl
structure Good (ids : List Int) (st : List (Int × Int) × List Int) : Prop where
 nodup : (st.1.map (·.1)).Nodup
 all : ∀ b, b ∈ st.1.map (·.1) -> b ∈ ids
 ring : ∀ b, b ∈ st.2 -> b ∈ ids
 le : st.2.length <= st.1.length
theorem Good.visit {ids : List Int} {st : List (Int × Int) × List Int} (h : Good ids st) (a : Int) {b : Int} (hb : b ∈ ids) : Good ids (visit a st b) := by
 by_cases q : b ∈ st.1.map (·.1)
 ·rw [visit_in q]
  exact h
 ·rw [visit_out q]
  refine ⟨?_, fun x hx => ?_, fun x hx => ?_, ?_⟩
  ·rw [List.map_append]
   refine List.nodup_append.2 ⟨h.nodup, by simp, fun x hx y hy e => ?_⟩
   simp at hy
   subst hy
   subst e
   exact q hx
  ·rw [List.map_append] at hx
   rcases List.mem_append.1 hx with r | r
   ·exact h.all x r
   ·simp at r
    rw [r]
    exact hb
  ·rcases List.mem_append.1 hx with r | r
   ·exact h.ring x r
   ·simp at r
    rw [r]
    exact hb
  ·have := h.le
   simp
   omega
theorem Good.row {ids : List Int} (a : Int) : ∀ (l : List Int) {st : List (Int × Int) × List Int}, Good ids st -> (∀ b, b ∈ l -> b ∈ ids) -> Good ids (l.foldl (Go.Proofs.YtbmkmfoaoganeaaGreatDoor.visit a) st)
 | [], _, h, _ => h
 | b :: l, _, h, hl => Good.row a l (h.visit a (hl b List.mem_cons_self)) (fun x hx => hl x (List.mem_cons_of_mem _ hx))
theorem Good.rows {ids : List Int} {nx : Int -> List Int} (hc : ∀ a, a ∈ ids -> ∀ b, b ∈ nx a -> b ∈ ids) : ∀ (l : List Int) {st : List (Int × Int) × List Int}, Good ids st -> (∀ a, a ∈ l -> a ∈ ids) -> Good ids (l.foldl (visits nx) st)
 | [], _, h, _ => h
 | a :: l, _, h, hl => Good.rows hc l (Good.row a (nx a) h (hc a (hl a List.mem_cons_self))) (fun x hx => hl x (List.mem_cons_of_mem _ hx))
theorem Good.start {ids : List Int} {st : List (Int × Int) × List Int} (h : Good ids st) : Good ids (st.1, []) := ⟨h.nodup, h.all, fun _ hb => absurd hb List.not_mem_nil, Nat.zero_le _⟩
theorem Good.rounds {ids : List Int} {nx : Int -> List Int} (hc : ∀ a, a ∈ ids -> ∀ b, b ∈ nx a -> b ∈ ids) {n : Int} (hn : n ∈ ids) : ∀ i, Good ids (rounds nx n i)
 | 0 => ⟨by simp [Go.Proofs.YtbmkmfoaoganeaaGreatDoor.rounds], by simpa [Go.Proofs.YtbmkmfoaoganeaaGreatDoor.rounds] using hn, by simpa [Go.Proofs.YtbmkmfoaoganeaaGreatDoor.rounds] using hn, by simp [Go.Proofs.YtbmkmfoaoganeaaGreatDoor.rounds]⟩
 | i + 1 => Good.rows hc _ (Good.rounds hc hn i).start (Good.rounds hc hn i).ring
theorem Good.len {ids : List Int} {st : List (Int × Int) × List Int} (h : Good ids st) : st.1.length <= ids.length := by
 have := nodup_le h.nodup h.all
 rwa [List.length_map] at this
theorem wpList_appNl (w : World) {ops : Array Oper} {rest : List Oper} {o : Oper} {a : Act} {Q : Exit -> Act -> World -> Prop} (hgd : o.guard = none) (s x : Operand)
  (ho : o.op = .call { callee := .builtin .append, args := #[s, x], argTypes := #[89, 89] })
  (base : Nat) (v : Value) (L : List Int) (hs : a.eval s = v) (hown : RowN w base v L)
  (b : Nat) (k : Int) (hx : a.eval x = .slice (some ⟨b, 0, none⟩) 1 1) (hc : w.cell? ⟨b, 0, none⟩ = some (.int .i64 k))
  (hlen : L.length <= 1000000) (hbase : base <= w.heap.size)
  (h : ∀ g cap w', RowN w' base (.slice (some ⟨g, 0, none⟩) (L.length + 1) cap) (L ++ [k]) -> w.grownBy w' v.ownBlock -> (v.ownBlock = some g \/ g = w.heap.size) -> wpList Tryz.prog ops Q rest (a.put o.dst (.slice (some ⟨g, 0, none⟩) (L.length + 1) cap)) w') : wpList Tryz.prog ops Q (o :: rest) a w := by
 obtain ⟨i0, hi0, hz0, hz1, hz2⟩ := info_parts infoN
 refine wpList_append_lies w hgd s x 89 ho base 3 i0 (.int .i64 0) 1 8 Tryz.underlying89 hi0 hz0 hz1 hz2 rfl (by decide) v L.length (L.map (Value.int .i64)) hs hown ⟨b, 0, none⟩ 1 1 [.int .i64 k] hx rfl ?_ ?_ (by decide) ?_ ?_ hbase w.heap.size rfl ?_
 ·intro j u hj
  match j, hj with
  | 0, hj => simp at hj; subst hj; simpa [Addr.add] using hc
 ·intro u hu
  simp at hu
  subst hu; rfl
 ·unfold maxLen; omega
 ·omega
 ·intro g cap w' k1 k2 k3 _
  refine h g cap w' ?_ k2 k3
  unfold RowN
  simpa using k1
theorem RowN.cells {W : World} {base : Nat} {v : Value} {L : List Int} (h : RowN W base v L) : ∃ g ad c, v = .slice ad L.length c /\ ∀ j, (hj : j < L.length) -> ad = some ⟨g, 0, none⟩ /\ W.cell? ⟨g, j, none⟩ = some (.int .i64 L[j]) := by
 rcases (show World.ownsRow _ _ _ _ _ _ _ from h).2 with ⟨h1, h2⟩ | ⟨g, cap, cur, hv, _, hh, _, _, _, h6⟩
 ·exact ⟨0, none, 0, by rw [h1, h2], fun j hj => by omega⟩
 ·refine ⟨g, _, cap, hv, fun j hj => ⟨rfl, ?_⟩⟩
  unfold World.cell?
  simp only [hh]
  have q : cur.toList[j]? = (L.map (Value.int .i64))[j]? := by rw [<- h6, List.getElem?_take_of_lt (by omega)]
  simp [hj] at q
  simpa using q
theorem rowN_mono {w : World} {base base' : Nat} {v : Value} {L : List Int} (h : RowN w base v L) (hb : base' <= base) : RowN w base' v L :=
 ⟨h.1, h.2.imp id fun ⟨g, cap, cur, h1, h2, h3⟩ => ⟨g, cap, cur, h1, Nat.le_trans hb h2, h3⟩⟩
structure SpI (W1 : World) (mb : Nat) (st : List (Int × Int) × List Int) (o : Value) (y : World) : Prop where
 kp : Keeps (· = mb) W1 y
 came : CameW y mb st.1
 outer : RowN y W1.heap.size o st.2
 lt : mb < W1.heap.size
theorem SpI.below {W1 y y' : World} {mb : Nat} {st : List (Int × Int) × List Int} {o : Value} (h : SpI W1 mb st o y) (hb : Below y.heap.size y y') : SpI W1 mb st o y' :=
 ⟨h.kp.then (Keeps.of_below (· = mb) hb zr) (fun _ _ q => q), h.came.below hb, h.outer.carry hb, h.lt⟩
theorem SpI.out {W1 y : World} {mb : Nat} {st : List (Int × Int) × List Int} {o : Value} (h : SpI W1 mb st o y) : Out (· = mb) o := fun g e q => by
 have := (World.ownsRow.lt h.outer g e).1
 have := h.lt
 omega
structure SpN (W1 : World) (mb : Nat) (st : List (Int × Int) × List Int) (o : Value) (nv : Value) (nL : List Int) (y : World) : Prop where
 sp : SpI W1 mb st o y
 nxt : RowN y W1.heap.size nv nL
 ap : ∀ g, nv.ownBlock = some g -> o.ownBlock ≠ some g
theorem SpN.below {W1 y y' : World} {mb : Nat} {st : List (Int × Int) × List Int} {o nv : Value} {nL : List Int} (h : SpN W1 mb st o nv nL y) (hb : Below y.heap.size y y') : SpN W1 mb st o nv nL y' := ⟨h.sp.below hb, h.nxt.carry hb, h.ap⟩
theorem SpI.next {W1 y y' : World} {mb : Nat} {st : List (Int × Int) × List Int} {o nv : Value} {nL : List Int} (h : SpI W1 mb st o y) (hb : Below y.heap.size y y') (hn : RowN y' y.heap.size nv nL) : SpN W1 mb st o nv nL y' :=
 ⟨h.below hb, rowN_mono hn h.kp.size, fun g e q => by
  have := (World.ownsRow.lt hn g e).1
  have := (World.ownsRow.lt h.outer g q).2
  omega⟩
theorem SpN.store {W1 y y' : World} {mb : Nat} {st : List (Int × Int) × List Int} {o nv : Value} {nL : List Int} {C' : List (Int × Int)} (h : SpN W1 mb st o nv nL y) (hc : CameW y' mb C') (ht : y.mapTurned y' mb) : SpN W1 mb (C', st.2) o nv nL y' := by
 have hk := turned_keeps ht
 refine ⟨⟨h.sp.kp.then hk (fun _ _ q => q), hc, ownsRow_keeps h.sp.outer hk h.sp.out, h.sp.lt⟩, ownsRow_keeps h.nxt hk (fun g e q => ?_), h.ap⟩
 have := (World.ownsRow.lt h.nxt g e).1
 have := h.sp.lt
 omega
theorem SpN.grow {W1 y y' : World} {mb g cap : Nat} {st : List (Int × Int) × List Int} {o nv : Value} {nL L' : List Int} (h : SpN W1 mb st o nv nL y) (hr : RowN y' W1.heap.size (.slice (some ⟨g, 0, none⟩) L'.length cap) L') (hg : y.grownBy y' o.ownBlock) (ha : o.ownBlock = some g \/ g = y.heap.size) : SpN W1 mb (st.1, L') (.slice (some ⟨g, 0, none⟩) L'.length cap) nv nL y' := by
 have hk := keeps_grown hg
 have ho := h.sp.out
 have h1 : ¬ some mb = o.ownBlock := fun e => ho mb e.symm rfl
 refine ⟨⟨h.sp.kp.then hk (fun i hi e => ?_), h.sp.came.keeps hk h1, hr, h.sp.lt⟩, ownsRow_keeps h.nxt hk (fun i e q => h.ap i e q.symm), fun i e q => ?_⟩
 ·have := (World.ownsRow.lt h.sp.outer i e.symm).1
  omega
 ·have e2 : g = i := Option.some.inj q
  subst e2
  rcases ha with a | a
  ·exact h.ap g e a
  ·have := (World.ownsRow.lt h.nxt g e).2
   omega
structure SpT (w : World) (g m : Nat) (X : List (Int × Nat)) (Nd : Nat -> Gn) (Fs : Nat -> Nat -> Prop) (word : ByteArray) (nx : Int -> List Int) : Prop where
 gx : GraphX w g m X Nd Fs
 lead : ∀ x, x ∈ X -> nextG (Nd x.2).edges word = nx x.1
 closed : ∀ a, a ∈ X.map (·.1) -> ∀ b, b ∈ nx a -> b ∈ X.map (·.1)
 wf : ∀ a, a ∈ X.map (·.1) -> (Lit.int .i64 a).wf = true
 el : ∀ x, x ∈ X -> (Nd x.2).edges.length <= 100000
 len : X.length <= 4000
def SpreadSays (w : World) (C : List (Int × Int)) (e : Ending) (w' : World) : Prop := ∃ mb, e = .returned (.map (some mb)) /\ w.heap.size <= mb /\ CameW w' mb C /\ Below w.heap.size w w'
structure LpI (w : World) (mb : Nat) (st : List (Int × Int) × List Int) (r : Value) (y : World) : Prop where
 low : Below w.heap.size w y
 far : w.heap.size <= mb
 came : CameW y mb st.1
 ring : RowN y w.heap.size r st.2
 ap : r.ownBlock ≠ some mb
theorem lp_begin {w W0 : World} (n : Int) (hc : CameW W0 w.heap.size [(n, n)]) (ht : (w.alloc (.map #[] 0)).mapTurned W0 w.heap.size) :
  LpI w w.heap.size ([(n, n)], [n]) (.slice (some ⟨W0.heap.size, 0, none⟩) 1 1) (W0.alloc (.cells #[.int .i64 n] 3)) := by
 have hk := turned_keeps ht
 have b0 : Below w.heap.size w W0 := (below_box w (.map #[] 0)).trans (keeps_below hk (fun i e => by omega) (by simp))
 have hlt := hc.lt
 refine ⟨b0.trans ((below_box W0 _).mono b0.size), Nat.le_refl _, hc.below (below_box W0 _), ?_, fun e => ?_⟩
 ·exact World.ownsRow_lit (base := w.heap.size) (e := 3) (size := 1) W0 #[.int .i64 n] 1 b0.size (by decide) rfl
 ·have : W0.heap.size = w.heap.size := Option.some.inj e
  omega
theorem LpI.inside {w W1 : World} {mb : Nat} {st : List (Int × Int) × List Int} {r : Value} (h : LpI w mb st r W1) : SpI W1 mb (st.1, []) (.slice none 0 0) W1 :=
 ⟨Keeps.refl _ _, h.came, ⟨rfl, .inl ⟨rfl, rfl⟩⟩, h.came.lt⟩
theorem SpI.on {w W1 y : World} {mb : Nat} {st st' : List (Int × Int) × List Int} {r o : Value} (k : SpI W1 mb st' o y) (h : LpI w mb st r W1) : LpI w mb st' o y := by
 have hs := h.low.size
 exact ⟨h.low.trans (keeps_below k.kp (fun i e => by have := h.far; omega) hs), h.far, k.came, rowN_mono k.outer hs, fun e => k.out mb e rfl⟩
theorem nextG_le (E : List Ky) (word : ByteArray) : (nextG E word).length <= E.length := by
 unfold nextG
 rw [sortedI_length]
 exact leadG_le E word
theorem spread_ok {w : World} {g m : Nat} {X : List (Int × Nat)} {Nd : Nat -> Gn} {Fs : Nat -> Nat -> Prop} {word : ByteArray} {nx : Int -> List Int} (h : SpT w g m X Nd Fs word nx) (n : Int) (hn : n ∈ X.map (·.1)) (H : Nat) (hH : H <= 1099511627776) :
  Calls Tryz.prog 107 #[.pointer (some ⟨g, 0, none⟩), .int .i64 n, .string word, .int .i64 H] w (SpreadSays w (rounds nx n H).1) := by
 have HT := zh h
 have HN := zh hn
 have hmm := @run_makeMap Tryz.prog
 have hwn := h.wf n hn
 have HGd := zh (fun i => Good.rounds h.closed hn i)
 clear h hn
 go_enter Tryz.func107, Tryz.ntmps107
 go_wp2_with (first
  | (refine wpList_insC _ rfl (.tmp 18) (.tmp 19) (.tmp 20) (.inl rfl) w.heap.size [] n n rfl rfl rfl (came_new w) hwn (by simp) (by simp) ?_))
 intro W0 hc ht
 have HL0 := zh (lp_begin n hc ht)
 clear hc ht hmm hwn
 generalize hmb : w.heap.size = mb at *
 go_wp2
 generalize W0.alloc (.cells #[.int .i64 n] 3) = W2 at *
 generalize W0.heap.size = rb at *
 go_loopw [3, 10] (fun h r y => ∃ i : Nat, i <= H /\ h = .int .i64 ((H : Int) - i) /\ LpI w mb (rounds nx n i) r y) (fun h _ _ => (intOf h).toNat)
 case atStart => exact ⟨0, Nat.zero_le _, by simp, uh HL0⟩
 case round =>
  obtain ⟨i, hi, rfl, hL⟩ := hrel
  have HL := zh hL
  obtain ⟨rg, adr, cr, rfl, hfr⟩ := hL.ring.cells
  have HFr := zh hfr
  have HRl : Hid ((rounds nx n i).2.length <= 4000) := by
   have h1 := (uh HGd i).le
   have h2 := (uh HGd i).len
   have h3 := (uh HT).len
   rw [List.length_map] at h2
   unfold Hid
   omega
  clear hL hfr HL0
  by_cases hlt : i < H
  ·by_cases hre : (rounds nx n i).2 = []
   ·have HE : Hid ((rounds nx n H).1 = (rounds nx n i).1) := by
     have q := empty_all nx n i hre (H - i)
     rw [show i + (H - i) = H by omega] at q
     rw [Hid, q]
    have hl0 : (rounds nx n i).2.length = 0 := by rw [hre]; rfl
    have hp : (0 : Int) < (H : Int) - (i : Int) := by omega
    rw [hl0]
    have HF : Hid (SpreadSays w (rounds nx n H).1 (.returned (.map (some mb))) wr) := by
     unfold Hid
     rw [uh HE]
     exact ⟨mb, rfl, (uh HL).far, (uh HL).came, (uh HL).low⟩
    clear HE hre HFr
    go_wp2
    go_ret
    exact uh HF
   ·have hl0 : (0 : Int) < ((rounds nx n i).2.length : Int) := by
     have := List.length_pos_iff.2 hre
     omega
    have hp : (0 : Int) < (H : Int) - (i : Int) := by omega
    have HNx : Hid (rounds nx n (i + 1) = (rounds nx n i).2.foldl (visits nx) ((rounds nx n i).1, [])) := rfl
    have HGi := zh (uh HGd i)
    have HS0 := zh (uh HL).inside
    generalize rounds nx n i = st at *
    obtain ⟨C, R⟩ := st
    dsimp only at *
    generalize wr = W1 at *
    go_wp2
    go_loopw [11, 35] (fun o k y => ∃ j : Nat, j <= R.length /\ k = .int .i64 j /\ SpI W1 mb ((R.take j).foldl (visits nx) (C, [])) o y) (fun _ k _ => R.length - (intOf k).toNat)
    case atStart => exact ⟨0, Nat.zero_le _, rfl, uh HS0⟩
    case round =>
     obtain ⟨j, hj, rfl, hS⟩ := hrel
     have HS := zh hS
     clear hS HS0
     by_cases hjl : j < R.length
     ·have hjl' : (j : Int) < (R.length : Int) := by omega
      have hj0 : (0 : Int) <= (j : Int) := by omega
      obtain ⟨rfl, hca⟩ := uh HFr j hjl
      have HRa : Hid (R[j] ∈ X.map (·.1)) := (uh HGi).ring _ (List.getElem_mem hjl)
      have HTk : Hid ((R.take (j + 1)).foldl (visits nx) (C, []) = (nx R[j]).foldl (visit R[j]) ((R.take j).foldl (visits nx) (C, []))) := visits_take hjl
      have HGj : Hid (Good (X.map (·.1)) ((R.take j).foldl (visits nx) (C, []))) := Good.rows (uh HT).closed _ (uh HGi).start (fun a ha => (uh HGi).ring a (List.mem_of_mem_take ha))
      obtain ⟨a, ha⟩ : ∃ a, a = R[j] := ⟨_, rfl⟩
      rw [<- ha] at hca HRa HTk
      clear ha
      have hrm : ¬ rg = mb := fun e => (uh HL).ap (by rw [<- e]; rfl)
      have hcy : wr.cell? ⟨rg, j, none⟩ = some (.int .i64 a) := ((uh HS).kp.cell (p := ⟨rg, j, none⟩) (lt_of_cell hca) hrm).trans hca
      obtain ⟨⟨a', bx⟩, hx, e⟩ := List.mem_map.1 (uh HRa)
      obtain rfl : a' = a := e
      have HGy := zh ((uh HT).gx.below ((uh HL).low.trans (keeps_below (uh HS).kp (fun i e => by have := (uh HL).far; omega) (uh HL).low.size)))
      have hlk := lookG_at (uh HGy).map (a', bx) ((uh HT).wf a' (uh HRa)) hx
      have hcg := (uh HGy).c0
      have HNe := zh (gn_next ((uh HGy).node (a', bx) hx) word ((uh HT).el _ hx))
      have hnl : (nx a').length <= 100000 := by
       have h1 := nextG_le (Nd bx).edges word
       rw [(uh HT).lead (a', bx) hx] at h1
       exact Nat.le_trans h1 ((uh HT).el _ hx)
      rw [(uh HT).lead _ hx] at HNe
      dsimp only at HNe hlk
      have HCl := zh ((uh HT).closed a' (uh HRa))
      clear hca hx hrm HGy
      generalize nx a' = nL at *
      generalize (R.take j).foldl (visits nx) (C, []) = sj at *
      go_wp2_with fail
      refine (uh HNe).mono ?_
      rintro e W3 ⟨nv, rfl, hrn, hb3⟩
      have HP0 := zh ((uh HS).next hb3 hrn)
      obtain ⟨adn, cn, rfl⟩ := row_slice (show World.ownsRow _ _ _ _ _ _ _ from hrn)
      clear HNe HS hlk hcg hcy hb3 hrn
      go_wp2
      go_loopw [11, 48] (fun o k y => ∃ q : Nat, q <= nL.length /\ k = .int .i64 q /\ SpN W1 mb ((nL.take q).foldl (visit a') sj) o (.slice adn nL.length cn) nL y) (fun _ k _ => nL.length - (intOf k).toNat)
      case atStart => exact ⟨0, Nat.zero_le _, rfl, uh HP0⟩
      case round =>
       obtain ⟨q, hq, rfl, hP⟩ := hrel
       have HP := zh hP
       clear HP0
       by_cases hql : q < nL.length
       ·have hql' : (q : Int) < (nL.length : Int) := by omega
        have hq0 : (0 : Int) <= (q : Int) := by omega
        obtain ⟨ng, ad', c', e0, hfn⟩ := hP.nxt.cells
        injection e0 with e1 _ e3
        subst e1
        subst e3
        obtain ⟨rfl, hcb⟩ := hfn q hql
        clear hfn hP
        have HTq : Hid ((nL.take (q + 1)).foldl (visit a') sj = visit a' ((nL.take q).foldl (visit a') sj) nL[q]) := visit_take hql
        have HIb : Hid (nL[q] ∈ X.map (·.1)) := uh HCl _ (List.getElem_mem hql)
        have HGq : Hid (Good (X.map (·.1)) ((nL.take q).foldl (visit a') sj)) := Good.row a' _ (uh HGj) (fun b hb => uh HCl b (List.mem_of_mem_take hb))
        obtain ⟨b, hbb⟩ : ∃ b, b = nL[q] := ⟨_, rfl⟩
        rw [<- hbb] at hcb HTq HIb
        clear hbb
        have hwb := (uh HT).wf b (uh HIb)
        have hC1 := (uh HGq).len
        have hL1 := (uh HGq).le
        rw [List.length_map] at hC1
        have hX1 := (uh HT).len
        generalize (nL.take q).foldl (visit a') sj = sq at *
        obtain ⟨C1, L1⟩ := sq
        dsimp only at hC1 hL1
        obtain ⟨c, hlo, _⟩ := (uh HP).sp.came.look b hwb
        dsimp only at hlo
        by_cases hin : b ∈ C1.map (·.1)
        ·have HV : Hid (visit a' (C1, L1) b = (C1, L1)) := visit_in hin
         rw [decide_eq_true hin] at hlo
         clear hin
         go_wp2
         go_roundw
         case rel => exact ⟨q + 1, by omega, by go_num, by rw [uh HTq, uh HV]; exact uh HP⟩
         case measure => simp [intOf]; omega
        ·have HV : Hid (visit a' (C1, L1) b = (C1 ++ [(b, a')], L1 ++ [b])) := visit_out hin
         rw [decide_eq_false hin] at hlo
         have hC2 : C1.length <= 1000000 := by omega
         have hL2 : L1.length <= 1000000 := by omega
         go_wp2_with (first
          | (refine wpList_insC _ rfl (.tmp 60) (.tmp 61) (.tmp 62) (.inr rfl) mb C1 b a' rfl rfl rfl (uh HP).sp.came hwb hin hC2 ?_))
         intro W4 hc4 ht4
         have HP4 := zh (SpN.store (uh HP) hc4 ht4)
         have HP5 := zh ((uh HP4).below (below_box W4 (.cells #[.int .i64 b] 3)))
         have hcx := cell_new W4 (.int .i64 b) 3
         have hbs := (uh HP5).sp.kp.size
         clear hc4 ht4 HP4 HP hlo hcb hin
         go_wp2_with (first
          | (at_builtin; refine wpList_appNl _ rfl (.tmp 63) (.tmp 65) rfl W1.heap.size _ L1 rfl (uh HP5).sp.outer W4.heap.size b rfl hcx hL2 hbs ?_))
         intro g9 cap9 W5 r1 r2 r3
         have hl1 : (L1 ++ [b]).length = L1.length + 1 := by simp
         have HP6 := zh (SpN.grow (L' := L1 ++ [b]) (cap := cap9) (g := g9) (uh HP5) (by rw [hl1]; exact r1) r2 (r3.imp id (fun e => by rw [e]; simp)))
         rw [hl1] at HP6
         clear r1 r2 r3 HP5 hcx hbs
         go_wp2
         go_roundw
         case rel => exact ⟨q + 1, by omega, by go_num, by rw [uh HTq, uh HV]; exact uh HP6⟩
         case measure => simp [intOf]; omega
       ·obtain rfl : q = nL.length := by omega
        have hql' : ¬ (nL.length : Int) < (nL.length : Int) := by omega
        rw [List.take_length] at HP
        have hRl := uh HRl
        clear hP
        go_wp2
        go_roundw
        case rel =>
         refine ⟨_, _, _, _, _, _, ⟨j + 1, ?_, ?_, ?_⟩, rfl, rfl, rfl, rfl, rfl, rfl⟩
         ·omega
         ·go_num
         ·rw [uh HTk]
          exact (uh HP).sp
        case measure => simp [intOf]; omega
     ·obtain rfl : j = R.length := by omega
      have hjl' : ¬ (R.length : Int) < (R.length : Int) := by omega
      rw [List.take_length] at HS
      rw [<- uh HNx] at HS
      obtain ⟨go_, ado, co, rfl, _⟩ := (uh HS).outer.cells
      go_wp2
      go_roundw
      case rel => exact ⟨i + 1, by omega, by go_num, (uh HS).on (uh HL)⟩
      case measure => simp [intOf]; omega
  ·obtain rfl : i = H := by omega
   have hp : ¬ (0 : Int) < (i : Int) - (i : Int) := by omega
   have HF : Hid (SpreadSays w (rounds nx n i).1 (.returned (.map (some mb))) wr) := ⟨mb, rfl, (uh HL).far, (uh HL).came, (uh HL).low⟩
   go_wp2
   go_ret
   exact uh HF
end Go.Proofs.YtbmkmfoaoganeaaGreatDoor
