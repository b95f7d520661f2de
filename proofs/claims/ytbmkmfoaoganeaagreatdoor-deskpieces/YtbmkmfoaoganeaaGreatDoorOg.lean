/- Texts of one proof, one behind the other. -/
import Derived.Test.YtbmkmfoaoganeaaGreatDoorOd
import Derived.Maps.AppendAt
import Derived.Deep.AppendLies
set_option maxRecDepth 100000
set_option maxHeartbeats 16000000
namespace Go.Proofs.YtbmkmfoaoganeaaGreatDoor
open Go.RowKit Go.Maps
def Out (F : Nat -> Prop) (v : Value) : Prop := ∀ g, v.ownBlock = some g -> ¬ F g
theorem ownsRow_keeps {w w' : World} {F : Nat -> Prop} {base : Nat} {e : TypeId} {size : Nat} {v : Value} {n : Nat} {xs : List Value} (h : w.ownsRow base e size v n xs) (hk : Keeps F w w') (ho : Out F v) : w'.ownsRow base e size v n xs := by
 obtain ⟨h1, h2⟩ := h
 refine ⟨h1, ?_⟩
 rcases h2 with h2 | ⟨g, cap, cur, rfl, hg, hh, r⟩
 ·exact .inl h2
 ·refine .inr ⟨g, cap, cur, rfl, hg, ?_, r⟩
  rw [hk.block g (Array.getElem?_eq_some_iff.1 hh).1 (ho g rfl)]
  exact hh
structure Gn where
 kind : ByteArray
 edges : List Ky
 props : List (ByteArray × ByteArray)
def encR (p : ByteArray × ByteArray) : List Value := [.string p.1, .string p.2]
def encRs (l : List (ByteArray × ByteArray)) : List Value := l.flatMap encR
theorem encRs_snoc (l : List (ByteArray × ByteArray)) (p : ByteArray × ByteArray) : encRs (l ++ [p]) = encRs l ++ encR p := by simp [encRs]
def RowR (y : World) (base : Nat) (v : Value) (L : List (ByteArray × ByteArray)) : Prop := y.ownsRow base 171 2 v L.length (encRs L)
structure GnX (w : World) (b : Nat) (d : Gn) (ev pv : Value) : Prop where
 c0 : w.cell? ⟨b, 0, none⟩ = some (.string d.kind)
 c1 : w.cell? ⟨b, 1, none⟩ = some ev
 c2 : w.cell? ⟨b, 2, none⟩ = some pv
 f : ∀ i, w.frozen? ⟨b, i, none⟩ = false
 re : RowY w 0 ev d.edges
 rp : RowR w 0 pv d.props
 nb1 : ev.ownBlock ≠ some b
 nb2 : pv.ownBlock ≠ some b
 ne : ∀ g, ev.ownBlock = some g -> pv.ownBlock ≠ some g
def gnF (b : Nat) (ev pv : Value) (i : Nat) : Prop := i = b \/ ev.ownBlock = some i \/ pv.ownBlock = some i
def GnW (w : World) (b : Nat) (d : Gn) (F : Nat -> Prop) : Prop := ∃ ev pv, GnX w b d ev pv /\ F = gnF b ev pv
theorem GnX.lt {w : World} {b : Nat} {d : Gn} {ev pv : Value} (h : GnX w b d ev pv) : ∀ i, gnF b ev pv i -> i < w.heap.size := by
 rintro i (rfl | e | e)
 ·exact lt_of_cell h.c0
 ·exact (World.ownsRow.lt h.re i e).2
 ·exact (World.ownsRow.lt h.rp i e).2
theorem GnW.lt {w : World} {b : Nat} {d : Gn} {F : Nat -> Prop} (h : GnW w b d F) : ∀ i, F i -> i < w.heap.size := by
 obtain ⟨ev, pv, h, rfl⟩ := h
 exact h.lt
theorem GnW.fb {w : World} {b : Nat} {d : Gn} {F : Nat -> Prop} (h : GnW w b d F) : F b := by
 obtain ⟨ev, pv, h, rfl⟩ := h
 exact .inl rfl
theorem GnX.keeps {w w' : World} {b : Nat} {d : Gn} {ev pv : Value} {H : Nat -> Prop} (h : GnX w b d ev pv) (hk : Keeps H w w') (hH : ∀ i, gnF b ev pv i -> ¬ H i) : GnX w' b d ev pv := by
 have hb := lt_of_cell h.c0
 have hn := hH b (.inl rfl)
 exact ⟨(hk.cell (p := ⟨b, 0, none⟩) hb hn).trans h.c0, (hk.cell (p := ⟨b, 1, none⟩) hb hn).trans h.c1, (hk.cell (p := ⟨b, 2, none⟩) hb hn).trans h.c2, fun i => (hk.frozen (p := ⟨b, i, none⟩) hb hn).trans (h.f i), ownsRow_keeps h.re hk (fun g e => hH g (.inr (.inl e))), ownsRow_keeps h.rp hk (fun g e => hH g (.inr (.inr e))), h.nb1, h.nb2, h.ne⟩
theorem GnW.keeps {w w' : World} {b : Nat} {d : Gn} {F H : Nat -> Prop} (h : GnW w b d F) (hk : Keeps H w w') (hH : ∀ i, F i -> ¬ H i) : GnW w' b d F := by
 obtain ⟨ev, pv, h, rfl⟩ := h
 exact ⟨ev, pv, h.keeps hk hH, rfl⟩
structure KeysG (D : DataW Unit) (X : List (Int × Nat)) : Prop where
 there : ∀ x, x ∈ X -> D.atKey (.int .i64 x.1) zd = .lit (.int .i64 ((x.2 : Int) + 1))
 has : ∀ x, x ∈ X -> Maps.has D (.int .i64 x.1) = true
 hasn : ∀ n, (∀ x, x ∈ X -> x.1 ≠ n) -> Maps.has D (.int .i64 n) = false
 size : Maps.size D = X.length
theorem keysG_none : KeysG (.map []) [] := ⟨by simp, by simp, fun _ _ => rfl, rfl⟩
theorem KeysG.add {D : DataW Unit} {X : List (Int × Nat)} (h : KeysG D X) (ht : Tidy D) (n : Int) (b : Nat) (hn : ∀ x, x ∈ X -> x.1 ≠ n) : KeysG (D.put (.int .i64 n) (.lit (.int .i64 ((b : Int) + 1)))) (X ++ [(n, b)]) := by
 have hm : ∀ x, x ∈ X ++ [(n, b)] ↔ x = (n, b) \/ x ∈ X := fun x => by rw [List.mem_append, List.mem_singleton]; exact ⟨fun h => h.symm, fun h => h.symm⟩
 refine ⟨fun x hx => ?_, fun x hx => ?_, fun l hl => ?_, ?_⟩
 ·rcases (hm x).1 hx with rfl | hx
  ·exact Maps.atKey_put_same (k := .int .i64 n) ht.isMap trivial _ _
  ·rw [Maps.atKey_put_other (lit_ne (hn x hx))]
   exact h.there x hx
 ·rcases (hm x).1 hx with rfl | hx
  ·exact Maps.has_put_same (k := .int .i64 n) ht.isMap trivial _
  ·rw [Maps.has_put_other (lit_ne (hn x hx))]
   exact h.has x hx
 ·have h1 : n ≠ l := hl (n, b) ((hm _).2 (.inl rfl))
  rw [Maps.has_put_other (lit_ne (fun q => h1 q.symm))]
  exact h.hasn l (fun x hx => hl x ((hm x).2 (.inr hx)))
 ·rw [Maps.size_put ht, h.hasn n hn]
  simp [h.size]
def MapG (w : World) (m : Nat) (X : List (Int × Nat)) : Prop := ∃ D, w.ownsMap Tryz.prog 3 ptrElem m X.length D /\ KeysG D X
theorem MapG.keeps {w w' : World} {m : Nat} {X : List (Int × Nat)} {H : Nat -> Prop} (h : MapG w m X) (hk : Keeps H w w') (hH : ¬ H m) : MapG w' m X := by
 obtain ⟨D, h1, h2⟩ := h
 exact ⟨D, ownsMap_keeps h1 hk hH, h2⟩
theorem MapG.lt {w : World} {m : Nat} {X : List (Int × Nat)} (h : MapG w m X) : m < w.heap.size := by
 obtain ⟨D, h1, _⟩ := h
 exact h1.lt
theorem zero_gn (w : World) : (zeroValue 132).run Tryz.prog w = .ok (.pointer none) w := by kernel_rfl
theorem lookG_none {w : World} {m : Nat} {X : List (Int × Nat)} (h : MapG w m X) (n : Int) (hw : (Lit.int .i64 n).wf = true) (hn : ∀ x, x ∈ X -> x.1 ≠ n) :
  (Instr.lookup 129 (.map (some m)) (.int .i64 n) false).run Tryz.prog w = .ok (.pointer none) w := by
 obtain ⟨D, h1, h2⟩ := h
 obtain ⟨v, ps, hr, hv⟩ := h1.lookup keyedV Tryz.underlying129 (zero_gn w) (zd := zd) (zp := []) rfl (keyOf_int_mk Tryz.underlying3 hw)
 rw [Maps.atKey_of_not_has (h2.hasn n hn)] at hv
 rw [hr, ptrElem_nil hv]
theorem lookG_at {w : World} {m : Nat} {X : List (Int × Nat)} (h : MapG w m X) (x : Int × Nat) (hw : (Lit.int .i64 x.1).wf = true) (hx : x ∈ X) :
  (Instr.lookup 129 (.map (some m)) (.int .i64 x.1) false).run Tryz.prog w = .ok (.pointer (some ⟨x.2, 0, none⟩)) w := by
 obtain ⟨D, h1, h2⟩ := h
 obtain ⟨v, ps, hr, hv⟩ := h1.lookup keyedV Tryz.underlying129 (zero_gn w) (zd := zd) (zp := []) rfl (keyOf_int_mk Tryz.underlying3 hw)
 rw [h2.there x hx] at hv
 rw [hr, ptrElem_at hv]
structure GraphX (w : World) (g m : Nat) (X : List (Int × Nat)) (Nd : Nat -> Gn) (Fs : Nat -> Nat -> Prop) : Prop where
 c0 : w.cell? ⟨g, 0, none⟩ = some (.map (some m))
 map : MapG w m X
 ids : X.Pairwise (fun x y => x.1 ≠ y.1)
 blocks : X.Pairwise (fun x y => x.2 ≠ y.2)
 node : ∀ x, x ∈ X -> GnW w x.2 (Nd x.2) (Fs x.2)
 apart : ∀ x y, x ∈ X -> y ∈ X -> x.2 ≠ y.2 -> ∀ i, Fs x.2 i -> ¬ Fs y.2 i
 ng : ∀ x, x ∈ X -> ¬ Fs x.2 g
 nm : ∀ x, x ∈ X -> ¬ Fs x.2 m
 mg : m ≠ g
def graphF (g m : Nat) (X : List (Int × Nat)) (Fs : Nat -> Nat -> Prop) (i : Nat) : Prop := i = g \/ i = m \/ ∃ x, x ∈ X /\ Fs x.2 i
theorem GraphX.lt {w : World} {g m : Nat} {X : List (Int × Nat)} {Nd : Nat -> Gn} {Fs : Nat -> Nat -> Prop} (h : GraphX w g m X Nd Fs) : ∀ i, graphF g m X Fs i -> i < w.heap.size := by
 rintro i (rfl | rfl | ⟨x, hx, e⟩)
 ·exact lt_of_cell h.c0
 ·exact h.map.lt
 ·exact (h.node x hx).lt i e
theorem GraphX.keeps {w w' : World} {g m : Nat} {X : List (Int × Nat)} {Nd : Nat -> Gn} {Fs : Nat -> Nat -> Prop} {H : Nat -> Prop} (h : GraphX w g m X Nd Fs) (hk : Keeps H w w') (hH : ∀ i, graphF g m X Fs i -> ¬ H i) : GraphX w' g m X Nd Fs :=
 ⟨(hk.cell (p := ⟨g, 0, none⟩) (lt_of_cell h.c0) (hH g (.inl rfl))).trans h.c0, h.map.keeps hk (hH m (.inr (.inl rfl))), h.ids, h.blocks, fun x hx => (h.node x hx).keeps hk (fun i hi => hH i (.inr (.inr ⟨x, hx, hi⟩))), h.apart, h.ng, h.nm, h.mg⟩
theorem GraphX.below {w w' : World} {g m : Nat} {X : List (Int × Nat)} {Nd : Nat -> Gn} {Fs : Nat -> Nat -> Prop} (h : GraphX w g m X Nd Fs) (hb : Below w.heap.size w w') : GraphX w' g m X Nd Fs :=
 h.keeps (Keeps.of_below (fun _ => False) hb zr) (fun _ _ f => f)
theorem GraphX.turn {w w' : World} {g m : Nat} {X : List (Int × Nat)} {Nd : Nat -> Gn} {Fs : Nat -> Nat -> Prop} (h : GraphX w g m X Nd Fs) {x : Int × Nat} (hx : x ∈ X) {d' : Gn} {F' : Nat -> Prop} (hl : GnW w' x.2 d' F') (hg : Grew w (Fs x.2) F' w') :
  GraphX w' g m X (upd Nd x.2 d') (upd Fs x.2 F') /\ Grew w (graphF g m X Fs) (graphF g m X (upd Fs x.2 F')) w' := by
 have hk := hg.2
 have hF' : ∀ i, i < w.heap.size -> F' i -> Fs x.2 i := fun i hi hf => by
  rcases hg.1 i hf with q | q
  ·exact q
  ·omega
 have fs : ∀ y, y ∈ X -> ∀ i, upd Fs x.2 F' y.2 i -> (y.2 = x.2 /\ F' i) \/ (y.2 ≠ x.2 /\ Fs y.2 i) := fun y _ i hi => by
  by_cases e : y.2 = x.2
  ·rw [e, upd_same] at hi
   exact .inl ⟨e, hi⟩
  ·rw [upd_other _ _ e] at hi
   exact .inr ⟨e, hi⟩
 refine ⟨⟨(hk.cell (p := ⟨g, 0, none⟩) (lt_of_cell h.c0) (h.ng x hx)).trans h.c0, h.map.keeps hk (h.nm x hx), h.ids, h.blocks, fun y hy => ?_, fun y z hy hz hne i hi hi' => ?_, fun y hy hi => ?_, fun y hy hi => ?_, h.mg⟩, fun i hi => ?_, hk.mono (fun i _ hi => .inr (.inr ⟨x, hx, hi⟩))⟩
 ·by_cases e : y.2 = x.2
  ·rw [e, upd_same, upd_same]
   exact hl
  ·rw [upd_other _ _ e, upd_other _ _ e]
   exact (h.node y hy).keeps hk (fun i hi => h.apart y x hy hx e i hi)
 ·rcases fs y hy i hi with ⟨e1, q1⟩ | ⟨e1, q1⟩
  ·rcases fs z hz i hi' with ⟨e2, _⟩ | ⟨e2, q2⟩
   ·exact hne (e1.trans e2.symm)
   ·exact h.apart z x hz hx e2 i q2 (hF' i ((h.node z hz).lt i q2) q1)
  ·rcases fs z hz i hi' with ⟨e2, q2⟩ | ⟨e2, q2⟩
   ·exact h.apart y x hy hx e1 i q1 (hF' i ((h.node y hy).lt i q1) q2)
   ·exact h.apart y z hy hz hne i q1 q2
 ·rcases fs y hy g hi with ⟨_, q⟩ | ⟨_, q⟩
  ·exact h.ng x hx (hF' g (lt_of_cell h.c0) q)
  ·exact h.ng y hy q
 ·rcases fs y hy m hi with ⟨_, q⟩ | ⟨_, q⟩
  ·exact h.nm x hx (hF' m h.map.lt q)
  ·exact h.nm y hy q
 ·rcases hi with q | q | ⟨y, hy, q⟩
  ·exact .inl (.inl q)
  ·exact .inl (.inr (.inl q))
  ·rcases fs y hy i q with ⟨_, q⟩ | ⟨_, q⟩
   ·rcases hg.1 i q with r | r
    ·exact .inl (.inr (.inr ⟨x, hx, r⟩))
    ·exact .inr r
   ·exact .inl (.inr (.inr ⟨y, hy, q⟩))
theorem GraphX.add {w W3 : World} {g m : Nat} {X : List (Int × Nat)} {Nd : Nat -> Gn} {Fs : Nat -> Nat -> Prop} (h : GraphX w g m X Nd Fs) (n : Int) (kind : ByteArray) (hn : ∀ x, x ∈ X -> x.1 ≠ n)
  {q : Nat} {D : DataW Unit} (hKD : KeysG D X) (ht : Tidy D) (hturn : World.mapTurned (w.alloc (.cells #[.string kind, .slice none 0 0, .slice none 0 0] 136)) W3 m)
  (hown : W3.ownsMap Tryz.prog 3 ptrElem m q (D.put (.int .i64 n) (.lit (.int .i64 ((w.heap.size : Int) + 1))))) :
  GraphX W3 g m (X ++ [(n, w.heap.size)]) (upd Nd w.heap.size ⟨kind, [], []⟩) (upd Fs w.heap.size (· = w.heap.size)) /\ Grew w (graphF g m X Fs) (graphF g m (X ++ [(n, w.heap.size)]) (upd Fs w.heap.size (· = w.heap.size))) W3 := by
 have bb := below_box w (.cells #[.string kind, .slice none 0 0, .slice none 0 0] 136)
 have h2 := h.below bb
 have hl : GnW (w.alloc (.cells #[.string kind, .slice none 0 0, .slice none 0 0] 136)) w.heap.size ⟨kind, [], []⟩ (· = w.heap.size) := by
  refine ⟨.slice none 0 0, .slice none 0 0, ⟨by simp, by simp, by simp, fun i => by simp, ⟨rfl, .inl ⟨rfl, rfl⟩⟩, ⟨rfl, .inl ⟨rfl, rfl⟩⟩, by simp [Value.ownBlock], by simp [Value.ownBlock], by simp [Value.ownBlock]⟩, ?_⟩
  funext i
  simp [gnF, Value.ownBlock]
 have hk3 := turned_keeps hturn
 have hmw := h.map.lt
 have hgw : g < w.heap.size := lt_of_cell h.c0
 have hlt : ∀ x, x ∈ X -> ∀ i, Fs x.2 i -> i < w.heap.size := fun x hx => (h.node x hx).lt
 have hne : ∀ x, x ∈ X -> x.2 ≠ w.heap.size := fun x hx => by
  have := hlt x hx _ (h.node x hx).fb
  omega
 have hmem : ∀ x, x ∈ X ++ [(n, w.heap.size)] -> x ∈ X \/ x = (n, w.heap.size) := fun x hx => by
  rw [List.mem_append, List.mem_singleton] at hx
  exact hx
 have hmo := ownsMap_size hown
 have hKn := hKD.add ht n w.heap.size hn
 rw [hKn.size] at hmo
 refine ⟨⟨(hk3.cell (p := ⟨g, 0, none⟩) (lt_of_cell h2.c0) (fun e => h.mg e.symm)).trans h2.c0, ⟨_, hmo, hKn⟩, ?_, ?_, fun x hx => ?_, fun x y hx hy hxy i hi hi' => ?_, fun x hx hi => ?_, fun x hx hi => ?_, h.mg⟩, fun i hi => ?_, ?_⟩
 ·rw [List.pairwise_append]
  refine ⟨h.ids, by simp, fun x hx y hy => ?_⟩
  obtain rfl := List.mem_singleton.1 hy
  exact hn x hx
 ·rw [List.pairwise_append]
  refine ⟨h.blocks, by simp, fun x hx y hy => ?_⟩
  obtain rfl := List.mem_singleton.1 hy
  exact hne x hx
 ·rcases hmem x hx with hx | rfl
  ·rw [upd_other _ _ (hne x hx), upd_other _ _ (hne x hx)]
   exact (h2.node x hx).keeps hk3 (fun i hi e => h.nm x hx (by rw [<- e]; exact hi))
  ·rw [upd_same, upd_same]
   exact hl.keeps hk3 (fun i hi e => by omega)
 ·rcases hmem x hx with hx | rfl
  ·rw [upd_other _ _ (hne x hx)] at hi
   rcases hmem y hy with hy | rfl
   ·rw [upd_other _ _ (hne y hy)] at hi'
    exact h.apart x y hx hy hxy i hi hi'
   ·rw [upd_same] at hi'
    have := hlt x hx i hi
    omega
  ·rw [upd_same] at hi
   rcases hmem y hy with hy | rfl
   ·rw [upd_other _ _ (hne y hy)] at hi'
    have := hlt y hy i hi'
    omega
   ·exact hxy rfl
 ·rcases hmem x hx with hx | rfl
  ·rw [upd_other _ _ (hne x hx)] at hi
   exact h.ng x hx hi
  ·rw [upd_same] at hi
   omega
 ·rcases hmem x hx with hx | rfl
  ·rw [upd_other _ _ (hne x hx)] at hi
   exact h.nm x hx hi
  ·rw [upd_same] at hi
   omega
 ·rcases hi with e | e | ⟨x, hx, e⟩
  ·exact .inl (.inl e)
  ·exact .inl (.inr (.inl e))
  ·rcases hmem x hx with hx | rfl
   ·rw [upd_other _ _ (hne x hx)] at e
    exact .inl (.inr (.inr ⟨x, hx, e⟩))
   ·rw [upd_same] at e
    exact .inr (by omega)
 ·exact (Keeps.of_below _ bb zr).then hk3 (fun i _ e => .inr (.inl e))
theorem infoR : (Tryz.prog.info? 171).map (fun i => (i.zero, i.size, i.bytes)) = some (some (.agg #[.string ⟨#[]⟩, .string ⟨#[]⟩]), 2, 32) := by kernel_rfl
theorem step_appY (w : World) (t : TypeId) (k : Ky) {ops : Array Oper} {o : Oper} {a : Act} {K : Act -> World -> Prop} {Q : Exit -> Act -> World -> Prop} {E : Prop} (hgd : o.guard = none) (s x : Operand)
  (ho : o.op = .call { callee := .builtin .append, args := #[s, x], argTypes := #[74, 74] })
  (v : Value) (L : List Ky) (hs : a.eval s = v) (hown : RowY w 0 v L)
  (hx : a.eval x = .slice (some ⟨w.heap.size, 0, none⟩) 1 1) (hlen : L.length <= 100000)
  (h : ∀ g cap w', RowY w' 0 (.slice (some ⟨g, 0, none⟩) (L.length + 1) cap) (L ++ [k]) -> (w.alloc (.cells #[.int .i64 k.kind, .int .i64 k.a, .string k.word, .int .i64 k.b] t)).grownBy w' v.ownBlock -> (v.ownBlock = some g \/ g = w.heap.size + 1) -> g < w'.heap.size -> K (a.put o.dst (.slice (some ⟨g, 0, none⟩) (L.length + 1) cap)) w') :
  if Region.wanted o (yielded ops a.tmps) = true then Oper.wp Tryz.prog o a (w.alloc (.cells #[.int .i64 k.kind, .int .i64 k.a, .string k.word, .int .i64 k.b] t)) K Q else E := by
 obtain ⟨i0, hi0, hz0, hz1, hz2⟩ := info_parts infoY
 refine step_append_lies _ hgd s x 74 ho 0 73 i0 (.agg #[.int .i64 0, .int .i64 0, .string ⟨#[]⟩, .int .i64 0]) 4 40 Tryz.underlying74 hi0 hz0 hz1 hz2 rfl (by decide) v L.length (encYs L) hs (World.ownsRow.alloc hown _) ⟨w.heap.size, 0, none⟩ 1 1 (encY k) hx rfl ?_ ?_ (by decide) ?_ ?_ (Nat.zero_le _) (w.heap.size + 1) (by simp) ?_
 ·exact World.news_of_block (heap_alloc_new w _)
 ·intro u hu
  simp [encY] at hu
  rcases hu with rfl | rfl | rfl | rfl <;> rfl
 ·unfold maxLen; omega
 ·omega
 ·intro g cap w' k1 k2 k3 k4
  refine h g cap w' ?_ k2 k3 k4
  unfold RowY
  rw [encYs_snoc]
  simpa using k1
theorem step_appR (w : World) (t : TypeId) (p : ByteArray × ByteArray) {ops : Array Oper} {o : Oper} {a : Act} {K : Act -> World -> Prop} {Q : Exit -> Act -> World -> Prop} {E : Prop} (hgd : o.guard = none) (s x : Operand)
  (ho : o.op = .call { callee := .builtin .append, args := #[s, x], argTypes := #[134, 134] })
  (v : Value) (L : List (ByteArray × ByteArray)) (hs : a.eval s = v) (hown : RowR w 0 v L)
  (hx : a.eval x = .slice (some ⟨w.heap.size, 0, none⟩) 1 1) (hlen : L.length <= 100000)
  (h : ∀ g cap w', RowR w' 0 (.slice (some ⟨g, 0, none⟩) (L.length + 1) cap) (L ++ [p]) -> (w.alloc (.cells #[.string p.1, .string p.2] t)).grownBy w' v.ownBlock -> (v.ownBlock = some g \/ g = w.heap.size + 1) -> g < w'.heap.size -> K (a.put o.dst (.slice (some ⟨g, 0, none⟩) (L.length + 1) cap)) w') :
  if Region.wanted o (yielded ops a.tmps) = true then Oper.wp Tryz.prog o a (w.alloc (.cells #[.string p.1, .string p.2] t)) K Q else E := by
 obtain ⟨i0, hi0, hz0, hz1, hz2⟩ := info_parts infoR
 refine step_append_lies _ hgd s x 134 ho 0 171 i0 (.agg #[.string ⟨#[]⟩, .string ⟨#[]⟩]) 2 32 Tryz.underlying134 hi0 hz0 hz1 hz2 rfl (by decide) v L.length (encRs L) hs (World.ownsRow.alloc hown _) ⟨w.heap.size, 0, none⟩ 1 1 (encR p) hx rfl ?_ ?_ (by decide) ?_ ?_ (Nat.zero_le _) (w.heap.size + 1) (by simp) ?_
 ·exact World.news_of_block (heap_alloc_new w _)
 ·intro u hu
  simp [encR] at hu
  rcases hu with rfl | rfl <;> rfl
 ·unfold maxLen; omega
 ·omega
 ·intro g cap w' k1 k2 k3 k4
  refine h g cap w' ?_ k2 k3 k4
  unfold RowR
  rw [encRs_snoc]
  simpa using k1
theorem GnX.edged {w W : World} {b g cap : Nat} {d : Gn} {ev pv : Value} {k : Ky} (h : GnX w b d ev pv) (hk : Keeps (fun i => ev.ownBlock = some i) w W) (hr : RowY W 0 (.slice (some ⟨g, 0, none⟩) (d.edges.length + 1) cap) (d.edges ++ [k])) (hg : ev.ownBlock = some g \/ w.heap.size <= g) :
  GnW (W.setCell ⟨b, 1, none⟩ (.slice (some ⟨g, 0, none⟩) (d.edges.length + 1) cap)) b { d with edges := d.edges ++ [k] } (gnF b (.slice (some ⟨g, 0, none⟩) (d.edges.length + 1) cap) pv) /\ Grew w (gnF b ev pv) (gnF b (.slice (some ⟨g, 0, none⟩) (d.edges.length + 1) cap) pv) (W.setCell ⟨b, 1, none⟩ (.slice (some ⟨g, 0, none⟩) (d.edges.length + 1) cap)) := by
 have hb : b < w.heap.size := lt_of_cell h.c0
 have hk2 := keeps_set W b 1 (.slice (some ⟨g, 0, none⟩) (d.edges.length + 1) cap)
 have k0 := (hk.cell (p := ⟨b, 0, none⟩) hb h.nb1).trans h.c0
 have k1 := (hk.cell (p := ⟨b, 1, none⟩) hb h.nb1).trans h.c1
 have k2 := (hk.cell (p := ⟨b, 2, none⟩) hb h.nb1).trans h.c2
 have gb : g ≠ b := by
  rcases hg with e | e
  ·exact fun q => h.nb1 (by rw [e, q])
  ·omega
 have gp : pv.ownBlock ≠ some g := by
  rcases hg with e | e
  ·exact h.ne g e
  ·intro q
   have := (World.ownsRow.lt h.rp g q).2
   omega
 have hp1 := ownsRow_keeps h.rp hk (fun i e q => h.ne i q e)
 have obs : ∀ n c, (Value.slice (some ⟨g, 0, none⟩) n c).ownBlock = some g := fun _ _ => rfl
 refine ⟨⟨_, pv, ⟨?_, zs _ _ _ k1, ?_, fun i => ?_, ?_, ownsRow_keeps hp1 hk2 (fun i e q => h.nb2 (by rw [e, q])), ?_, h.nb2, ?_⟩, rfl⟩, fun i hi => ?_, (hk.mono (fun i _ e => .inr (.inl e))).then hk2 (fun i _ e => .inl e)⟩
 ·rw [zo _ _ _ _ (by simp)]; exact k0
 ·rw [zo _ _ _ _ (by simp)]; exact k2
 ·rw [World.frozen?_setCell]
  exact (hk.frozen (p := ⟨b, i, none⟩) hb h.nb1).trans (h.f i)
 ·have := ownsRow_keeps hr hk2 (fun i e q => gb (by rw [obs] at e; cases e; exact q))
  unfold RowY
  simpa using this
 ·rw [obs]; intro e; cases e; exact gb rfl
 ·intro i e; rw [obs] at e; cases e; exact gp
 ·rcases hi with e | e | e
  ·exact .inl (.inl e)
  ·rw [obs] at e
   cases e
   rcases hg with q | q
   ·exact .inl (.inr (.inl q))
   ·exact .inr q
  ·exact .inl (.inr (.inr e))
theorem GnX.proped {w W : World} {b g cap : Nat} {d : Gn} {ev pv : Value} {p : ByteArray × ByteArray} (h : GnX w b d ev pv) (hk : Keeps (fun i => pv.ownBlock = some i) w W) (hr : RowR W 0 (.slice (some ⟨g, 0, none⟩) (d.props.length + 1) cap) (d.props ++ [p])) (hg : pv.ownBlock = some g \/ w.heap.size <= g) :
  GnW (W.setCell ⟨b, 2, none⟩ (.slice (some ⟨g, 0, none⟩) (d.props.length + 1) cap)) b { d with props := d.props ++ [p] } (gnF b ev (.slice (some ⟨g, 0, none⟩) (d.props.length + 1) cap)) /\ Grew w (gnF b ev pv) (gnF b ev (.slice (some ⟨g, 0, none⟩) (d.props.length + 1) cap)) (W.setCell ⟨b, 2, none⟩ (.slice (some ⟨g, 0, none⟩) (d.props.length + 1) cap)) := by
 have hb : b < w.heap.size := lt_of_cell h.c0
 have hk2 := keeps_set W b 2 (.slice (some ⟨g, 0, none⟩) (d.props.length + 1) cap)
 have k0 := (hk.cell (p := ⟨b, 0, none⟩) hb h.nb2).trans h.c0
 have k1 := (hk.cell (p := ⟨b, 1, none⟩) hb h.nb2).trans h.c1
 have k2 := (hk.cell (p := ⟨b, 2, none⟩) hb h.nb2).trans h.c2
 have gb : g ≠ b := by
  rcases hg with e | e
  ·exact fun q => h.nb2 (by rw [e, q])
  ·omega
 have gp : ev.ownBlock ≠ some g := by
  rcases hg with e | e
  ·exact fun q => h.ne g q e
  ·intro q
   have := (World.ownsRow.lt h.re g q).2
   omega
 have hp1 := ownsRow_keeps h.re hk (fun i e q => h.ne i e q)
 have obs : ∀ n c, (Value.slice (some ⟨g, 0, none⟩) n c).ownBlock = some g := fun _ _ => rfl
 refine ⟨⟨ev, _, ⟨?_, ?_, zs _ _ _ k2, fun i => ?_, ownsRow_keeps hp1 hk2 (fun i e q => h.nb1 (by rw [e, q])), ?_, h.nb1, ?_, ?_⟩, rfl⟩, fun i hi => ?_, (hk.mono (fun i _ e => .inr (.inr e))).then hk2 (fun i _ e => .inl e)⟩
 ·rw [zo _ _ _ _ (by simp)]; exact k0
 ·rw [zo _ _ _ _ (by simp)]; exact k1
 ·rw [World.frozen?_setCell]
  exact (hk.frozen (p := ⟨b, i, none⟩) hb h.nb2).trans (h.f i)
 ·have := ownsRow_keeps hr hk2 (fun i e q => gb (by rw [obs] at e; cases e; exact q))
  unfold RowR
  simpa using this
 ·rw [obs]; intro e; cases e; exact gb rfl
 ·intro i e q
  rw [obs] at q
  cases q
  exact gp e
 ·rcases hi with e | e | e
  ·exact .inl (.inl e)
  ·exact .inl (.inr (.inl e))
  ·rw [obs] at e
   cases e
   rcases hg with q | q
   ·exact .inl (.inr (.inr q))
   ·exact .inr q
theorem there_yet' {w w' : World} {b i : Nat} {v : Value} (h : w.cell? ⟨b, i, none⟩ = some v) (hb : Below w.heap.size w w') : w'.cell? ⟨b, i, none⟩ = some v := (hb.cell (p := ⟨b, i, none⟩) (lt_of_cell h)).trans h
def PutS (b kx : Nat) (k : Ky) (ev : Value) (y : World) : Prop := y.cell? ⟨b, 1, none⟩ = some ev /\ y.cell? ⟨kx, 0, none⟩ = some (.int .i64 k.kind) /\ y.cell? ⟨kx, 1, none⟩ = some (.int .i64 k.a) /\ y.cell? ⟨kx, 2, none⟩ = some (.string k.word) /\ y.cell? ⟨kx, 3, none⟩ = some (.int .i64 k.b)
theorem PutS.carry {b kx : Nat} {k : Ky} {ev : Value} {x y : World} (h : PutS b kx k ev x) (hb : Below x.heap.size x y) : PutS b kx k ev y :=
 ⟨there_yet' h.1 hb, there_yet' h.2.1 hb, there_yet' h.2.2.1 hb, there_yet' h.2.2.2.1 hb, there_yet' h.2.2.2.2 hb⟩
theorem PutS.keeps {b kx : Nat} {k : Ky} {ev : Value} {x y : World} {H : Nat -> Prop} (h : PutS b kx k ev x) (hk : Keeps H x y) (h1 : ¬ H b) (h2 : ¬ H kx) : PutS b kx k ev y :=
 ⟨(hk.cell (p := ⟨b, 1, none⟩) (lt_of_cell h.1) h1).trans h.1, (hk.cell (p := ⟨kx, 0, none⟩) (lt_of_cell h.2.1) h2).trans h.2.1, (hk.cell (p := ⟨kx, 1, none⟩) (lt_of_cell h.2.2.1) h2).trans h.2.2.1, (hk.cell (p := ⟨kx, 2, none⟩) (lt_of_cell h.2.2.2.1) h2).trans h.2.2.2.1, (hk.cell (p := ⟨kx, 3, none⟩) (lt_of_cell h.2.2.2.2) h2).trans h.2.2.2.2⟩
theorem gn_put_edge {w : World} {b : Nat} {d : Gn} {F : Nat -> Prop} (h : GnW w b d F) (ka : Int) (kw : ByteArray) (kb : Int) (val : ByteArray) (hl : d.edges.length <= 100000) :
  Calls Tryz.prog 88 #[.pointer (some ⟨b, 0, none⟩), .agg #[.int .i64 2, .int .i64 ka, .string kw, .int .i64 kb], .string val] w fun e w' => e = .returned (.tuple #[]) /\ ∃ F', GnW w' b { d with edges := d.edges ++ [⟨2, ka, kw, kb⟩] } F' /\ Grew w F F' w' := by
 obtain ⟨ev, pv, hX, rfl⟩ := h
 have HB0 := zh (below_box w (.cells #[.int .i64 2, .int .i64 ka, .string kw, .int .i64 kb] 73))
 have HK0 := zh (boxK_new w ⟨2, ka, kw, kb⟩)
 have HX0 := zh (hX.keeps (Keeps.of_below (fun _ => False) (uh HB0) zr) (fun _ _ f => f))
 have hbw : b < w.heap.size := lt_of_cell hX.c0
 have c1 := (uh HX0).c1
 have f1 := (uh HX0).f 1
 have k0 := (uh HK0).c0
 have k1 := (uh HK0).c1
 have k2 := (uh HK0).c2
 have k3 := (uh HK0).c3
 obtain ⟨ead, ecap, rfl⟩ := row_slice hX.re
 have hnk : (Value.slice ead d.edges.length ecap).ownBlock ≠ some w.heap.size := fun e => Nat.lt_irrefl _ (World.ownsRow.lt hX.re _ e).2
 clear hX
 go_enter Tryz.func88, Tryz.ntmps88
 go_wp2
 generalize w.alloc (.cells #[.int .i64 2, .int .i64 ka, .string kw, .int .i64 kb] 73) = W0 at *
 have HS : Hid (PutS b w.heap.size ⟨2, ka, kw, kb⟩ (.slice ead d.edges.length ecap) W0.drew) := ⟨c1, k0, k1, k2, k3⟩
 refine wp_region_tail (fun x => x.cell? ⟨b, 1, none⟩ = some (.slice ead d.edges.length ecap) /\ x.cell? ⟨w.heap.size, 0, none⟩ = some (.int .i64 2) /\ x.cell? ⟨w.heap.size, 1, none⟩ = some (.int .i64 ka) /\ x.cell? ⟨w.heap.size, 2, none⟩ = some (.string kw) /\ x.cell? ⟨w.heap.size, 3, none⟩ = some (.int .i64 kb)) 8 (by kernel_rfl) (by kernel_rfl) (uh HS) (fun hHeld => ?_)
 refine takeH 0 (h := ?_)
 try simp only [Act.put, sI, sZ, sS]
 refine takeH 1 (h := ?_)
 try simp only [Act.put, sI, sZ, sS]
 refine takeH 2 (h := ?_)
 try simp only [Act.put, sI, sZ, sS]
 refine takeH 3 (h := ?_)
 try simp only [Act.put, sI, sZ, sS]
 refine takeH 4 (h := ?_)
 try simp only [Act.put, sI, sZ, sS]
 refine takeH 5 (h := ?_)
 try simp only [Act.put, sI, sZ, sS]
 refine readyH 6 (h := fun K hK => ?_)
 go_simp
 refine hK.out _ _ (show PutS b w.heap.size ⟨2, ka, kw, kb⟩ (.slice ead d.edges.length ecap) (W0.drew.alloc (.cells #[.int .i64 2, .int .i64 ka, .string kw, .int .i64 kb] 73)) from (uh HS).carry (below_box _ _)) (fun hHeld => ?_)
 clear hK K
 try simp only [Act.put, sI, sZ, sS]
 refine readyH 7 (h := fun K hK => ?_)
 refine step_appY W0.drew 73 ⟨2, ka, kw, kb⟩ rfl _ _ rfl (.slice ead d.edges.length ecap) d.edges rfl ((uh HX0).re.carry (below_drew W0)) rfl hl ?_
 intro g cap W2 r1 r2 r3 r4
 have HKD : Hid (Keeps (fun i => (Value.slice ead d.edges.length ecap).ownBlock = some i) W0.drew W2) := (Keeps.of_below _ (below_box W0.drew (.cells #[.int .i64 2, .int .i64 ka, .string kw, .int .i64 kb] 73)) zr).then ((keeps_grown r2).mono (fun i _ e => e.symm)) (fun _ _ h => h)
 have HKW : Hid (Keeps (fun i => (Value.slice ead d.edges.length ecap).ownBlock = some i) W0 W2) := (Keeps.of_below _ (below_drew W0) zr).then (uh HKD) (fun _ _ h => h)
 have HSn := zh ((uh HS).keeps (uh HKD) (uh HX0).nb1 hnk)
 refine hK.out _ _ (uh HSn) (fun hHeld => ?_)
 clear hK K
 try simp only [Act.put, sI, sZ, sS]
 refine wpAnyH_done (by kernel_rfl) ?_ _
 show wpList _ _ _ _ _ _
 clear hHeld
 have fz : W2.frozen? ⟨b, 1, none⟩ = false := ((uh HKW).frozen (p := ⟨b, 1, none⟩) (lt_of_cell (uh HX0).c1) (uh HX0).nb1).trans f1
 have c1' := (uh HSn).1
 obtain ⟨q1, q2⟩ := (uh HX0).edged (uh HKW) r1 (r3.imp id (fun e => by rw [e]; show W0.heap.size <= W0.heap.size + 1; omega))
 have HQ1 := zh q1
 have HQ2 := zh (Grew.below (uh HB0) q2)
 clear q1 q2 r1 r2 r3 HX0 HK0 c1 f1 k0 k1 k2 k3 HKW HKD HS
 go_wp2
 refine bodyPost_ret (v := .tuple #[]) (results_none rfl _ _ _) rfl ?_
 exact ⟨rfl, _, uh HQ1, uh HQ2⟩
def PutR (b kx : Nat) (kw : ByteArray) (pv : Value) (y : World) : Prop := y.cell? ⟨b, 2, none⟩ = some pv /\ y.cell? ⟨kx, 2, none⟩ = some (.string kw)
theorem PutR.carry {b kx : Nat} {kw : ByteArray} {pv : Value} {x y : World} (h : PutR b kx kw pv x) (hb : Below x.heap.size x y) : PutR b kx kw pv y := ⟨there_yet' h.1 hb, there_yet' h.2 hb⟩
theorem PutR.keeps {b kx : Nat} {kw : ByteArray} {pv : Value} {x y : World} {H : Nat -> Prop} (h : PutR b kx kw pv x) (hk : Keeps H x y) (h1 : ¬ H b) (h2 : ¬ H kx) : PutR b kx kw pv y :=
 ⟨(hk.cell (p := ⟨b, 2, none⟩) (lt_of_cell h.1) h1).trans h.1, (hk.cell (p := ⟨kx, 2, none⟩) (lt_of_cell h.2) h2).trans h.2⟩
theorem gn_put_prop {w : World} {b : Nat} {d : Gn} {F : Nat -> Prop} (h : GnW w b d F) (ka : Int) (kw : ByteArray) (kb : Int) (val : ByteArray) (hl : d.props.length <= 100000) :
  Calls Tryz.prog 88 #[.pointer (some ⟨b, 0, none⟩), .agg #[.int .i64 3, .int .i64 ka, .string kw, .int .i64 kb], .string val] w fun e w' => e = .returned (.tuple #[]) /\ ∃ F', GnW w' b { d with props := d.props ++ [(kw, val)] } F' /\ Grew w F F' w' := by
 obtain ⟨ev, pv, hX, rfl⟩ := h
 have HB0 := zh (below_box w (.cells #[.int .i64 3, .int .i64 ka, .string kw, .int .i64 kb] 73))
 have HK0 := zh (boxK_new w ⟨3, ka, kw, kb⟩)
 have HX0 := zh (hX.keeps (Keeps.of_below (fun _ => False) (uh HB0) zr) (fun _ _ f => f))
 have hbw : b < w.heap.size := lt_of_cell hX.c0
 have c1 := (uh HX0).c2
 have f1 := (uh HX0).f 2
 have k0 := (uh HK0).c0
 have k1 := (uh HK0).c1
 have k2 := (uh HK0).c2
 have k3 := (uh HK0).c3
 obtain ⟨ead, ecap, rfl⟩ := row_slice hX.rp
 have hnk : (Value.slice ead d.props.length ecap).ownBlock ≠ some w.heap.size := fun e => Nat.lt_irrefl _ (World.ownsRow.lt hX.rp _ e).2
 clear hX
 go_enter Tryz.func88, Tryz.ntmps88
 go_wp2
 generalize w.alloc (.cells #[.int .i64 3, .int .i64 ka, .string kw, .int .i64 kb] 73) = W0 at *
 have HS : Hid (PutR b w.heap.size kw (.slice ead d.props.length ecap) W0.drew) := ⟨c1, k2⟩
 refine wp_region_tail (fun x => x.cell? ⟨b, 2, none⟩ = some (.slice ead d.props.length ecap) /\ x.cell? ⟨w.heap.size, 2, none⟩ = some (.string kw)) 11 (by kernel_rfl) (by kernel_rfl) (uh HS) (fun hHeld => ?_)
 refine takeH 0 (h := ?_)
 try simp only [Act.put, sI, sZ, sS]
 refine takeH 1 (h := ?_)
 try simp only [Act.put, sI, sZ, sS]
 refine takeH 2 (h := ?_)
 try simp only [Act.put, sI, sZ, sS]
 refine takeH 3 (h := ?_)
 try simp only [Act.put, sI, sZ, sS]
 refine takeH 4 (h := ?_)
 try simp only [Act.put, sI, sZ, sS]
 refine takeH 5 (h := ?_)
 try simp only [Act.put, sI, sZ, sS]
 refine takeH 6 (h := ?_)
 try simp only [Act.put, sI, sZ, sS]
 refine takeH 7 (h := ?_)
 try simp only [Act.put, sI, sZ, sS]
 refine takeH 8 (h := ?_)
 try simp only [Act.put, sI, sZ, sS]
 refine readyH 9 (h := fun K hK => ?_)
 go_simp
 refine hK.out _ _ (show PutR b w.heap.size kw (.slice ead d.props.length ecap) (W0.drew.alloc (.cells #[.string kw, .string val] 171)) from (uh HS).carry (below_box _ _)) (fun hHeld => ?_)
 clear hK K
 try simp only [Act.put, sI, sZ, sS]
 refine readyH 10 (h := fun K hK => ?_)
 refine step_appR W0.drew 171 (kw, val) rfl _ _ rfl (.slice ead d.props.length ecap) d.props rfl (ownsRow_carry (uh HX0).rp (below_drew W0)) rfl hl ?_
 intro g cap W2 r1 r2 r3 r4
 have HKD : Hid (Keeps (fun i => (Value.slice ead d.props.length ecap).ownBlock = some i) W0.drew W2) := (Keeps.of_below _ (below_box W0.drew (.cells #[.string kw, .string val] 171)) zr).then ((keeps_grown r2).mono (fun i _ e => e.symm)) (fun _ _ h => h)
 have HKW : Hid (Keeps (fun i => (Value.slice ead d.props.length ecap).ownBlock = some i) W0 W2) := (Keeps.of_below _ (below_drew W0) zr).then (uh HKD) (fun _ _ h => h)
 have HSn := zh ((uh HS).keeps (uh HKD) (uh HX0).nb2 hnk)
 refine hK.out _ _ (uh HSn) (fun hHeld => ?_)
 clear hK K
 try simp only [Act.put, sI, sZ, sS]
 refine wpAnyH_done (by kernel_rfl) ?_ _
 show wpList _ _ _ _ _ _
 clear hHeld
 have fz : W2.frozen? ⟨b, 2, none⟩ = false := ((uh HKW).frozen (p := ⟨b, 2, none⟩) (lt_of_cell (uh HX0).c2) (uh HX0).nb2).trans f1
 have c1' := (uh HSn).1
 obtain ⟨q1, q2⟩ := (uh HX0).proped (uh HKW) r1 (r3.imp id (fun e => by rw [e]; show W0.heap.size <= W0.heap.size + 1; omega))
 have HQ1 := zh q1
 have HQ2 := zh (Grew.below (uh HB0) q2)
 clear q1 q2 r1 r2 r3 HX0 HK0 c1 f1 k0 k1 k2 k3 HKW HKD HS
 go_wp2
 (try simp only [Exit.inBlock, Exit.then])
 refine bodyPost_end (results_none rfl _ _ _) rfl ?_
 exact ⟨rfl, _, uh HQ1, uh HQ2⟩
theorem gptr_nil (b : Nat) (w : World) : (binOp .eql 132 (.pointer (some ⟨b, 0, none⟩)) (.pointer none)).run Tryz.prog w = .ok (.bool false) w := by kernel_rfl
theorem gptr_none (w : World) : (binOp .eql 132 (.pointer none) (.pointer none)).run Tryz.prog w = .ok (.bool true) w := by kernel_rfl
def hasG (X : List (Int × Nat)) (n : Int) : Prop := ∃ x, x ∈ X /\ x.1 = n
theorem MapG.below {w w' : World} {m : Nat} {X : List (Int × Nat)} (h : MapG w m X) (hb : Below w.heap.size w w') : MapG w' m X := h.keeps (Keeps.of_below (fun _ => False) hb zr) (fun f => f)
theorem lookG_dnone {w : World} {m : Nat} {X : List (Int × Nat)} (h : MapG w m X) (n : Int) (hw : (Lit.int .i64 n).wf = true) (hn : ¬ hasG X n) : ∀ q, (Instr.lookup 129 (.map (some m)) (.int .i64 n) false).run Tryz.prog (w.drewN q) = .ok (.pointer none) (w.drewN q) := fun q =>
 lookG_none (w := w.drewN q) (h.below (below_drewN w q)) n hw (fun x hx e => hn ⟨x, hx, e⟩)
theorem lookG_dat {w : World} {m : Nat} {X : List (Int × Nat)} (h : MapG w m X) (n : Int) (b : Nat) (hw : (Lit.int .i64 n).wf = true) (hx : (n, b) ∈ X) : ∀ q, (Instr.lookup 129 (.map (some m)) (.int .i64 n) false).run Tryz.prog (w.drewN q) = .ok (.pointer (some ⟨b, 0, none⟩)) (w.drewN q) := fun q =>
 lookG_at (w := w.drewN q) (h.below (below_drewN w q)) (n, b) hw hx
theorem nowhere_a {w : World} {g m gb : Nat} {X : List (Int × Nat)} {Nd : Nat -> Gn} {Fs : Nat -> Nat -> Prop} (h : GraphX w g m X Nd Fs) (hb : w.cell? ⟨gb, 0, none⟩ = some (.pointer (some ⟨g, 0, none⟩))) (k : Ky) (hk : KyOk k) (hn : ¬ hasG X k.a) :
  Calls Tryz.prog 87 #[.agg #[.int .i64 k.kind, .int .i64 k.a, .string k.word, .int .i64 k.b], .pointer (some ⟨gb, 0, none⟩)] w fun e w' => e = .returned (.bool true) /\ Below w.heap.size w w' := by
 have HB0 := zh (below_box w (.cells #[.int .i64 k.kind, .int .i64 k.a, .string k.word, .int .i64 k.b] 73))
 have HK0 := boxK_new w k
 have hg := h.below (uh HB0)
 have c0 := hg.c0
 have cb := (uh HB0).cell (p := ⟨gb, 0, none⟩) (lt_of_cell hb) |>.trans hb
 have k0 := HK0.c0
 have k1 := HK0.c1
 have k3 := HK0.c3
 have hlk := lookG_dnone hg.map k.a hk.a hn
 have hpn := gptr_none
 clear hn
 clear h hb HK0 hg hk
 go_enter Tryz.func87, Tryz.ntmps87
 go_wp2
 generalize w.alloc (.cells #[.int .i64 k.kind, .int .i64 k.a, .string k.word, .int .i64 k.b] 73) = W0 at *
 go_quiet (fail)
 go_wp2
 go_ret
 exact ⟨rfl, (uh HB0).trans ((below_drewN _ _).mono (uh HB0).size)⟩
theorem nowhere_p {w : World} {g m gb : Nat} {X : List (Int × Nat)} {Nd : Nat -> Gn} {Fs : Nat -> Nat -> Prop} (h : GraphX w g m X Nd Fs) (hb : w.cell? ⟨gb, 0, none⟩ = some (.pointer (some ⟨g, 0, none⟩))) (k : Ky) (hk : KyOk k) (b : Nat) (hx : (k.a, b) ∈ X) (h2 : k.kind = 3) :
  Calls Tryz.prog 87 #[.agg #[.int .i64 k.kind, .int .i64 k.a, .string k.word, .int .i64 k.b], .pointer (some ⟨gb, 0, none⟩)] w fun e w' => e = .returned (.bool false) /\ Below w.heap.size w w' := by
 obtain ⟨kk, ka, kw, kb⟩ := k
 obtain rfl : kk = 3 := h2
 have HB0 := zh (below_box w (.cells #[.int .i64 3, .int .i64 ka, .string kw, .int .i64 kb] 73))
 have HK0 := boxK_new w ⟨3, ka, kw, kb⟩
 have hg := h.below (uh HB0)
 have c0 := hg.c0
 have cb := (uh HB0).cell (p := ⟨gb, 0, none⟩) (lt_of_cell hb) |>.trans hb
 have k0 := HK0.c0
 have k1 := HK0.c1
 have k3 := HK0.c3
 have hlk := lookG_dat hg.map ka b hk.a hx
 have hpn := gptr_nil b
 clear hx
 clear h hb HK0 hg hk
 go_enter Tryz.func87, Tryz.ntmps87
 go_wp2
 generalize w.alloc (.cells #[.int .i64 3, .int .i64 ka, .string kw, .int .i64 kb] 73) = W0 at *
 go_quiet (fail)
 go_wp2
 go_ret
 exact ⟨rfl, (uh HB0).trans ((below_drewN _ _).mono (uh HB0).size)⟩
theorem nowhere_b {w : World} {g m gb : Nat} {X : List (Int × Nat)} {Nd : Nat -> Gn} {Fs : Nat -> Nat -> Prop} (h : GraphX w g m X Nd Fs) (hb : w.cell? ⟨gb, 0, none⟩ = some (.pointer (some ⟨g, 0, none⟩))) (k : Ky) (hk : KyOk k) (b : Nat) (hx : (k.a, b) ∈ X) (h2 : k.kind = 2) (hn : ¬ hasG X k.b) :
  Calls Tryz.prog 87 #[.agg #[.int .i64 k.kind, .int .i64 k.a, .string k.word, .int .i64 k.b], .pointer (some ⟨gb, 0, none⟩)] w fun e w' => e = .returned (.bool true) /\ Below w.heap.size w w' := by
 obtain ⟨kk, ka, kw, kb⟩ := k
 obtain rfl : kk = 2 := h2
 have HB0 := zh (below_box w (.cells #[.int .i64 2, .int .i64 ka, .string kw, .int .i64 kb] 73))
 have HK0 := boxK_new w ⟨2, ka, kw, kb⟩
 have hg := h.below (uh HB0)
 have c0 := hg.c0
 have cb := (uh HB0).cell (p := ⟨gb, 0, none⟩) (lt_of_cell hb) |>.trans hb
 have k0 := HK0.c0
 have k1 := HK0.c1
 have k3 := HK0.c3
 have hlk := lookG_dat hg.map ka b hk.a hx
 have hlb := lookG_dnone hg.map kb hk.b hn
 have hpn := gptr_nil b
 have hpm := gptr_none
 clear hx hn
 clear h hb HK0 hg hk
 go_enter Tryz.func87, Tryz.ntmps87
 go_wp2
 generalize w.alloc (.cells #[.int .i64 2, .int .i64 ka, .string kw, .int .i64 kb] 73) = W0 at *
 go_quiet (fail)
 go_wp2
 go_ret
 exact ⟨rfl, (uh HB0).trans ((below_drewN _ _).mono (uh HB0).size)⟩
theorem nowhere_e {w : World} {g m gb : Nat} {X : List (Int × Nat)} {Nd : Nat -> Gn} {Fs : Nat -> Nat -> Prop} (h : GraphX w g m X Nd Fs) (hb : w.cell? ⟨gb, 0, none⟩ = some (.pointer (some ⟨g, 0, none⟩))) (k : Ky) (hk : KyOk k) (b : Nat) (hx : (k.a, b) ∈ X) (h2 : k.kind = 2) (b' : Nat) (hy : (k.b, b') ∈ X) :
  Calls Tryz.prog 87 #[.agg #[.int .i64 k.kind, .int .i64 k.a, .string k.word, .int .i64 k.b], .pointer (some ⟨gb, 0, none⟩)] w fun e w' => e = .returned (.bool false) /\ Below w.heap.size w w' := by
 obtain ⟨kk, ka, kw, kb⟩ := k
 obtain rfl : kk = 2 := h2
 have HB0 := zh (below_box w (.cells #[.int .i64 2, .int .i64 ka, .string kw, .int .i64 kb] 73))
 have HK0 := boxK_new w ⟨2, ka, kw, kb⟩
 have hg := h.below (uh HB0)
 have c0 := hg.c0
 have cb := (uh HB0).cell (p := ⟨gb, 0, none⟩) (lt_of_cell hb) |>.trans hb
 have k0 := HK0.c0
 have k1 := HK0.c1
 have k3 := HK0.c3
 have hlk := lookG_dat hg.map ka b hk.a hx
 have hlb := lookG_dat hg.map kb b' hk.b hy
 have hpn := gptr_nil b
 have hpm := gptr_nil b'
 clear hx hy
 clear h hb HK0 hg hk
 go_enter Tryz.func87, Tryz.ntmps87
 go_wp2
 generalize w.alloc (.cells #[.int .i64 2, .int .i64 ka, .string kw, .int .i64 kb] 73) = W0 at *
 go_quiet (fail)
 go_wp2
 go_ret
 exact ⟨rfl, (uh HB0).trans ((below_drewN _ _).mono (uh HB0).size)⟩
def nodesG (L : List Ky) : List Int := (L.filter (fun k => decide (k.kind = 1))).map (·.a)
def edgesG (L : List Ky) (a : Int) : List Ky := L.filter (fun k => decide (k.kind = 2 /\ k.a = a /\ k.b ∈ nodesG L))
def propsG (V : Ky -> ByteArray) (L : List Ky) (a : Int) : List (ByteArray × ByteArray) := (L.filter (fun k => decide (k.kind = 3 /\ k.a = a))).map (fun k => (k.word, V k))
def gnOf (V : Ky -> ByteArray) (L : List Ky) (a : Int) : Gn := ⟨V ⟨1, a, ⟨#[]⟩, 0⟩, edgesG L a, propsG V L a⟩
theorem nodesG_node {L : List Ky} {k : Ky} (h : k.kind = 1) : nodesG (L ++ [k]) = nodesG L ++ [k.a] := by simp [nodesG, h]
theorem nodesG_else {L : List Ky} {k : Ky} (h : k.kind ≠ 1) : nodesG (L ++ [k]) = nodesG L := by simp [nodesG, h]
theorem edgesG_only {L : List Ky} (h : ∀ k, k ∈ L -> k.kind = 1) (a : Int) : edgesG L a = [] := by
 unfold edgesG
 rw [List.filter_eq_nil_iff]
 intro k hk q
 have := of_decide_eq_true q
 have := h k hk
 omega
theorem propsG_only {V : Ky -> ByteArray} {L : List Ky} (h : ∀ k, k ∈ L -> k.kind = 1) (a : Int) : propsG V L a = [] := by
 unfold propsG
 rw [List.filter_eq_nil_iff.2]
 ·rfl
 ·intro k hk q
  have := of_decide_eq_true q
  have := h k hk
  omega
theorem gnOf_node {V : Ky -> ByteArray} {L : List Ky} {k : Ky} (h : ∀ k, k ∈ L -> k.kind = 1) (hk : k.kind = 1) (a : Int) : gnOf V (L ++ [k]) a = ⟨V ⟨1, a, ⟨#[]⟩, 0⟩, [], []⟩ /\ gnOf V L a = ⟨V ⟨1, a, ⟨#[]⟩, 0⟩, [], []⟩ := by
 have h2 : ∀ x, x ∈ L ++ [k] -> x.kind = 1 := fun x hx => by
  rcases List.mem_append.1 hx with q | q
  ·exact h x q
  ·obtain rfl := List.mem_singleton.1 q
   exact hk
 unfold gnOf
 rw [edgesG_only h2, propsG_only h2, edgesG_only h, propsG_only h]
 exact ⟨rfl, rfl⟩
theorem edgesG_snoc {L : List Ky} {k : Ky} (h : k.kind ≠ 1) (a : Int) : edgesG (L ++ [k]) a = edgesG L a ++ (if k.kind = 2 /\ k.a = a /\ k.b ∈ nodesG L then [k] else []) := by
 unfold edgesG
 rw [nodesG_else h, List.filter_append]
 congr 1
 by_cases q : k.kind = 2 /\ k.a = a /\ k.b ∈ nodesG L
 ·rw [if_pos q]
  simp [q]
 ·rw [if_neg q]
  simp only [List.filter_cons, List.filter_nil, decide_eq_false q]
  rfl
theorem propsG_snoc {V : Ky -> ByteArray} {L : List Ky} {k : Ky} (a : Int) : propsG V (L ++ [k]) a = propsG V L a ++ (if k.kind = 3 /\ k.a = a then [(k.word, V k)] else []) := by
 unfold propsG
 rw [List.filter_append, List.map_append]
 congr 1
 by_cases q : k.kind = 3 /\ k.a = a
 ·rw [if_pos q]
  simp [q]
 ·rw [if_neg q]
  simp only [List.filter_cons, List.filter_nil, decide_eq_false q]
  rfl
structure GrI (W : World) (g m : Nat) (V : Ky -> ByteArray) (L : List Ky) (X : List (Int × Nat)) (Nd : Nat -> Gn) (Fs : Nat -> Nat -> Prop) : Prop where
 gx : GraphX W g m X Nd Fs
 ids : X.map (·.1) = nodesG L
 nd : ∀ x, x ∈ X -> Nd x.2 = gnOf V L x.1
theorem GrI.below {W W' : World} {g m : Nat} {V : Ky -> ByteArray} {L : List Ky} {X : List (Int × Nat)} {Nd : Nat -> Gn} {Fs : Nat -> Nat -> Prop} (h : GrI W g m V L X Nd Fs) (hb : Below W.heap.size W W') : GrI W' g m V L X Nd Fs := ⟨h.gx.below hb, h.ids, h.nd⟩
theorem GrI.has {W : World} {g m : Nat} {V : Ky -> ByteArray} {L : List Ky} {X : List (Int × Nat)} {Nd : Nat -> Gn} {Fs : Nat -> Nat -> Prop} (h : GrI W g m V L X Nd Fs) (n : Int) : hasG X n ↔ n ∈ nodesG L := by
 rw [<- h.ids, List.mem_map]
 rfl
theorem GrI.skip {W : World} {g m : Nat} {V : Ky -> ByteArray} {L : List Ky} {X : List (Int × Nat)} {Nd : Nat -> Gn} {Fs : Nat -> Nat -> Prop} (h : GrI W g m V L X Nd Fs) {k : Ky} (h1 : k.kind ≠ 1) (hs : k.a ∉ nodesG L \/ (k.kind = 2 /\ k.b ∉ nodesG L)) : GrI W g m V (L ++ [k]) X Nd Fs := by
 refine ⟨h.gx, by rw [nodesG_else h1]; exact h.ids, fun x hx => ?_⟩
 rw [h.nd x hx]
 unfold gnOf
 have hxa : x.1 ∈ nodesG L := by rw [<- h.ids]; exact List.mem_map.2 ⟨x, hx, rfl⟩
 rw [edgesG_snoc h1, propsG_snoc, if_neg, if_neg, List.append_nil, List.append_nil]
 ·rintro ⟨q1, q2⟩
  rcases hs with s | ⟨s, _⟩
  ·exact s (by rw [q2]; exact hxa)
  ·omega
 ·rintro ⟨q1, q2, q3⟩
  rcases hs with s | ⟨_, s⟩
  ·exact s (by rw [q2]; exact hxa)
  ·exact s q3
theorem GrI.same {W : World} {g m : Nat} {V : Ky -> ByteArray} {L : List Ky} {X : List (Int × Nat)} {Nd : Nat -> Gn} {Fs : Nat -> Nat -> Prop} (h : GrI W g m V L X Nd Fs) {x y : Int × Nat} (hx : x ∈ X) (hy : y ∈ X) : (x.1 = y.1 -> x = y) /\ (x.2 = y.2 -> x = y) := by
 obtain ⟨i, hi, rfl⟩ := List.getElem_of_mem hx
 obtain ⟨j, hj, rfl⟩ := List.getElem_of_mem hy
 have p1 := List.pairwise_iff_getElem.1 h.gx.ids
 have p2 := List.pairwise_iff_getElem.1 h.gx.blocks
 constructor
 ·intro e
  rcases Nat.lt_trichotomy i j with k | k | k
  ·exact absurd e (p1 i j hi hj k)
  ·subst k; rfl
  ·exact absurd e.symm (p1 j i hj hi k)
 ·intro e
  rcases Nat.lt_trichotomy i j with k | k | k
  ·exact absurd e (p2 i j hi hj k)
  ·subst k; rfl
  ·exact absurd e.symm (p2 j i hj hi k)
theorem GrI.put {W W' : World} {g m : Nat} {V : Ky -> ByteArray} {L : List Ky} {X : List (Int × Nat)} {Nd : Nat -> Gn} {Fs : Nat -> Nat -> Prop} (h : GrI W g m V L X Nd Fs) {k : Ky} (h1 : k.kind ≠ 1) {x : Int × Nat} (hx : x ∈ X) (hxa : x.1 = k.a) {F' : Nat -> Prop} (hl : GnW W' x.2 (gnOf V (L ++ [k]) x.1) F') (hg : Grew W (Fs x.2) F' W') :
  GrI W' g m V (L ++ [k]) X (upd Nd x.2 (gnOf V (L ++ [k]) x.1)) (upd Fs x.2 F') /\ Grew W (graphF g m X Fs) (graphF g m X (upd Fs x.2 F')) W' := by
 obtain ⟨g1, g2⟩ := h.gx.turn hx hl hg
 refine ⟨⟨g1, by rw [nodesG_else h1]; exact h.ids, fun y hy => ?_⟩, g2⟩
 by_cases e : y.2 = x.2
 ·obtain rfl := (h.same hy hx).2 e
  rw [upd_same]
 ·have hne : y.1 ≠ k.a := fun q => e (by rw [(h.same hy hx).1 (q.trans hxa.symm)])
  rw [upd_other _ _ e, h.nd y hy]
  unfold gnOf
  rw [edgesG_snoc h1, propsG_snoc, if_neg (fun q => hne q.2.1.symm), if_neg (fun q => hne q.2.symm), List.append_nil, List.append_nil]
end Go.Proofs.YtbmkmfoaoganeaaGreatDoor
