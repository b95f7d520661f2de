/- Texts of one proof, one behind the other. -/
import Derived.Test.YtbmkmfoaoganeaaGreatDoorOi
import Derived.Test.YtbmkmfoaoganeaaGreatDoorOj
import Derived.Test.YtbmkmfoaoganeaaGreatDoorOd
import Derived.Test.YtbmkmfoaoganeaaGreatDoorOf
import Derived.Test.YtbmkmfoaoganeaaGreatDoorOb
set_option maxRecDepth 100000
set_option maxHeartbeats 16000000
namespace Go.Proofs.YtbmkmfoaoganeaaGreatDoor
open Go.RowKit Go.Maps
theorem rises_one {α : Type} {r : α -> α -> Prop} (hi : ∀ a, ¬ r a a) (has : ∀ a b, r a b -> ¬ r b a) : ∀ (l m : List α), l.Pairwise r -> m.Pairwise r -> (∀ x, x ∈ l ↔ x ∈ m) -> l = m
 | [], [], _, _, _ => rfl
 | [], b :: m, _, _, h => absurd ((h b).2 List.mem_cons_self) (by simp)
 | a :: l, [], _, _, h => absurd ((h a).1 List.mem_cons_self) (by simp)
 | a :: l, b :: m, hl, hm, h => by
  obtain ⟨hl1, hl2⟩ := List.pairwise_cons.1 hl
  obtain ⟨hm1, hm2⟩ := List.pairwise_cons.1 hm
  have hab : a = b := by
   rcases List.mem_cons.1 ((h a).1 List.mem_cons_self) with q | q
   ·exact q
   ·rcases List.mem_cons.1 ((h b).2 List.mem_cons_self) with z | z
    ·exact z.symm
    ·exact absurd (hl1 b z) (has b a (hm1 a q))
  subst hab
  congr 1
  refine rises_one hi has l m hl2 hm2 (fun x => ?_)
  constructor
  ·intro hx
   rcases List.mem_cons.1 ((h x).1 (List.mem_cons_of_mem _ hx)) with q | q
   ·subst q; exact absurd (hl1 x hx) (hi x)
   ·exact q
  ·intro hx
   rcases List.mem_cons.1 ((h x).2 (List.mem_cons_of_mem _ hx)) with q | q
   ·subst q; exact absurd (hm1 x hx) (hi x)
   ·exact q
theorem cf_irr (a : Ky) : ¬ cfY a a < 0 := by rw [cfY_zero.2 rfl]; decide
theorem cf_asym (a b : Ky) (h : cfY a b < 0) : ¬ cfY b a < 0 := by have := cfY_turn a b; omega
def nodeK (n : Int) : Ky := ⟨1, n, ⟨#[]⟩, 0⟩
def isG (V : Ky -> ByteArray) (n : Int) : Bool := decide (V (nodeK n) ≠ ByteArray.empty)
def propK (n : Int) (word : ByteArray) : Ky := ⟨3, n, word, 0⟩
def propE (V : Ky -> ByteArray) (n : Int) (word : ByteArray) : Int := if isG V n then (if V (propK n word) = ByteArray.empty then 8 else 0) else 7
def propV (V : Ky -> ByteArray) (n : Int) (word : ByteArray) : ByteArray := if propE V n word = 0 then V (propK n word) else ⟨#[]⟩
def nodeB (V : Ky -> ByteArray) (kind : ByteArray) (k : Ky) : Bool := decide (k.kind = 1) && (decide (kind = ⟨#[]⟩) || decide (V k = kind))
def nodesR (V : Ky -> ByteArray) (kind : ByteArray) (l : List Ky) : List Int := (l.filter (nodeB V kind)).map (·.a)
theorem nodesR_le (V : Ky -> ByteArray) (kind : ByteArray) (l : List Ky) : (nodesR V kind l).length <= l.length := by
 unfold nodesR
 rw [List.length_map]
 exact List.length_filter_le _ _
def edgeB (V : Ky -> ByteArray) (k : Ky) : Bool := decide (k.kind = 2) && isG V k.a && isG V k.b
structure KeysT (V : Ky -> ByteArray) (L : List Ky) : Prop where
 all : ∀ k, k ∈ L ↔ V k ≠ ByteArray.empty
 ok : ∀ k, k ∈ L -> KyOk k /\ keyB k.kind k.a k.word k.b = true
 ord : L.Pairwise (fun a b => cfY a b < 0)
 len : L.length <= 4000
theorem node_key {k : Ky} (h : keyB k.kind k.a k.word k.b = true) (h1 : k.kind = 1) : k = nodeK k.a := by
 obtain ⟨a, b, c, d⟩ := k
 dsimp only at h h1
 subst h1
 unfold keyB at h
 simp [emptyB] at h
 unfold nodeK
 have e1 : c = ⟨#[]⟩ := by
  have := h.1.2
  rw [ByteArray.toList_eq] at this
  exact ByteArray.ext (Array.toList_inj.1 (by rw [this]))
 rw [e1, h.2]
theorem KeysT.is_iff {V : Ky -> ByteArray} {L : List Ky} (h : KeysT V L) (n : Int) : isG V n = true ↔ n ∈ nodesG L := by
 unfold isG nodesG
 rw [decide_eq_true_iff]
 constructor
 ·intro q
  exact List.mem_map.2 ⟨nodeK n, List.mem_filter.2 ⟨(h.all _).2 q, rfl⟩, rfl⟩
 ·intro q
  obtain ⟨k, hk, rfl⟩ := List.mem_map.1 q
  obtain ⟨h1, h2⟩ := List.mem_filter.1 hk
  have e := node_key (h.ok k h1).2 (of_decide_eq_true h2)
  rw [<- e]
  exact (h.all k).1 h1
theorem KeysT.nodes (V : Ky -> ByteArray) (L : List Ky) : nodesR V ⟨#[]⟩ L = nodesG L := by
 unfold nodesR nodesG
 congr 1
 apply List.filter_congr
 intro k _
 simp [nodeB]
theorem nx_sorted (L : List Ky) (word : ByteArray) (a : Int) : (nxG L word a).Pairwise (· <= ·) := by
 unfold nxG nextG sortedI
 have := List.pairwise_mergeSort (le := fun x y : Int => decide (x <= y)) (fun a b c h1 h2 => by simp at *; omega) (fun a b => by simp; omega) (leadG (edgesG L a) word)
 exact this.imp (fun h => by simpa using h)
theorem nx_closed {L : List Ky} {word : ByteArray} : ∀ a, a ∈ nodesG L -> ∀ b, b ∈ nxG L word a -> b ∈ nodesG L := fun a _ b hb => by
 obtain ⟨k, _, _, _, _, h5, _⟩ := mem_nxG.1 hb
 exact h5
theorem KeysT.wf {V : Ky -> ByteArray} {L : List Ky} (h : KeysT V L) (a : Int) (ha : a ∈ nodesG L) : (Lit.int .i64 a).wf = true := by
 obtain ⟨k, hk, rfl⟩ := List.mem_map.1 ha
 exact (h.ok k (List.mem_filter.1 hk).1).1.a
theorem KeysT.nodup {V : Ky -> ByteArray} {L : List Ky} (h : KeysT V L) : (nodesG L).Nodup := by
 unfold nodesG
 refine List.pairwise_map.2 ?_
 refine List.Pairwise.imp_of_mem ?_ (h.ord.filter _)
 intro k k' hk hk' hc e
 obtain ⟨h1, h2⟩ := List.mem_filter.1 hk
 obtain ⟨h3, h4⟩ := List.mem_filter.1 hk'
 have e1 := node_key (h.ok k h1).2 (of_decide_eq_true h2)
 have e2 := node_key (h.ok k' h3).2 (of_decide_eq_true h4)
 rw [e] at e1
 rw [<- e2] at e1
 rw [e1, cfY_zero.2 rfl] at hc
 omega
theorem KeysT.kinds {V : Ky -> ByteArray} {L : List Ky} (h : KeysT V L) {X : List (Int × Nat)} {Nd : Nat -> Gn} (hX : X.map (·.1) = nodesG L) (hN : ∀ x, x ∈ X -> Nd x.2 = gnOf V L x.1) (kind : ByteArray) (hk : kind ≠ ⟨#[]⟩) : sortedI ((kindX Nd kind X).map (·.1)) = sortedI (nodesR V kind L) := by
 have hnd := h.nodup
 rw [<- hX] at hnd
 refine sortedI_perm (nodup_perm (hnd.sublist (List.Sublist.map _ List.filter_sublist)) ?_ (fun a => ?_))
 ·have : (nodesR V kind L).Sublist (nodesG L) := by
   unfold nodesR nodesG
   refine List.Sublist.map _ ?_
   have e : L.filter (nodeB V kind) = (L.filter (fun k => decide (k.kind = 1))).filter (nodeB V kind) := by
    rw [List.filter_filter]
    apply List.filter_congr
    intro k _
    cases q : nodeB V kind k with
    | false => rfl
    | true =>
     unfold nodeB at q
     simp only [Bool.and_eq_true] at q
     rw [q.1]
     rfl
   rw [e]
   exact List.filter_sublist
  exact h.nodup.sublist this
 ·constructor
  ·intro q
   obtain ⟨x, hx, rfl⟩ := List.mem_map.1 q
   obtain ⟨h1, h2⟩ := mem_kindX.1 hx
   rw [hN x h1] at h2
   have hm : x.1 ∈ nodesG L := by rw [<- hX]; exact List.mem_map.2 ⟨x, h1, rfl⟩
   obtain ⟨k, hk1, e⟩ := List.mem_map.1 hm
   obtain ⟨k1, k2⟩ := List.mem_filter.1 hk1
   refine List.mem_map.2 ⟨k, List.mem_filter.2 ⟨k1, ?_⟩, e⟩
   have e2 := node_key (h.ok k k1).2 (of_decide_eq_true k2)
   have e3 : V k = kind := by rw [e2, e]; exact h2
   unfold nodeB
   simp [of_decide_eq_true k2, e3]
  ·intro q
   obtain ⟨k, hk1, rfl⟩ := List.mem_map.1 q
   obtain ⟨k1, k2⟩ := List.mem_filter.1 hk1
   unfold nodeB at k2
   simp only [Bool.and_eq_true, Bool.or_eq_true, decide_eq_true_eq] at k2
   have e2 := node_key (h.ok k k1).2 k2.1
   have hm : k.a ∈ X.map (·.1) := by
    rw [hX]
    exact List.mem_map.2 ⟨k, List.mem_filter.2 ⟨k1, decide_eq_true k2.1⟩, rfl⟩
   obtain ⟨x, hx, e⟩ := List.mem_map.1 hm
   refine List.mem_map.2 ⟨x, mem_kindX.2 ⟨hx, ?_⟩, e⟩
   rw [hN x hx]
   rcases k2.2 with r | r
   ·exact absurd r hk
   ·show V ⟨1, x.1, ⟨#[]⟩, 0⟩ = kind
    rw [e, <- r]
    exact congrArg V e2.symm
theorem cmp_lt {x y : Int} (h : x < y) : Lib.compareInt x y = -1 := by unfold Lib.compareInt; rw [if_pos h]
theorem cf_by_a {x y : Ky} (h1 : x.kind = y.kind) (h2 : x.a < y.a) : cfY x y < 0 := by
 unfold cfY keyCmp
 rw [(int_zero _ _).2 h1, cmp_lt h2]
 simp [orL]
theorem cf_word {x y : Ky} (h1 : x.kind = y.kind) (h2 : x.a = y.a) (h3 : x.b = y.b) (h : cfY x y < 0) : compareS x.word y.word < 0 := by
 unfold cfY keyCmp at h
 rw [(int_zero _ _).2 h1, (int_zero _ _).2 h2, (int_zero _ _).2 h3] at h
 rcases (show compareS x.word y.word = 0 \/ compareS x.word y.word ≠ 0 by omega) with q | q
 ·rw [q] at h
  exact absurd h (by decide)
 ·simpa [orL, q] using h
theorem KeysT.edges {V : Ky -> ByteArray} {L : List Ky} (h : KeysT V L) : (sortedI (nodesG L)).flatMap (edgesG L) = L.filter (edgeB V) := by
 have hmem : ∀ a, a ∈ sortedI (nodesG L) ↔ a ∈ nodesG L := fun a => (List.mergeSort_perm _ _).mem_iff
 have hnd : (sortedI (nodesG L)).Nodup := (List.mergeSort_perm _ _).nodup_iff.2 h.nodup
 have hle : (sortedI (nodesG L)).Pairwise (· <= ·) := by
  have := List.pairwise_mergeSort (le := fun x y : Int => decide (x <= y)) (fun a b c h1 h2 => by simp at *; omega) (fun a b => by simp; omega) (nodesG L)
  exact this.imp (fun h => by simpa using h)
 refine rises_one (r := fun a b => cfY a b < 0) (fun a q => ?_) (fun a b q1 q2 => ?_) _ _ ?_ (h.ord.filter _) (fun k => ?_)
 ·rw [cfY_zero.2 rfl] at q
  omega
 ·rw [cfY_turn] at q1
  omega
 ·refine List.pairwise_flatMap.2 ⟨fun a _ => h.ord.filter _, ?_⟩
  refine (hle.and hnd).imp ?_
  rintro a b ⟨q1, q2⟩ x hx y hy
  obtain ⟨_, x1, x2, _⟩ := mem_edgesG.1 hx
  obtain ⟨_, y1, y2, _⟩ := mem_edgesG.1 hy
  exact cf_by_a (by rw [x1, y1]) (by rw [x2, y2]; omega)
 ·rw [List.mem_flatMap, List.mem_filter]
  unfold edgeB
  simp only [Bool.and_eq_true, decide_eq_true_eq]
  rw [h.is_iff, h.is_iff]
  constructor
  ·rintro ⟨a, ha, hk⟩
   obtain ⟨k1, k2, rfl, k4⟩ := mem_edgesG.1 hk
   exact ⟨k1, ⟨k2, (hmem _).1 ha⟩, k4⟩
  ·rintro ⟨k1, ⟨k2, k3⟩, k4⟩
   exact ⟨k.a, (hmem _).2 k3, mem_edgesG.2 ⟨k1, k2, rfl, k4⟩⟩
theorem prop_key {k : Ky} (h : keyB k.kind k.a k.word k.b = true) (h1 : k.kind = 3) : k = propK k.a k.word := by
 obtain ⟨a, b, c, d⟩ := k
 dsimp only at h h1
 subst h1
 unfold keyB at h
 simp at h
 unfold propK
 rw [h.2]
theorem KeysT.props {V : Ky -> ByteArray} {L : List Ky} (h : KeysT V L) (a : Int) : ∀ i j, (hi : i < (propsG V L a).length) -> (hj : j < (propsG V L a).length) -> i < j -> compareS (propsG V L a)[i].1 (propsG V L a)[j].1 < 0 := by
 have hp : (propsG V L a).Pairwise (fun p q => compareS p.1 q.1 < 0) := by
  unfold propsG
  refine List.pairwise_map.2 ?_
  refine List.Pairwise.imp_of_mem ?_ (h.ord.filter _)
  intro k k' hk hk' hc
  obtain ⟨h1, h2⟩ := List.mem_filter.1 hk
  obtain ⟨h3, h4⟩ := List.mem_filter.1 hk'
  have q2 := of_decide_eq_true h2
  have q4 := of_decide_eq_true h4
  have e1 := prop_key (h.ok k h1).2 q2.1
  have e2 := prop_key (h.ok k' h3).2 q4.1
  refine cf_word (by rw [q2.1, q4.1]) (by rw [q2.2, q4.2]) ?_ hc
  rw [e1, e2]
  rfl
 intro i j hi hj hij
 exact List.pairwise_iff_getElem.1 hp i j hi hj hij
theorem KeysT.prop {V : Ky -> ByteArray} {L : List Ky} (h : KeysT V L) (a : Int) (word : ByteArray) (p : ByteArray × ByteArray) (hp : p ∈ propsG V L a) (hw : p.1 = word) : p.2 = V (propK a word) /\ V (propK a word) ≠ ByteArray.empty := by
 obtain ⟨k, hk, rfl⟩ := List.mem_map.1 hp
 obtain ⟨h1, h2⟩ := List.mem_filter.1 hk
 have q := of_decide_eq_true h2
 have e := prop_key (h.ok k h1).2 q.1
 dsimp only at hw
 rw [q.2, hw] at e
 exact ⟨congrArg V e, by rw [<- e]; exact (h.all k).1 h1⟩
theorem KeysT.prop_no {V : Ky -> ByteArray} {L : List Ky} (h : KeysT V L) (a : Int) (word : ByteArray) (hn : ∀ p, p ∈ propsG V L a -> p.1 ≠ word) : V (propK a word) = ByteArray.empty := by
 rcases Classical.em (V (propK a word) = ByteArray.empty) with q | q
 ·exact q
 ·exfalso
  have hk := (h.all _).2 q
  exact hn (word, V (propK a word)) (List.mem_map.2 ⟨propK a word, List.mem_filter.2 ⟨hk, decide_eq_true ⟨rfl, rfl⟩⟩, rfl⟩) rfl
structure GrP (y : World) (g m : Nat) (V : Ky -> ByteArray) (L : List Ky) (X : List (Int × Nat)) (Nd : Nat -> Gn) (Fs : Nat -> Nat -> Prop) : Prop where
 p : GrI y g m V L X Nd Fs
 t : KeysT V L
section
variable {y : World} {g m : Nat} {V : Ky -> ByteArray} {L : List Ky} {X : List (Int × Nat)} {Nd : Nat -> Gn} {Fs : Nat -> Nat -> Prop}
theorem GrP.below {y' : World} (h : GrP y g m V L X Nd Fs) (hb : Below y.heap.size y y') : GrP y' g m V L X Nd Fs := ⟨h.p.below hb, h.t⟩
theorem GrP.keeps {y' : World} {F : Nat -> Prop} (h : GrP y g m V L X Nd Fs) (hk : Keeps F y y') (hF : ∀ i, graphF g m X Fs i -> ¬ F i) : GrP y' g m V L X Nd Fs := ⟨⟨h.p.gx.keeps hk hF, h.p.ids, h.p.nd⟩, h.t⟩
theorem GrP.is (h : GrP y g m V L X Nd Fs) (n : Int) : isG V n = true ↔ n ∈ X.map (·.1) := by rw [h.p.ids]; exact h.t.is_iff n
theorem GrP.isn (h : GrP y g m V L X Nd Fs) (n : Int) (hn : isG V n = false) : n ∉ X.map (·.1) := fun q => by
 rw [(h.is n).2 q] at hn
 cases hn
theorem GrP.spt (h : GrP y g m V L X Nd Fs) (word : ByteArray) : SpT y g m X Nd Fs word (nxG L word) := h.p.spt (fun k hk => (h.t.ok k hk).1) h.t.len word
theorem GrP.wfX (h : GrP y g m V L X Nd Fs) (a : Int) (ha : a ∈ X.map (·.1)) : (Lit.int .i64 a).wf = true := h.t.wf a (by rw [<- h.p.ids]; exact ha)
theorem nodesG_len (L : List Ky) : (nodesG L).length <= L.length := by
 unfold nodesG
 rw [List.length_map]
 exact List.length_filter_le _ _
theorem GrP.lenX (h : GrP y g m V L X Nd Fs) : X.length <= 4000 := by
 have e : (X.map (·.1)).length = (nodesG L).length := by rw [h.p.ids]
 rw [List.length_map] at e
 have := nodesG_len L
 have := h.t.len
 omega
theorem q_prop (h : GrP y g m V L X Nd Fs) (n : Int) (hw : (Lit.int .i64 n).wf = true) (word : ByteArray) :
  Calls Tryz.prog 75 #[.pointer (some ⟨g, 0, none⟩), .int .i64 n, .string word] y fun e w' => e = .returned (.tuple #[.string (propV V n word), errV (propE V n word)]) /\ Below y.heap.size y w' := by
 unfold propV propE
 cases hi : isG V n with
 | false => exact prop_missing h.p.gx n hw (h.isn n hi) word
 | true =>
  obtain ⟨⟨n', b⟩, hx, e⟩ := List.mem_map.1 ((h.is n).1 hi)
  obtain rfl : n' = n := e
  have hnd := h.p.nd _ hx
  dsimp only at hnd
  have hl : (propsG V L n').length <= 4000 := by
   unfold propsG
   rw [List.length_map]
   exact Nat.le_trans (List.length_filter_le _ _) h.t.len
  have key := prop_ok h.p.gx n' b hx hw word
  rw [hnd] at key
  refine (key hl (h.t.props n')).mono ?_
  rintro e w' ⟨q, hb⟩
  refine ⟨?_, hb⟩
  rcases q with ⟨p, hp, hpw, rfl⟩ | ⟨hno, rfl⟩
  ·obtain ⟨e1, e2⟩ := h.t.prop n' word p hp hpw
   rw [if_pos rfl, if_neg e2, if_pos rfl, e1]
   rfl
  ·rw [if_pos rfl, if_pos (h.t.prop_no n' word hno)]
   rfl
def hopsE (V : Ky -> ByteArray) (n H : Int) : Int := if isG V n = true then (if 0 <= H /\ H <= 1048576 then 0 else 2) else 7
def hopsL (V : Ky -> ByteArray) (L : List Ky) (word : ByteArray) (n H : Int) : List Int := if hopsE V n H = 0 then sortedI (cameK (nxG L word) n H.toNat) else []
theorem q_hops (h : GrP y g m V L X Nd Fs) (n : Int) (hw : (Lit.int .i64 n).wf = true) (word : ByteArray) (H : Int) :
  Calls Tryz.prog 59 #[.pointer (some ⟨g, 0, none⟩), .int .i64 n, .string word, .int .i64 H] y fun e w' => ∃ v, e = .returned (.tuple #[v, errV (hopsE V n H)]) /\ RowN w' y.heap.size v (hopsL V L word n H) /\ Below y.heap.size y w' := by
 unfold hopsL hopsE
 cases hi : isG V n with
 | false => exact (hops_missing h.p.gx n hw (h.isn n hi) word H).mono fun _ _ ⟨e, hb⟩ => ⟨_, e, ⟨rfl, .inl ⟨rfl, rfl⟩⟩, hb⟩
 | true =>
  have hn := (h.is n).1 hi
  by_cases hH : 0 <= H /\ H <= 1048576
  ·rw [if_pos rfl, if_pos hH, if_pos rfl]
   have key := hops_ok (h.spt word) n hn H.toNat (by omega)
   rw [show ((H.toNat : Nat) : Int) = H by omega] at key
   exact key.mono fun _ _ ⟨v, e, hr, hb⟩ => ⟨v, e, hr, hb⟩
  ·rw [if_pos rfl, if_neg hH]
   exact (hops_range h.p.gx n hw hn word H (by omega)).mono fun _ _ ⟨e, hb⟩ => ⟨_, e, ⟨rfl, .inl ⟨rfl, rfl⟩⟩, hb⟩
theorem q_nodes (h : GrP y g m V L X Nd Fs) (kind : ByteArray) :
  Calls Tryz.prog 64 #[.pointer (some ⟨g, 0, none⟩), .string kind] y (NextSays y (sortedI (nodesR V kind L))) := by
 by_cases hk : kind = ⟨#[]⟩
 ·subst hk
  rw [KeysT.nodes, <- h.p.ids]
  exact nodes_ok h.p.gx h.wfX h.lenX
 ·rw [<- h.t.kinds h.p.ids h.p.nd kind hk]
  exact nodes_kind h.p.gx h.wfX h.lenX kind hk
theorem q_edges (h : GrP y g m V L X Nd Fs) :
  Calls Tryz.prog 46 #[.pointer (some ⟨g, 0, none⟩)] y (EdgesSays y (L.filter (edgeB V))) := by
 have e := h.t.edges
 rw [<- h.p.ids] at e
 have key := edges_ok h.p.gx h.wfX h.lenX (edgesG L) (fun x hx => by rw [h.p.nd x hx]; rfl) (by rw [e]; exact Nat.le_trans (List.length_filter_le _ _) h.t.len)
 rw [e] at key
 exact key
end
theorem sortedI_mem {l : List Int} {z : Int} : z ∈ sortedI l ↔ z ∈ l := (List.mergeSort_perm _ _).mem_iff
theorem hops_in {V : Ky -> ByteArray} {L : List Ky} (ht : KeysT V L) (word : ByteArray) (n H : Int) : ∀ z, z ∈ hopsL V L word n H -> z ∈ nodesG L := by
 intro z hz
 unfold hopsL at hz
 by_cases he : hopsE V n H = 0
 ·rw [if_pos he] at hz
  have hi : isG V n = true := by
   cases q : isG V n with
   | true => rfl
   | false =>
    unfold hopsE at he
    rw [q] at he
    simp at he
  exact came_in ((ht.is_iff n).1 hi) nx_closed _ z (sortedI_mem.1 hz)
 ·rw [if_neg he] at hz
  cases hz
theorem hops_len {V : Ky -> ByteArray} {L : List Ky} (ht : KeysT V L) (word : ByteArray) (n H : Int) : (hopsL V L word n H).length <= 4000 := by
 by_cases he : hopsE V n H = 0
 ·have hi : isG V n = true := by
   cases q : isG V n with
   | true => rfl
   | false =>
    unfold hopsE at he
    rw [q] at he
    simp at he
  unfold hopsL
  rw [if_pos he, sortedI_length]
  exact Nat.le_trans (nodup_le (came_nodup _ _ _) (came_in ((ht.is_iff n).1 hi) nx_closed _)) (Nat.le_trans (nodesG_len L) ht.len)
 ·unfold hopsL
  rw [if_neg he]
  decide
theorem nodesR_in {V : Ky -> ByteArray} {L : List Ky} (kind : ByteArray) : ∀ z, z ∈ nodesR V kind L -> z ∈ nodesG L := by
 intro z hz
 unfold nodesR at hz
 obtain ⟨k, hk, rfl⟩ := List.mem_map.1 hz
 obtain ⟨h1, h2⟩ := List.mem_filter.1 hk
 unfold nodeB at h2
 simp only [Bool.and_eq_true, decide_eq_true_eq] at h2
 unfold nodesG
 exact List.mem_map.2 ⟨k, List.mem_filter.2 ⟨h1, by simpa using h2.1⟩, rfl⟩
theorem q_way {V : Ky -> ByteArray} {L : List Ky} (ht : KeysT V L) (a b : Int) (hwa : (Lit.int .i64 a).wf = true) (hwb : (Lit.int .i64 b).wf = true) (word : ByteArray) : ∃ (e0 : Int) (l : List Int), (e0 = 0 \/ l = []) /\ l.length <= 4001 /\ (∀ z, z ∈ l -> z ∈ nodesG L) /\ 0 <= e0 /\ e0 <= 20 /\ ∀ {y : World} {g m : Nat} {X : List (Int × Nat)} {Nd : Nat -> Gn} {Fs : Nat -> Nat -> Prop}, GrP y g m V L X Nd Fs ->
  Calls Tryz.prog 78 #[.pointer (some ⟨g, 0, none⟩), .int .i64 a, .int .i64 b, .string word] y fun e w' => ∃ v, e = .returned (.tuple #[v, errV e0]) /\ RowN w' y.heap.size v l /\ Below y.heap.size y w' := by
 by_cases hab : isG V a = true /\ isG V b = true
 ·obtain ⟨ha, hb⟩ := hab
  have na := (ht.is_iff a).1 ha
  have nb := (ht.is_iff b).1 hb
  have hNl := Nat.le_trans (nodesG_len L) ht.len
  by_cases hr : ∃ i, b ∈ (rounds (nxG L word) a i).2
  ·obtain ⟨i, hi⟩ := hr
   obtain ⟨wy, hw⟩ := way_of (nxG L word) a i b hi
   have hin : i + 1 <= (nodesG L).length := by
    have h1 := came_many (nxG L word) a i (fun e => by rw [e] at hi; cases hi)
    have h2 := nodup_le (came_nodup (nxG L word) a i) (came_in na nx_closed i)
    unfold cameK at h2
    rw [List.length_map] at h2
    omega
   have hlen : wy.length <= 4001 := by
    have := hw.1
    omega
   have hin2 : ∀ (j : Nat) (a' : Int), wy[j]? = some a' -> a' ∈ nodesG L := by
    intro j
    induction j with
    | zero =>
     intro a' e
     rw [hw.first] at e
     cases e
     exact na
    | succ j ih =>
     intro a' e
     have hj : j + 1 < wy.length := (List.getElem?_eq_some_iff.1 e).1
     have hj' : j < wy.length := by omega
     exact nx_closed _ (ih _ (List.getElem?_eq_getElem hj')) _ (hw.step j _ a' (by have := hw.len; omega) (List.getElem?_eq_getElem hj') e).1
   refine ⟨0, wy, .inl rfl, hlen, fun z hz => ?_, by decide, by decide, fun {y g m X Nd Fs} h => ?_⟩
   ·obtain ⟨j, hj, e⟩ := List.getElem_of_mem hz
    exact hin2 j z (by rw [List.getElem?_eq_getElem hj, e])
   exact (way_ok (h.spt word) a b ((h.is a).1 ha) ((h.is b).1 hb) i wy hw (by
    have e : (X.map (·.1)).length = (nodesG L).length := by rw [h.p.ids]
    rw [List.length_map] at e
    omega)).mono fun _ _ ⟨v, e, hr, hb⟩ => ⟨v, e, hr, hb⟩
  ·have hno : ∀ i, b ∉ (rounds (nxG L word) a i).2 := fun i q => hr ⟨i, q⟩
   refine ⟨8, [], .inr rfl, by decide, fun z hz => (by cases hz), by decide, by decide, fun h => ?_⟩
   refine (way_none (h.spt word) a b ((h.is a).1 ha) ((h.is b).1 hb) (fun q => ?_)).mono fun _ _ ⟨e, hb⟩ => ⟨_, e, ⟨rfl, .inl ⟨rfl, rfl⟩⟩, hb⟩
   obtain ⟨j, _, hj⟩ := ring_of _ _ _ _ q
   exact hno j hj
 ·have hor : isG V a = false \/ isG V b = false := by
   cases ha : isG V a with
   | false => exact .inl rfl
   | true =>
    cases hb : isG V b with
    | false => exact .inr rfl
    | true => exact absurd ⟨ha, hb⟩ hab
  refine ⟨7, [], .inr rfl, by decide, fun z hz => (by cases hz), by decide, by decide, fun h => ?_⟩
  refine (way_missing h.p.gx a b hwa hwb ?_ word).mono fun _ _ ⟨e, hb⟩ => ⟨_, e, ⟨rfl, .inl ⟨rfl, rfl⟩⟩, hb⟩
  rcases hor with q | q
  ·exact .inl (h.isn a q)
  ·exact .inr (h.isn b q)
end Go.Proofs.YtbmkmfoaoganeaaGreatDoor

namespace Go.Proofs.YtbmkmfoaoganeaaGreatDoor
open Go.RowKit Go.Maps
def TxsOk (txs : List (List Fop)) : Prop := ∀ l, l ∈ txs -> okL l
theorem TxsOk.fit {txs : List (List Fop)} (h : TxsOk txs) {l : List Fop} (hl : l ∈ txs) {o : Fop} (ho : o ∈ l) : KyOk (kyO o) /\ o.word.size <= 12 /\ o.value.size <= 12 /\ rightB o.lo o.hi = true := op_fit ((h l hl).2.2 o ho)
theorem refS_size {txs : List (List Fop)} (h : TxsOk txs) (k : Ky) (c : Nat) (t : Int) : (refS txs k c t).size <= 12 := by
 unfold refS
 have all : ∀ (ls : List (List Fop)) (v : ByteArray), (∀ l, l ∈ ls -> l ∈ txs) -> v.size <= 12 -> (ls.foldl (lastV k t) v).size <= 12 := by
  intro ls
  induction ls with
  | nil => intro v _ hv; exact hv
  | cons l ls ih =>
   intro v hl hv
   have one : ∀ (m : List Fop) (v : ByteArray), (∀ o, o ∈ m -> o ∈ l) -> v.size <= 12 -> (lastV k t v m).size <= 12 := by
    intro m
    induction m with
    | nil => intro v _ hv; exact hv
    | cons o m ihm =>
     intro v hm hv
     show (lastV k t (stepV k t v o) m).size <= 12
     refine ihm _ (fun x hx => hm x (List.mem_cons_of_mem _ hx)) ?_
     unfold stepV
     split
     ·exact (h.fit (hl l List.mem_cons_self) (hm o List.mem_cons_self)).2.2.1
     ·exact hv
   exact ih _ (fun x hx => hl x (List.mem_cons_of_mem _ hx)) (one l v (fun _ q => q) hv)
 exact all _ _ (fun l hl => List.mem_of_mem_take hl) (by decide)
theorem lt_irr (a : List UInt8) : ¬ a < a := List.lt_irrefl a
theorem lt_asym (a b : List UInt8) (h : a < b) : ¬ b < a := fun q => List.lt_irrefl a (List.lt_trans h q)
def timedB (t : Int) : Bool := decide (-1099511627776 <= t /\ t < 1099511627776)
def valE (n : Nat) (known : Int) (k : Ky) (at_ t : Int) : Int := if countErr n known at_ = 0 then (if keyB k.kind k.a k.word k.b && timedB t then 0 else 1) else countErr n known at_
def pieE (n : Nat) (known : Int) (k : Ky) (at_ : Int) : Int := if countErr n known at_ = 0 then (if keyB k.kind k.a k.word k.b then 0 else 1) else countErr n known at_
def everE (n : Nat) (known : Int) (k : Ky) (a b lo hi : Int) : Int :=
 if countErr n known a = 0 then (if countErr n known b = 0 then (if b < a then 10 else if keyB k.kind k.a k.word k.b && rightB lo hi then 0 else 1) else countErr n known b) else countErr n known a
def keysE (n : Nat) (known : Int) (at_ t : Int) : Int := if countErr n known at_ = 0 then (if timedB t then 0 else 1) else countErr n known at_
theorem count_zero {n : Nat} {known at_ : Int} (h : countErr n known at_ = 0) : 0 <= at_ /\ known <= at_ /\ at_ <= (n : Int) := by
 unfold countErr at h
 by_cases h1 : at_ < 0 \/ (n : Int) < at_
 ·rw [if_pos h1] at h; cases h
 ·rw [if_neg h1] at h
  by_cases h2 : at_ < known
  ·rw [if_pos h2] at h; cases h
  ·omega
theorem errV_some {e : Int} (h : e ≠ 0) : errV e = .iface 25 (.int .i64 e) := if_neg h
theorem nil_err {n known a : Int} (h : countErr n known a = 0) : errV (countErr n known a) = .nilIface := by rw [h]; rfl
theorem not_same {o : Fop} {k : Ky} (h : ¬ kyO o = k) : sameK (kyO o) k = false := by
 cases e : sameK (kyO o) k with
 | false => rfl
 | true => exact absurd (sameK_iff.1 e) h
theorem stepV_none {k : Ky} {t : Int} {o : Fop} (h : kyO o ≠ k) (v : ByteArray) : stepV k t v o = v := by
 unfold stepV
 rw [not_same h]
 rfl
theorem lastV_none {k : Ky} {t : Int} : ∀ (l : List Fop) (v : ByteArray), (∀ o, o ∈ l -> kyO o ≠ k) -> lastV k t v l = v
 | [], _, _ => rfl
 | o :: l, v, h => by
  show lastV k t (stepV k t v o) l = v
  rw [stepV_none (h o List.mem_cons_self), lastV_none l v (fun x hx => h x (List.mem_cons_of_mem _ hx))]
theorem refS_none {txs : List (List Fop)} {k : Ky} (h : ∀ l, l ∈ txs -> ∀ o, o ∈ l -> kyO o ≠ k) (c : Nat) (t : Int) : refS txs k c t = ⟨#[]⟩ := by
 unfold refS
 have all : ∀ (ls : List (List Fop)) (v : ByteArray), (∀ l, l ∈ ls -> ∀ o, o ∈ l -> kyO o ≠ k) -> ls.foldl (lastV k t) v = v := by
  intro ls
  induction ls with
  | nil => intro v _; rfl
  | cons l ls ih =>
   intro v hl
   show ls.foldl (lastV k t) (lastV k t v l) = v
   rw [lastV_none l v (hl l List.mem_cons_self), ih v (fun x hx => hl x (List.mem_cons_of_mem _ hx))]
 exact all _ _ (fun l hl => h l (List.mem_of_mem_take hl))
structure OneP (w : World) (P : Pl) (txs : List (List Fop)) (known : Int) (F : Nat -> Prop) : Prop where
 p : PastT w P txs known F
 most : txs.length <= 150
 ok : TxsOk txs
theorem OneP.bd {w : World} {P : Pl} {txs : List (List Fop)} {known : Int} {F : Nat -> Prop} (h : OneP w P txs known F) : (24 * txs.length : Int) <= 4000 := by have := h.most; omega
abbrev keyA (k : Ky) : Value := .agg #[.int .i64 k.kind, .int .i64 k.a, .string k.word, .int .i64 k.b]
section
variable {w : World} {P : Pl} {txs : List (List Fop)} {known : Int} {F : Nat -> Prop}
def valV (txs : List (List Fop)) (k : Ky) (at_ t n : Int) : ByteArray := if n = 0 then refS txs k at_.toNat t else ⟨#[]⟩
theorem past_value (h : OneP w P txs known F) (k : Ky) (hk : KyOk k) (at_ t : Int) (t0 : -9223372036854775808 <= t) (t1 : t <= 9223372036854775807) :
  Calls Tryz.prog 77 #[.pointer (some ⟨P.b, P.o, none⟩), keyA k, .int .i64 at_, .int .i64 t] w fun r w' => r = .returned (.tuple #[.string (valV txs k at_ t (valE txs.length known k at_ t)), errV (valE txs.length known k at_ t)]) /\ Below w.heap.size w w' := by
 unfold valE valV
 by_cases hc : countErr txs.length known at_ = 0
 ·rw [if_pos hc]
  obtain ⟨h0, h1, h2⟩ := count_zero hc
  cases hkb : keyB k.kind k.a k.word k.b with
  | false => exact value_key h.p k hk hkb at_ t h0 h1 h2
  | true =>
   cases ht : timedB t with
   | false => exact value_time h.p k hk hkb at_ t h0 h1 h2 (moment_bad t0 t1 (of_decide_eq_false ht))
   | true =>
    have ht' := of_decide_eq_true ht
    exact value_ok h.p h.bd k hk hkb at_ t h0 h1 h2 ht'.1 ht'.2
 ·rw [if_neg hc, if_neg hc, errV_some hc]
  exact value_count h.p k at_ t _ rfl hc
def PieSay (txs : List (List Fop)) (k : Ky) (at_ n : Int) (ps : List (Int × Int × ByteArray)) : Prop := Canon ps /\ Covers ps (fun t => if n = 0 then refS txs k at_.toNat t else ByteArray.empty)
theorem pie_none (txs : List (List Fop)) (k : Ky) (at_ n : Int) (h : n ≠ 0) : PieSay txs k at_ n [] := ⟨canon_nil, fun t => ⟨fun p hp => (by cases hp), fun q => absurd (if_neg h) q⟩⟩
theorem past_pieces (h : OneP w P txs known F) (k : Ky) (hk : KyOk k) (at_ : Int) :
  Calls Tryz.prog 71 #[.pointer (some ⟨P.b, P.o, none⟩), keyA k, .int .i64 at_] w fun r w' => ∃ u ps, r = .returned (.tuple #[u, errV (pieE txs.length known k at_)]) /\ RowP w' w.heap.size u ps /\ PieSay txs k at_ (pieE txs.length known k at_) ps /\ Below w.heap.size w w' := by
 unfold pieE
 by_cases hc : countErr txs.length known at_ = 0
 ·rw [if_pos hc]
  obtain ⟨h0, h1, h2⟩ := count_zero hc
  cases hkb : keyB k.kind k.a k.word k.b with
  | false => exact (pieces_key h.p k hk hkb at_ h0 h1 h2).mono fun _ _ ⟨q1, q2⟩ => ⟨_, [], q1, World.ownsRow_nil _ _ _ _, pie_none _ _ _ _ (by decide), q2⟩
  | true =>
   refine (pieces_ok h.p h.bd k hk hkb at_ h0 h1 h2).mono ?_
   rintro r w' ⟨u, ps, rfl, hr, hc1, hc2, hb⟩
   exact ⟨u, ps, rfl, hr, ⟨hc1, hc2⟩, hb⟩
 ·rw [if_neg hc, errV_some hc]
  exact (pieces_bad h.p k at_ _ rfl hc).mono fun _ _ ⟨q1, q2⟩ => ⟨_, [], q1, World.ownsRow_nil _ _ _ _, pie_none _ _ _ _ hc, q2⟩
theorem pie_one {k : Ky} {at_ n : Int} {ps qs : List (Int × Int × ByteArray)} (h : PieSay txs k at_ n ps) (h' : PieSay txs k at_ n qs) : ps = qs := pieces_one h.1 h'.1 h.2 h'.2
def EverL (txs : List (List Fop)) (k : Ky) (a b lo hi n : Int) (L : List (List UInt8)) : Prop := L.Pairwise (· < ·) /\ ∀ x, x ∈ L ↔ n = 0 /\ x ≠ [] /\ ∃ c t : Int, a <= c /\ c <= b /\ lo <= t /\ t < hi /\ (refS txs k c.toNat t).data.toList = x
theorem ever_none (txs : List (List Fop)) (k : Ky) (a b lo hi n : Int) (h : n ≠ 0) : EverL txs k a b lo hi n [] := ⟨List.Pairwise.nil, fun x => ⟨fun q => (by cases q), fun q => absurd q.1 h⟩⟩
theorem ever_one {k : Ky} {a b lo hi n : Int} {L M : List (List UInt8)} (h : EverL txs k a b lo hi n L) (h' : EverL txs k a b lo hi n M) : L = M := rises_one lt_irr lt_asym L M h.1 h'.1 (fun x => by rw [h.2, h'.2])
def RowT (y : World) (base : Nat) (v : Value) (L : List (List UInt8)) : Prop := y.ownsRow base 9 1 v L.length (L.map encStr)
theorem past_ever (h : OneP w P txs known F) (k : Ky) (hk : KyOk k) (a b lo hi : Int) :
  Calls Tryz.prog 52 #[.pointer (some ⟨P.b, P.o, none⟩), keyA k, .int .i64 a, .int .i64 b, .agg #[.int .i64 lo, .int .i64 hi]] w fun r w' => ∃ u L, r = .returned (.tuple #[u, errV (everE txs.length known k a b lo hi)]) /\ RowT w' w.heap.size u L /\ EverL txs k a b lo hi (everE txs.length known k a b lo hi) L /\ Below w.heap.size w w' := by
 unfold everE
 by_cases ha : countErr txs.length known a = 0
 ·rw [if_pos ha]
  by_cases hb : countErr txs.length known b = 0
  ·rw [if_pos hb]
   by_cases ho : b < a
   ·rw [if_pos ho]
    exact (ever_order h.p k a b lo hi (nil_err ha) (nil_err hb) ho).mono fun _ _ ⟨q1, q2⟩ => ⟨_, [], q1, World.ownsRow_nil _ _ _ _, ever_none _ _ _ _ _ _ _ (by simp), q2⟩
   ·rw [if_neg ho]
    cases hkb : keyB k.kind k.a k.word k.b with
    | false => exact (ever_key h.p k hk hkb a b lo hi (nil_err ha) (nil_err hb) ho).mono fun _ _ ⟨q1, q2⟩ => ⟨_, [], q1, World.ownsRow_nil _ _ _ _, ever_none _ _ _ _ _ _ _ (by simp), q2⟩
    | true =>
     cases hr : rightB lo hi with
     | false => exact (ever_span h.p k hk hkb a b lo hi (nil_err ha) (nil_err hb) ho hr).mono fun _ _ ⟨q1, q2⟩ => ⟨_, [], q1, World.ownsRow_nil _ _ _ _, ever_none _ _ _ _ _ _ _ (by simp), q2⟩
     | true =>
      obtain ⟨a0, a1, a2⟩ := count_zero ha
      obtain ⟨b0, b1, b2⟩ := count_zero hb
      refine (ever_ok h.p h.bd (by have := h.most; omega) k hk hkb a b lo hi a0 a1 (by omega) b2 hr).mono ?_
      rintro r w' ⟨u, L, rfl, hrow, hp, hm, hbl⟩
      refine ⟨u, L, rfl, hrow, ⟨hp, fun x => ?_⟩, hbl⟩
      rw [hm x]
      unfold refI
      simp
  ·rw [if_neg hb, errV_some hb]
   exact (ever_to h.p k a b lo hi (nil_err ha) _ rfl hb).mono fun _ _ ⟨q1, q2⟩ => ⟨_, [], q1, World.ownsRow_nil _ _ _ _, ever_none _ _ _ _ _ _ _ hb, q2⟩
 ·rw [if_neg ha, errV_some ha]
  exact (ever_from h.p k a b lo hi _ rfl ha).mono fun _ _ ⟨q1, q2⟩ => ⟨_, [], q1, World.ownsRow_nil _ _ _ _, ever_none _ _ _ _ _ _ _ ha, q2⟩
def KeyL (txs : List (List Fop)) (at_ t n : Int) (L : List Ky) : Prop := L.Pairwise (fun a b => cfY a b < 0) /\ (∀ k, k ∈ L ↔ n = 0 /\ refS txs k at_.toNat t ≠ ByteArray.empty) /\ L.length <= 4000
theorem key_none (txs : List (List Fop)) (at_ t n : Int) (h : n ≠ 0) : KeyL txs at_ t n [] := ⟨List.Pairwise.nil, fun x => ⟨fun q => (by cases q), fun q => absurd q.1 h⟩, by decide⟩
theorem key_one {at_ t n : Int} {L M : List Ky} (h : KeyL txs at_ t n L) (h' : KeyL txs at_ t n M) : L = M := rises_one cf_irr cf_asym L M h.1 h'.1 (fun x => by rw [h.2.1, h'.2.1])
theorem past_keys (h : OneP w P txs known F) (at_ t : Int) (t0 : -9223372036854775808 <= t) (t1 : t <= 9223372036854775807) :
  Calls Tryz.prog 61 #[.pointer (some ⟨P.b, P.o, none⟩), .int .i64 at_, .int .i64 t] w fun r w' => ∃ u L, r = .returned (.tuple #[u, errV (keysE txs.length known at_ t)]) /\ RowY w' w.heap.size u L /\ KeyL txs at_ t (keysE txs.length known at_ t) L /\ Below w.heap.size w w' := by
 unfold keysE
 by_cases hc : countErr txs.length known at_ = 0
 ·rw [if_pos hc]
  obtain ⟨h0, h1, h2⟩ := count_zero hc
  cases ht : timedB t with
  | false => exact (keys_time h.p at_ t h0 h1 h2 (moment_bad t0 t1 (of_decide_eq_false ht))).mono fun _ _ ⟨q1, q2⟩ => ⟨_, [], q1, World.ownsRow_nil _ _ _ _, key_none _ _ _ _ (by decide), q2⟩
  | true =>
   have ht' := of_decide_eq_true ht
   refine (keys_ok h.p h.bd at_ t h0 h1 h2 ht'.1 ht'.2).mono ?_
   rintro r w' ⟨u, L, rfl, hr, hp, hm, hl, hb⟩
   exact ⟨u, L, rfl, hr, ⟨hp, fun k => by rw [hm k]; unfold refI; simp, hl⟩, hb⟩
 ·rw [if_neg hc, errV_some hc]
  exact (keys_count h.p at_ t _ rfl hc).mono fun _ _ ⟨q1, q2⟩ => ⟨_, [], q1, World.ownsRow_nil _ _ _ _, key_none _ _ _ _ hc, q2⟩
end
end Go.Proofs.YtbmkmfoaoganeaaGreatDoor
