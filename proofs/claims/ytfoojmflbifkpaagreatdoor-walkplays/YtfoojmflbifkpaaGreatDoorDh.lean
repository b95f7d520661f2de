/- Texts of one proof, one behind the other. -/
import Derived.Test.YtfoojmflbifkpaaGreatDoorDe
import Derived.Test.YtfoojmflbifkpaaGreatDoorDg
import Derived.Test.YtfoojmflbifkpaaGreatDoorDc
import Derived.Test.YtfoojmflbifkpaaGreatDoorCo
import Derived.Test.YtfoojmflbifkpaaGreatDoorDb

/- Both graphs tell the same: the plain part. -/
namespace Go.Proofs.YtfoojmflbifkpaaGreatDoor
open Go.RowKit Go.Maps
structure KeysT (V : Ky → ByteArray) (L : List Ky) : Prop where
  all : ∀ k, k ∈ L ↔ V k ≠ ByteArray.empty
  ok : ∀ k, k ∈ L → KyOk k ∧ keyB k.kind k.a k.word k.b = true
  ord : L.Pairwise (fun a b => cfY a b < 0)
  len : L.length ≤ 4000
theorem node_key {k : Ky} (h : keyB k.kind k.a k.word k.b = true) (h1 : k.kind = 1) : k = nodeK k.a := by
  obtain ⟨a, b, c, d⟩ := k
  dsimp only at h h1
  subst h1
  unfold keyB at h
  simp [emptyB] at h
  unfold nodeK
  have e1 : c = ⟨#[]⟩ := by
    have := h.1.2
    rw [ByteArray.toList_eq] at this
    exact ByteArray.ext (Array.toList_inj.1 (by rw [this]))
  rw [e1, h.2]
theorem KeysT.is_iff {V : Ky → ByteArray} {L : List Ky} (h : KeysT V L) (n : Int) : isG V n = true ↔ n ∈ nodesG L := by
  unfold isG nodesG
  rw [decide_eq_true_iff]
  constructor
  · intro q
    exact List.mem_map.2 ⟨nodeK n, List.mem_filter.2 ⟨(h.all _).2 q, rfl⟩, rfl⟩
  · intro q
    obtain ⟨k, hk, rfl⟩ := List.mem_map.1 q
    obtain ⟨h1, h2⟩ := List.mem_filter.1 hk
    have e := node_key (h.ok k h1).2 (of_decide_eq_true h2)
    rw [← e]
    exact (h.all k).1 h1
theorem KeysT.far {V : Ky → ByteArray} {L : List Ky} (h : KeysT V L) (word : ByteArray) : FarT V L word (nxG L word) (nodesG L) := by
  refine ⟨fun k hk how => ?_, fun a ha b hb => ?_, fun k hk => ⟨(h.ok k hk).1.a, (h.ok k hk).1.b⟩, ?_⟩
  · obtain ⟨h1, h2⟩ := List.mem_filter.1 hk
    unfold edgeB at h2
    simp only [Bool.and_eq_true, decide_eq_true_eq] at h2
    have hb := (h.is_iff k.b).1 h2.2
    exact ⟨mem_nxG.2 ⟨k, h1, h2.1.1, rfl, rfl, hb, how⟩, hb⟩
  · obtain ⟨k, h1, h2, h3, h4, h5, h6⟩ := mem_nxG.1 hb
    refine ⟨k, List.mem_filter.2 ⟨h1, ?_⟩, h3, h4, h6⟩
    unfold edgeB
    simp only [Bool.and_eq_true, decide_eq_true_eq]
    exact ⟨⟨h2, by rw [h3]; exact (h.is_iff a).2 ha⟩, by rw [h4]; exact (h.is_iff b).2 h5⟩
  · unfold nodesG
    rw [List.length_map]
    exact Nat.le_trans (List.length_filter_le _ _) h.len
theorem KeysT.nodes (V : Ky → ByteArray) (L : List Ky) : nodesR V ⟨#[]⟩ L = nodesG L := by
  unfold nodesR nodesG
  congr 1
  apply List.filter_congr
  intro k _
  simp [nodeB]
theorem nx_sorted (L : List Ky) (word : ByteArray) (a : Int) : (nxG L word a).Pairwise (· ≤ ·) := by
  unfold nxG nextG sortedI
  have := List.pairwise_mergeSort (le := fun x y : Int => decide (x ≤ y)) (fun a b c h1 h2 => by simp at *; omega) (fun a b => by simp; omega) (leadG (edgesG L a) word)
  exact this.imp (fun h => by simpa using h)
theorem nx_closed {L : List Ky} {word : ByteArray} : ∀ a, a ∈ nodesG L → ∀ b, b ∈ nxG L word a → b ∈ nodesG L := fun a _ b hb => by
  obtain ⟨k, _, _, _, _, h5, _⟩ := mem_nxG.1 hb
  exact h5
theorem KeysT.wf {V : Ky → ByteArray} {L : List Ky} (h : KeysT V L) (a : Int) (ha : a ∈ nodesG L) : (Lit.int .i64 a).wf = true := by
  obtain ⟨k, hk, rfl⟩ := List.mem_map.1 ha
  exact (h.ok k (List.mem_filter.1 hk).1).1.a
theorem KeysT.nodup {V : Ky → ByteArray} {L : List Ky} (h : KeysT V L) : (nodesG L).Nodup := by
  unfold nodesG
  refine List.pairwise_map.2 ?_
  refine List.Pairwise.imp_of_mem ?_ (h.ord.filter _)
  intro k k' hk hk' hc e
  obtain ⟨h1, h2⟩ := List.mem_filter.1 hk
  obtain ⟨h3, h4⟩ := List.mem_filter.1 hk'
  have e1 := node_key (h.ok k h1).2 (of_decide_eq_true h2)
  have e2 := node_key (h.ok k' h3).2 (of_decide_eq_true h4)
  rw [e] at e1
  rw [← e2] at e1
  rw [e1, cfY_zero.2 rfl] at hc
  omega
theorem KeysT.kinds {V : Ky → ByteArray} {L : List Ky} (h : KeysT V L) {X : List (Int × Nat)} {Nd : Nat → Gn} (hX : X.map (·.1) = nodesG L) (hN : ∀ x, x ∈ X → Nd x.2 = gnOf V L x.1) (kind : ByteArray) (hk : kind ≠ ⟨#[]⟩) : sortedI ((kindX Nd kind X).map (·.1)) = sortedI (nodesR V kind L) := by
  have hnd := h.nodup
  rw [← hX] at hnd
  refine sortedI_perm (nodup_perm (hnd.sublist (List.Sublist.map _ List.filter_sublist)) ?_ (fun a => ?_))
  · have : (nodesR V kind L).Sublist (nodesG L) := by
      unfold nodesR nodesG
      refine List.Sublist.map _ ?_
      have e : L.filter (nodeB V kind) = (L.filter (fun k => decide (k.kind = 1))).filter (nodeB V kind) := by
        rw [List.filter_filter]
        apply List.filter_congr
        intro k _
        cases q : nodeB V kind k with
        | false => rfl
        | true =>
          unfold nodeB at q
          simp only [Bool.and_eq_true] at q
          rw [q.1]
          rfl
      rw [e]
      exact List.filter_sublist
    exact h.nodup.sublist this
  · constructor
    · intro q
      obtain ⟨x, hx, rfl⟩ := List.mem_map.1 q
      obtain ⟨h1, h2⟩ := mem_kindX.1 hx
      rw [hN x h1] at h2
      have hm : x.1 ∈ nodesG L := by rw [← hX]; exact List.mem_map.2 ⟨x, h1, rfl⟩
      obtain ⟨k, hk1, e⟩ := List.mem_map.1 hm
      obtain ⟨k1, k2⟩ := List.mem_filter.1 hk1
      refine List.mem_map.2 ⟨k, List.mem_filter.2 ⟨k1, ?_⟩, e⟩
      have e2 := node_key (h.ok k k1).2 (of_decide_eq_true k2)
      have e3 : V k = kind := by rw [e2, e]; exact h2
      unfold nodeB
      simp [of_decide_eq_true k2, e3]
    · intro q
      obtain ⟨k, hk1, rfl⟩ := List.mem_map.1 q
      obtain ⟨k1, k2⟩ := List.mem_filter.1 hk1
      unfold nodeB at k2
      simp only [Bool.and_eq_true, Bool.or_eq_true, decide_eq_true_eq] at k2
      have e2 := node_key (h.ok k k1).2 k2.1
      have hm : k.a ∈ X.map (·.1) := by
        rw [hX]
        exact List.mem_map.2 ⟨k, List.mem_filter.2 ⟨k1, decide_eq_true k2.1⟩, rfl⟩
      obtain ⟨x, hx, e⟩ := List.mem_map.1 hm
      refine List.mem_map.2 ⟨x, mem_kindX.2 ⟨hx, ?_⟩, e⟩
      rw [hN x hx]
      rcases k2.2 with r | r
      · exact absurd r hk
      · show V ⟨1, x.1, ⟨#[]⟩, 0⟩ = kind
        rw [e, ← r]
        exact congrArg V e2.symm
end Go.Proofs.YtfoojmflbifkpaaGreatDoor

/- Both graphs tell the same edges; a node's props rise. -/
namespace Go.Proofs.YtfoojmflbifkpaaGreatDoor
open Go.RowKit Go.Maps
theorem cmp_lt {x y : Int} (h : x < y) : Lib.compareInt x y = -1 := by unfold Lib.compareInt; rw [if_pos h]
theorem cf_by_a {x y : Ky} (h1 : x.kind = y.kind) (h2 : x.a < y.a) : cfY x y < 0 := by
  unfold cfY keyCmp
  rw [(int_zero _ _).2 h1, cmp_lt h2]
  simp [orL]
theorem cf_word {x y : Ky} (h1 : x.kind = y.kind) (h2 : x.a = y.a) (h3 : x.b = y.b) (h : cfY x y < 0) : compareS x.word y.word < 0 := by
  unfold cfY keyCmp at h
  rw [(int_zero _ _).2 h1, (int_zero _ _).2 h2, (int_zero _ _).2 h3] at h
  rcases (show compareS x.word y.word = 0 ∨ compareS x.word y.word ≠ 0 by omega) with q | q
  · rw [q] at h
    exact absurd h (by decide)
  · simpa [orL, q] using h
theorem KeysT.edges {V : Ky → ByteArray} {L : List Ky} (h : KeysT V L) : (sortedI (nodesG L)).flatMap (edgesG L) = L.filter (edgeB V) := by
  have hmem : ∀ a, a ∈ sortedI (nodesG L) ↔ a ∈ nodesG L := fun a => (List.mergeSort_perm _ _).mem_iff
  have hnd : (sortedI (nodesG L)).Nodup := (List.mergeSort_perm _ _).nodup_iff.2 h.nodup
  have hle : (sortedI (nodesG L)).Pairwise (· ≤ ·) := by
    have := List.pairwise_mergeSort (le := fun x y : Int => decide (x ≤ y)) (fun a b c h1 h2 => by simp at *; omega) (fun a b => by simp; omega) (nodesG L)
    exact this.imp (fun h => by simpa using h)
  refine rises_one (r := fun a b => cfY a b < 0) (fun a q => ?_) (fun a b q1 q2 => ?_) _ _ ?_ (h.ord.filter _) (fun k => ?_)
  · rw [cfY_zero.2 rfl] at q
    omega
  · rw [cfY_turn] at q1
    omega
  · refine List.pairwise_flatMap.2 ⟨fun a _ => h.ord.filter _, ?_⟩
    refine (hle.and hnd).imp ?_
    rintro a b ⟨q1, q2⟩ x hx y hy
    obtain ⟨_, x1, x2, _⟩ := mem_edgesG.1 hx
    obtain ⟨_, y1, y2, _⟩ := mem_edgesG.1 hy
    exact cf_by_a (by rw [x1, y1]) (by rw [x2, y2]; omega)
  · rw [List.mem_flatMap, List.mem_filter]
    unfold edgeB
    simp only [Bool.and_eq_true, decide_eq_true_eq]
    rw [h.is_iff, h.is_iff]
    constructor
    · rintro ⟨a, ha, hk⟩
      obtain ⟨k1, k2, rfl, k4⟩ := mem_edgesG.1 hk
      exact ⟨k1, ⟨k2, (hmem _).1 ha⟩, k4⟩
    · rintro ⟨k1, ⟨k2, k3⟩, k4⟩
      exact ⟨k.a, (hmem _).2 k3, mem_edgesG.2 ⟨k1, k2, rfl, k4⟩⟩
theorem prop_key {k : Ky} (h : keyB k.kind k.a k.word k.b = true) (h1 : k.kind = 3) : k = propK k.a k.word := by
  obtain ⟨a, b, c, d⟩ := k
  dsimp only at h h1
  subst h1
  unfold keyB at h
  simp at h
  unfold propK
  rw [h.2]
theorem KeysT.props {V : Ky → ByteArray} {L : List Ky} (h : KeysT V L) (a : Int) : ∀ i j, (hi : i < (propsG V L a).length) → (hj : j < (propsG V L a).length) → i < j → compareS (propsG V L a)[i].1 (propsG V L a)[j].1 < 0 := by
  have hp : (propsG V L a).Pairwise (fun p q => compareS p.1 q.1 < 0) := by
    unfold propsG
    refine List.pairwise_map.2 ?_
    refine List.Pairwise.imp_of_mem ?_ (h.ord.filter _)
    intro k k' hk hk' hc
    obtain ⟨h1, h2⟩ := List.mem_filter.1 hk
    obtain ⟨h3, h4⟩ := List.mem_filter.1 hk'
    have q2 := of_decide_eq_true h2
    have q4 := of_decide_eq_true h4
    have e1 := prop_key (h.ok k h1).2 q2.1
    have e2 := prop_key (h.ok k' h3).2 q4.1
    refine cf_word (by rw [q2.1, q4.1]) (by rw [q2.2, q4.2]) ?_ hc
    rw [e1, e2]
    rfl
  intro i j hi hj hij
  exact List.pairwise_iff_getElem.1 hp i j hi hj hij
theorem KeysT.prop {V : Ky → ByteArray} {L : List Ky} (h : KeysT V L) (a : Int) (word : ByteArray) (p : ByteArray × ByteArray) (hp : p ∈ propsG V L a) (hw : p.1 = word) : p.2 = V (propK a word) ∧ V (propK a word) ≠ ByteArray.empty := by
  obtain ⟨k, hk, rfl⟩ := List.mem_map.1 hp
  obtain ⟨h1, h2⟩ := List.mem_filter.1 hk
  have q := of_decide_eq_true h2
  have e := prop_key (h.ok k h1).2 q.1
  dsimp only at hw
  rw [q.2, hw] at e
  exact ⟨congrArg V e, by rw [← e]; exact (h.all k).1 h1⟩
theorem KeysT.prop_no {V : Ky → ByteArray} {L : List Ky} (h : KeysT V L) (a : Int) (word : ByteArray) (hn : ∀ p, p ∈ propsG V L a → p.1 ≠ word) : V (propK a word) = ByteArray.empty := by
  rcases Classical.em (V (propK a word) = ByteArray.empty) with q | q
  · exact q
  · exfalso
    have hk := (h.all _).2 q
    exact hn (word, V (propK a word)) (List.mem_map.2 ⟨propK a word, List.mem_filter.2 ⟨hk, decide_eq_true ⟨rfl, rfl⟩⟩, rfl⟩) rfl
end Go.Proofs.YtfoojmflbifkpaaGreatDoor

/- The program's At, where Keys fails: walked. -/
namespace Go.Proofs.YtfoojmflbifkpaaGreatDoor
open Go.RowKit Go.Maps
set_option maxRecDepth 100000 in
theorem walk_at_bad {w : World} {P : Pl} {at_ t e0 : Int} (hk : Calls Tryz.prog 57 #[.pointer (some ⟨P.b, P.o, none⟩), .int .i64 at_, .int .i64 t] w fun e w' => ∃ v, e = .returned (.tuple #[v, .iface 43 (.int .i64 e0)]) ∧ Below w.heap.size w w') :
    Calls Tryz.prog 15 #[.pointer (some ⟨P.b, P.o, none⟩), .int .i64 at_, .int .i64 t] w fun e w' => e = .returned (.tuple #[.pointer none, .iface 43 (.int .i64 e0)]) ∧ Below w.heap.size w w' := by
  have HK := hide hk
  clear hk
  go_enter Tryz.func15, Tryz.ntmps15
  go_wp2_with fail
  refine (unhide HK).mono ?_
  rintro e W1 ⟨v, rfl, b1⟩
  go_wp2
  go_ret2
  exact ⟨rfl, b1⟩
end Go.Proofs.YtfoojmflbifkpaaGreatDoor

/- Each question to both graphs: what each tells. -/
namespace Go.Proofs.YtfoojmflbifkpaaGreatDoor
open Go.RowKit Go.Maps
structure GrT (B : Nat) (y : World) (g m gr : Nat) (V : Ky → ByteArray) (L : List Ky) (X : List (Int × Nat)) (Nd : Nat → Gn) (Fs : Nat → Nat → Prop) : Prop where
  p : GrI y g m V L X Nd Fs
  q : RefG B y gr V L
  t : KeysT V L
section
variable {B : Nat} {y : World} {g m gr : Nat} {V : Ky → ByteArray} {L : List Ky} {X : List (Int × Nat)} {Nd : Nat → Gn} {Fs : Nat → Nat → Prop}
theorem GrT.below {y' : World} (h : GrT B y g m gr V L X Nd Fs) (hb : Below y.heap.size y y') : GrT B y' g m gr V L X Nd Fs := ⟨h.p.below hb, h.q.below hb, h.t⟩
theorem GrT.is (h : GrT B y g m gr V L X Nd Fs) (n : Int) : isG V n = true ↔ n ∈ X.map (·.1) := by rw [h.p.ids]; exact h.t.is_iff n
theorem GrT.isn (h : GrT B y g m gr V L X Nd Fs) (n : Int) (hn : isG V n = false) : n ∉ X.map (·.1) := fun q => by
  rw [(h.is n).2 q] at hn
  cases hn
theorem GrT.spt (h : GrT B y g m gr V L X Nd Fs) (word : ByteArray) : SpT y g m X Nd Fs word (nxG L word) := h.p.spt (fun k hk => (h.t.ok k hk).1) h.t.len word
theorem q_prop (h : GrT B y g m gr V L X Nd Fs) (n : Int) (hw : (Lit.int .i64 n).wf = true) (word : ByteArray) :
    Calls Tryz.prog 17 #[.pointer (some ⟨g, 0, none⟩), .int .i64 n, .string word] y fun e w' => e = .returned (.tuple #[.string (propV V n word), errV (propE V n word)]) ∧ Below y.heap.size y w' := by
  unfold propV propE
  cases hi : isG V n with
  | false => exact prop_missing h.p.gx n hw (h.isn n hi) word
  | true =>
    obtain ⟨⟨n', b⟩, hx, e⟩ := List.mem_map.1 ((h.is n).1 hi)
    obtain rfl : n' = n := e
    have hnd := h.p.nd _ hx
    dsimp only at hnd
    have hl : (propsG V L n').length ≤ 4000 := by
      unfold propsG
      rw [List.length_map]
      exact Nat.le_trans (List.length_filter_le _ _) h.t.len
    have key := prop_ok h.p.gx n' b hx hw word
    rw [hnd] at key
    refine (key hl (h.t.props n')).mono ?_
    rintro e w' ⟨q, hb⟩
    refine ⟨?_, hb⟩
    rcases q with ⟨p, hp, hpw, rfl⟩ | ⟨hno, rfl⟩
    · obtain ⟨e1, e2⟩ := h.t.prop n' word p hp hpw
      rw [if_pos rfl, if_neg e2, if_pos rfl, e1]
      rfl
    · rw [if_pos rfl, if_pos (h.t.prop_no n' word hno)]
      rfl
def hopsE (V : Ky → ByteArray) (n H : Int) : Int := if isG V n = true then (if 0 ≤ H ∧ H ≤ 1048576 then 0 else 2) else 7
def hopsL (V : Ky → ByteArray) (L : List Ky) (word : ByteArray) (n H : Int) : List Int := if hopsE V n H = 0 then sortedI (cameK (nxG L word) n H.toNat) else []
theorem q_hops (h : GrT B y g m gr V L X Nd Fs) (n : Int) (hw : (Lit.int .i64 n).wf = true) (word : ByteArray) (H : Int) :
    Calls Tryz.prog 19 #[.pointer (some ⟨g, 0, none⟩), .int .i64 n, .string word, .int .i64 H] y fun e w' => ∃ v, e = .returned (.tuple #[v, errV (hopsE V n H)]) ∧ RowN w' y.heap.size v (hopsL V L word n H) ∧ Below y.heap.size y w' := by
  unfold hopsL hopsE
  cases hi : isG V n with
  | false => exact (hops_missing h.p.gx n hw (h.isn n hi) word H).mono fun _ _ ⟨e, hb⟩ => ⟨_, e, ⟨rfl, .inl ⟨rfl, rfl⟩⟩, hb⟩
  | true =>
    have hn := (h.is n).1 hi
    by_cases hH : 0 ≤ H ∧ H ≤ 1048576
    · rw [if_pos rfl, if_pos hH, if_pos rfl]
      have key := hops_ok (h.spt word) n hn H.toNat (by omega)
      rw [show ((H.toNat : Nat) : Int) = H by omega] at key
      exact key.mono fun _ _ ⟨v, e, hr, hb⟩ => ⟨v, e, hr, hb⟩
    · rw [if_pos rfl, if_neg hH]
      exact (hops_range h.p.gx n hw hn word H (by omega)).mono fun _ _ ⟨e, hb⟩ => ⟨_, e, ⟨rfl, .inl ⟨rfl, rfl⟩⟩, hb⟩
theorem r_hops (h : GrT B y g m gr V L X Nd Fs) (n : Int) (hw : (Lit.int .i64 n).wf = true) (word : ByteArray) (H : Int) :
    Calls Tryz.prog 18 #[.pointer (some ⟨gr, 0, none⟩), .int .i64 n, .string word, .int .i64 H] y fun e w' => ∃ v, e = .returned (.tuple #[v, .int .i64 (hopsE V n H)]) ∧ RowN w' y.heap.size v (hopsL V L word n H) ∧ Below y.heap.size y w' := by
  unfold hopsL hopsE
  cases hi : isG V n with
  | false => exact (rg_hops_none h.q word n H hi).mono fun _ _ ⟨e, hb⟩ => ⟨_, e, ⟨rfl, .inl ⟨rfl, rfl⟩⟩, hb⟩
  | true =>
    have hn := (h.t.is_iff n).1 hi
    by_cases hH : 0 ≤ H ∧ H ≤ 1048576
    · rw [if_pos rfl, if_pos hH, if_pos rfl]
      have key := rg_hops_ok h.q (h.t.far word) n hn hw hi H.toNat (by omega)
      rw [show ((H.toNat : Nat) : Int) = H by omega] at key
      exact key.mono fun _ _ ⟨v, e, hr, hb⟩ => ⟨v, e, hr, hb⟩
    · rw [if_pos rfl, if_neg hH]
      exact (rg_hops_range h.q word n H hi (by omega)).mono fun _ _ ⟨e, hb⟩ => ⟨_, e, ⟨rfl, .inl ⟨rfl, rfl⟩⟩, hb⟩
end
theorem two_way {B : Nat} {y : World} {g m gr : Nat} {V : Ky → ByteArray} {L : List Ky} {X : List (Int × Nat)} {Nd : Nat → Gn} {Fs : Nat → Nat → Prop} (h : GrT B y g m gr V L X Nd Fs) (a b : Int) (hwa : (Lit.int .i64 a).wf = true) (hwb : (Lit.int .i64 b).wf = true) (word : ByteArray) : ∃ (e0 : Int) (l : List Int), ∀ W, Below y.heap.size y W →
    (Calls Tryz.prog 21 #[.pointer (some ⟨g, 0, none⟩), .int .i64 a, .int .i64 b, .string word] W fun e w' => ∃ v, e = .returned (.tuple #[v, errV e0]) ∧ RowN w' W.heap.size v l ∧ Below W.heap.size W w') ∧
    (Calls Tryz.prog 20 #[.pointer (some ⟨gr, 0, none⟩), .int .i64 a, .int .i64 b, .string word] W fun e w' => ∃ v, e = .returned (.tuple #[v, .int .i64 e0]) ∧ RowN w' W.heap.size v l ∧ Below W.heap.size W w') := by
  by_cases hab : isG V a = true ∧ isG V b = true
  · obtain ⟨ha, hb⟩ := hab
    have na := (h.t.is_iff a).1 ha
    have nb := (h.t.is_iff b).1 hb
    have hXl : X.length = (nodesG L).length := by rw [← h.p.ids, List.length_map]
    have hNl := (h.t.far word).len
    by_cases hr : ∃ i, b ∈ (rounds (nxG L word) a i).2
    · obtain ⟨i, hi⟩ := hr
      obtain ⟨wy, hw⟩ := way_of (nxG L word) a i b hi
      have hin : i + 1 ≤ (nodesG L).length := by
        have h1 := came_many (nxG L word) a i (fun e => by rw [e] at hi; cases hi)
        have h2 := nodup_le (came_nodup (nxG L word) a i) (came_in na nx_closed i)
        unfold cameK at h2
        rw [List.length_map] at h2
        omega
      refine ⟨0, wy, fun W hW => ⟨?_, ?_⟩⟩
      · exact (way_ok ((h.below hW).spt word) a b ((h.is a).1 ha) ((h.is b).1 hb) i wy hw (by omega)).mono fun _ _ ⟨v, e, hr, hb⟩ => ⟨v, e, hr, hb⟩
      · exact (rg_way_ok (h.below hW).q (h.t.far word) (nx_sorted L word) (fun c => by rw [KeysT.nodes]) h.t.wf nx_closed a b na nb ha hb i wy hw (by omega)).mono fun _ _ ⟨v, e, hr, hb⟩ => ⟨v, e, hr, hb⟩
    · have hno : ∀ i, b ∉ (rounds (nxG L word) a i).2 := fun i q => hr ⟨i, q⟩
      refine ⟨8, [], fun W hW => ⟨?_, ?_⟩⟩
      · refine (way_none ((h.below hW).spt word) a b ((h.is a).1 ha) ((h.is b).1 hb) (fun q => ?_)).mono fun _ _ ⟨e, hb⟩ => ⟨_, e, ⟨rfl, .inl ⟨rfl, rfl⟩⟩, hb⟩
        obtain ⟨j, _, hj⟩ := ring_of _ _ _ _ q
        exact hno j hj
      · exact (rg_way_none (h.below hW).q (h.t.far word) a b na hwa hwb ha hb hno).mono fun _ _ ⟨e, hb⟩ => ⟨_, e, ⟨rfl, .inl ⟨rfl, rfl⟩⟩, hb⟩
  · have hor : isG V a = false ∨ isG V b = false := by
      cases ha : isG V a with
      | false => exact .inl rfl
      | true =>
        cases hb : isG V b with
        | false => exact .inr rfl
        | true => exact absurd ⟨ha, hb⟩ hab
    refine ⟨7, [], fun W hW => ⟨?_, ?_⟩⟩
    · refine (way_missing (h.below hW).p.gx a b hwa hwb ?_ word).mono fun _ _ ⟨e, hb⟩ => ⟨_, e, ⟨rfl, .inl ⟨rfl, rfl⟩⟩, hb⟩
      rcases hor with q | q
      · exact .inl (h.isn a q)
      · exact .inr (h.isn b q)
    · exact (rg_way_missing (h.below hW).q word a b hor).mono fun _ _ ⟨e, hb⟩ => ⟨_, e, ⟨rfl, .inl ⟨rfl, rfl⟩⟩, hb⟩
end Go.Proofs.YtfoojmflbifkpaaGreatDoor

/- At on both sides. -/
namespace Go.Proofs.YtfoojmflbifkpaaGreatDoor
open Go.RowKit Go.Maps
theorem refS_key {txs : List (List Fop)} (h : TxsOk txs) {k : Ky} {c : Nat} {t : Int} (hv : refS txs k c t ≠ ByteArray.empty) : KyOk k ∧ keyB k.kind k.a k.word k.b = true := by
  rcases Classical.em (∃ l, l ∈ txs ∧ ∃ o, o ∈ l ∧ kyO o = k) with ⟨l, hl, o, ho, rfl⟩ | q
  · refine ⟨(h.fit hl ho).1, ?_⟩
    have hb := (h l hl).2.2 o ho
    unfold opB at hb
    simp only [Bool.and_eq_true] at hb
    exact hb.1.1
  · exact absurd (refS_none (fun l hl o ho e => q ⟨l, hl, o, ho, e⟩) c t) hv
section
variable {w : World} {P : Pl} {R : Nat} {txs : List (List Fop)} {known : Int} {F G : Nat → Prop}
theorem r_at_bad (h : TwoP w P R txs known F G) (at_ t : Int) (hne : keysE txs.length known at_ t ≠ 0) :
    Calls Tryz.prog 14 #[.pointer (some ⟨R, 0, none⟩), .int .i64 at_, .int .i64 t] w fun e w' => e = .returned (.tuple #[.pointer none, .int .i64 (keysE txs.length known at_ t)]) ∧ Below w.heap.size w w' :=
  rg_at_count ((ref_keys h at_ t).mono fun _ _ ⟨u, _, e, _, _, hb⟩ => ⟨u, e, hb⟩) hne
theorem q_at_bad (h : TwoP w P R txs known F G) (at_ t : Int) (t0 : -9223372036854775808 ≤ t) (t1 : t ≤ 9223372036854775807) (hne : keysE txs.length known at_ t ≠ 0) :
    Calls Tryz.prog 15 #[.pointer (some ⟨P.b, P.o, none⟩), .int .i64 at_, .int .i64 t] w fun e w' => e = .returned (.tuple #[.pointer none, errV (keysE txs.length known at_ t)]) ∧ Below w.heap.size w w' := by
  have key := past_keys h at_ t t0 t1
  rw [errV_some hne] at key ⊢
  exact walk_at_bad (key.mono fun _ _ ⟨u, _, e, _, _, hb⟩ => ⟨u, e, hb⟩)
theorem keysE_zero {n : Nat} {known at_ t : Int} (h : keysE n known at_ t = 0) : countErr n known at_ = 0 ∧ timedB t = true := by
  unfold keysE at h
  by_cases hc : countErr n known at_ = 0
  · rw [if_pos hc] at h
    cases ht : timedB t with
    | true => exact ⟨hc, rfl⟩
    | false => rw [ht] at h; simp at h
  · rw [if_neg hc] at h
    exact absurd h hc
theorem r_at_ok (h : TwoP w P R txs known F G) (at_ t : Int) (he : keysE txs.length known at_ t = 0) :
    Calls Tryz.prog 14 #[.pointer (some ⟨R, 0, none⟩), .int .i64 at_, .int .i64 t] w (AtSaysR w (fun k => refS txs k at_.toNat t)) := by
  obtain ⟨hc, ht⟩ := keysE_zero he
  obtain ⟨h0, h1, h2⟩ := count_zero hc
  have key := rg_at_ok h.q.refP at_.toNat t (by omega) (by rw [show ((at_.toNat : Nat) : Int) = at_ by omega]; exact hc) ht (fun l hl o ho => (h.ok.fit hl ho).1)
  rw [show ((at_.toNat : Nat) : Int) = at_ by omega] at key
  exact key
theorem q_at_ok (h : TwoP w P R txs known F G) (at_ t : Int) (he : keysE txs.length known at_ t = 0) :
    Calls Tryz.prog 15 #[.pointer (some ⟨P.b, P.o, none⟩), .int .i64 at_, .int .i64 t] w (AtSays w (fun k => refS txs k at_.toNat t)) := by
  obtain ⟨hc, ht⟩ := keysE_zero he
  obtain ⟨h0, h1, h2⟩ := count_zero hc
  have ht' := of_decide_eq_true ht
  exact walk_At h.p h.bd at_ t h0 h1 h2 ht'.1 ht'.2 (fun k hk => refS_key h.ok hk)
end
end Go.Proofs.YtfoojmflbifkpaaGreatDoor

/- Both graphs, as At gives them; what is said later leaves them. -/
namespace Go.Proofs.YtfoojmflbifkpaaGreatDoor
open Go.RowKit Go.Maps
theorem GrT.keeps {B : Nat} {y y' : World} {g m gr : Nat} {V : Ky → ByteArray} {L : List Ky} {X : List (Int × Nat)} {Nd : Nat → Gn} {Fs : Nat → Nat → Prop} {F : Nat → Prop} (h : GrT B y g m gr V L X Nd Fs) (hk : Keeps F y y') (hF : ∀ i, F i → i < B) (hg : ∀ i, graphF g m X Fs i → B ≤ i) : GrT B y' g m gr V L X Nd Fs :=
  ⟨⟨h.p.gx.keeps hk (fun i hi q => by have := hF i q; have := hg i hi; omega), h.p.ids, h.p.nd⟩, h.q.keeps hk hF, h.t⟩
theorem gr_two {B : Nat} {y : World} {g m gr : Nat} {V : Ky → ByteArray} {L L' : List Ky} {X : List (Int × Nat)} {Nd : Nat → Gn} {Fs : Nat → Nat → Prop} (hq : RefG B y gr V L) (ho : L.Pairwise (fun a b => cfY a b < 0)) (hp : GrI y g m V L' X Nd Fs) (ho' : L'.Pairwise (fun a b => cfY a b < 0)) (hall : ∀ k, k ∈ L' ↔ V k ≠ ByteArray.empty) (hok : ∀ k, V k ≠ ByteArray.empty → KyOk k ∧ keyB k.kind k.a k.word k.b = true) : GrT B y g m gr V L X Nd Fs := by
  have e : L' = L := rises_one cf_irr cf_asym L' L ho' ho (fun k => by rw [hall k, hq.all k])
  subst e
  exact ⟨hp, hq, ⟨hq.all, fun k hk => hok k ((hq.all k).1 hk), ho, hq.len⟩⟩
section
variable {B : Nat} {y : World} {g m gr : Nat} {V : Ky → ByteArray} {L : List Ky} {X : List (Int × Nat)} {Nd : Nat → Gn} {Fs : Nat → Nat → Prop}
theorem GrT.wfX (h : GrT B y g m gr V L X Nd Fs) (a : Int) (ha : a ∈ X.map (·.1)) : (Lit.int .i64 a).wf = true := h.t.wf a (by rw [← h.p.ids]; exact ha)
theorem GrT.lenX (h : GrT B y g m gr V L X Nd Fs) : X.length ≤ 4000 := by
  have e : (X.map (·.1)).length = (nodesG L).length := by rw [h.p.ids]
  rw [List.length_map] at e
  have : (nodesG L).length ≤ L.length := by
    unfold nodesG
    rw [List.length_map]
    exact List.length_filter_le _ _
  have := h.t.len
  omega
theorem q_nodes (h : GrT B y g m gr V L X Nd Fs) (kind : ByteArray) :
    Calls Tryz.prog 23 #[.pointer (some ⟨g, 0, none⟩), .string kind] y (NextSays y (sortedI (nodesR V kind L))) := by
  by_cases hk : kind = ⟨#[]⟩
  · subst hk
    rw [KeysT.nodes, ← h.p.ids]
    exact nodes_ok h.p.gx h.wfX h.lenX
  · rw [← h.t.kinds h.p.ids h.p.nd kind hk]
    exact nodes_kind h.p.gx h.wfX h.lenX kind hk
theorem r_nodes (h : GrT B y g m gr V L X Nd Fs) (kind : ByteArray) :
    Calls Tryz.prog 24 #[.pointer (some ⟨gr, 0, none⟩), .string kind] y (NextSays y (sortedI (nodesR V kind L))) := rg_Nodes h.q kind
theorem q_edges (h : GrT B y g m gr V L X Nd Fs) :
    Calls Tryz.prog 26 #[.pointer (some ⟨g, 0, none⟩)] y (EdgesSay y (L.filter (edgeB V))) := by
  have e := h.t.edges
  rw [← h.p.ids] at e
  have key := edges_ok h.p.gx h.wfX h.lenX (edgesG L) (fun x hx => by rw [h.p.nd x hx]; rfl) (by rw [e]; exact Nat.le_trans (List.length_filter_le _ _) h.t.len)
  rw [e] at key
  exact key
end
end Go.Proofs.YtfoojmflbifkpaaGreatDoor
