/- Texts of one proof, one behind the other. -/
import Derived.Test.YtbloahcmakjchabGreatDoorBy
import Derived.Test.YtbloahcmakjchabGreatDoorBn

/- Ways and hops: what WalkWays asks, plain; and who is in a list: walked. -/
namespace Go.Proofs.YtbloahcmakjchabGreatDoor
open Go.RowKit Go.Maps

theorem keys_one : ∀ {L M : List Ky}, L.Pairwise (fun a b => cfY a b < 0) → M.Pairwise (fun a b => cfY a b < 0) → (∀ k, k ∈ L ↔ k ∈ M) → L = M
  | [], [], _, _, _ => rfl
  | [], b :: M, _, _, h => absurd ((h b).2 (by simp)) (by simp)
  | a :: L, [], _, _, h => absurd ((h a).1 (by simp)) (by simp)
  | a :: L, b :: M, hL, hM, h => by
    have hL' := List.pairwise_cons.1 hL
    have hM' := List.pairwise_cons.1 hM
    have e : a = b := by
      rcases List.mem_cons.1 ((h a).1 (by simp)) with q | q
      · exact q
      · rcases List.mem_cons.1 ((h b).2 (by simp)) with r | r
        · exact r.symm
        · have h1 := hM'.1 a q
          have h2 := hL'.1 b r
          have := cfY_turn a b
          omega
    subst e
    have irr : ∀ k, ¬ cfY k k < 0 := fun k q => by
      have := cfY_turn k k
      omega
    rw [keys_one hL'.2 hM'.2 (fun k => ?_)]
    constructor
    · intro hk
      rcases List.mem_cons.1 ((h k).1 (List.mem_cons_of_mem _ hk)) with q | q
      · subst q
        exact absurd (hL'.1 _ hk) (irr _)
      · exact q
    · intro hk
      rcases List.mem_cons.1 ((h k).2 (List.mem_cons_of_mem _ hk)) with q | q
      · subst q
        exact absurd (hM'.1 _ hk) (irr _)
      · exact q

theorem keys_nodup {L : List Ky} (h : L.Pairwise (fun a b => cfY a b < 0)) : L.Nodup := h.imp (fun {a b} q e => by
  subst e
  have := cfY_turn a a
  omega)

theorem edges_total {L : List Ky} {N : List Int} (hL : L.Nodup) (hN : N.Nodup) : (N.flatMap (edgesG L)).length ≤ L.length := by
  refine nodup_len _ L ?_ (fun k hk => ?_)
  · unfold List.Nodup
    rw [List.pairwise_flatMap]
    refine ⟨fun n _ => ?_, hN.imp (fun {a b} hne x hx y hy e => hne ?_)⟩
    · exact List.Pairwise.sublist List.filter_sublist hL
    · have h1 := (mem_edgesG.1 hx).2.2.1
      have h2 := (mem_edgesG.1 hy).2.2.1
      subst e
      omega
  · obtain ⟨n, _, h⟩ := List.mem_flatMap.1 hk
    exact (mem_edgesG.1 h).1

theorem self_in (nx : Int → List Int) (x : Int) (i : Nat) : x ∈ cameK nx x i := by
  have := keys_le nx x 0 i x (by simp [cameK, rounds])
  rwa [Nat.zero_add] at this

theorem all_is {nx : Int → List Int} {N : List Int} {x : Int} (hx : x ∈ N) (hN : ∀ a, a ∈ N → ∀ b, b ∈ nx a → b ∈ N) (hl : N.length ≤ 1048576) : cameK nx x 1048576 = cameK nx x N.length := by
  have := rounds_end hx hN (1048576 - N.length)
  rw [show N.length + (1048576 - N.length) = 1048576 by omega] at this
  unfold cameK
  rw [this]

theorem way_or (nx : Int → List Int) (x y : Int) (n : Nat) (h : y ∈ cameK nx x n) : ∃ i wy, i ≤ n ∧ IsWay nx x i wy y := by
  obtain ⟨i, hi, hr⟩ := ring_of nx x n y h
  obtain ⟨wy, hw⟩ := way_of nx x i y hr
  exact ⟨i, wy, hi, hw⟩

theorem IsWay.near {nx : Int → List Int} {x y : Int} {i : Nat} {wy : List Int} (h : IsWay nx x i wy y) : y ∈ cameK nx x i := ring_came nx x i y (h.on i y h.last)
theorem IsWay.less {nx : Int → List Int} {x y : Int} {i : Nat} {wy : List Int} (h : IsWay nx x (i + 1) wy y) : y ∉ cameK nx x i := ring_new nx x i y (h.on (i + 1) y h.last)
theorem came_len (nx : Int → List Int) (x : Int) (i : Nat) : (cameK nx x i).length ≤ (cameK nx x (i + 1)).length := by
  unfold cameK
  rw [List.length_map, List.length_map]
  exact (came_mono nx x i).length_le

/-- The pairs that edges join. -/
def pairsE (E : List Ky) : List (Int × Int) := E.map (fun k => (k.a, k.b))

theorem step_pair {L : List Ky} {word : ByteArray} {a c : Int} {N : List Int} (hN : ∀ b, b ∈ N ↔ b ∈ nodesG L) (ha : a ∈ nodesG L) (h : c ∈ nxG L word a) : (a, c) ∈ pairsE (N.flatMap (edgesG L)) := by
  obtain ⟨k, h1, h2, h3, h4, h5, _⟩ := mem_nxG.1 h
  refine List.mem_map.2 ⟨k, List.mem_flatMap.2 ⟨a, (hN a).2 ha, mem_edgesG.2 ⟨h1, h2, h3, by rw [h4]; exact h5⟩⟩, ?_⟩
  rw [h3, h4]

def numV : Value → Nat
  | .int _ n => n.toNat
  | _ => 0

theorem mem_sortedI {l : List Int} {x : Int} : x ∈ sortedI l ↔ x ∈ l := (List.mergeSort_perm _ _).mem_iff

set_option maxRecDepth 100000 in
set_option maxHeartbeats 1000000 in
theorem is_ok {w : World} {base : Nat} {v : Value} {l : List Int} (h : RowN w base v l) (hl : l.length ≤ 1000000) (x : Int) :
    Calls Tryz.prog 18 #[v, .int .i64 x] w fun e w' => e = .returned (.bool (decide (x ∈ l))) ∧ w' = w := by
  obtain ⟨g, ad, c, rfl, hf⟩ := h.cells
  have HF := hide hf
  clear h hf
  go_enter Tryz.func18, Tryz.ntmps18
  go_wp2
  go_loopw [5] (fun i y => ∃ j : Nat, j ≤ l.length ∧ i = .int .i64 j ∧ x ∉ l.take j ∧ y = w) (fun i _ => l.length - numV i)
  case atStart => exact ⟨0, Nat.zero_le _, rfl, by simp, rfl⟩
  case round =>
    obtain ⟨j, hj, rfl, hn, hwr⟩ := hrel
    obtain rfl : w = wr := hwr.symm
    clear hwr
    have HN := hide hn
    clear hn
    by_cases hlt : j < l.length
    · have hlt' : (j : Int) < (l.length : Int) := by omega
      have hj0 : (0 : Int) ≤ (j : Int) := by omega
      obtain ⟨rfl, hc⟩ := unhide HF j hlt
      have HT : Hid (l.take (j + 1) = l.take j ++ [l[j]]) := List.take_succ_eq_append_getElem hlt
      have HM : Hid (l[j] ∈ l) := List.getElem_mem hlt
      generalize hz : l[j] = z at *
      by_cases e : z = x
      · subst e
        have HD : Hid (decide (z ∈ l) = true) := decide_eq_true (unhide HM)
        clear hz
        go_wp2
        go_ret
        exact ⟨by rw [unhide HD]; rfl, rfl⟩
      · have HT2 : Hid (x ∉ l.take (j + 1)) := by
          unfold Hid
          rw [unhide HT, List.mem_append, List.mem_singleton]
          rintro (q | q)
          · exact unhide HN q
          · exact e q.symm
        clear hz
        go_wp2
        go_roundw
        case rel => exact ⟨j + 1, by omega, by go_num, unhide HT2, by first | trivial | rfl⟩
        case measure => simp [numV]; omega
    · have hlt' : ¬ (j : Int) < (l.length : Int) := by omega
      obtain rfl : j = l.length := by omega
      have HD : Hid (decide (x ∈ l) = false) := by
        have := unhide HN
        rw [List.take_length] at this
        exact decide_eq_false this
      go_wp2
      go_ret
      exact ⟨by rw [unhide HD]; rfl, rfl⟩

end Go.Proofs.YtbloahcmakjchabGreatDoor

/- The fact that WalkWays leans on: walked. -/
namespace Go.Proofs.YtbloahcmakjchabGreatDoor
open Go.RowKit Go.Maps

theorem lastV_from (k : Ky) (t : Int) : ∀ (l : List Fop) (v : ByteArray), lastV k t v l ≠ ByteArray.empty → v ≠ ByteArray.empty ∨ ∃ o, o ∈ l ∧ kyO o = k
  | [], _, h => .inl h
  | o :: l, v, h => by
    rcases lastV_from k t l (stepV k t v o) h with q | ⟨p, hp, e⟩
    · unfold stepV at q
      by_cases e : kyO o = k
      · exact .inr ⟨o, by simp, e⟩
      · have : sameK (kyO o) k = false := by
          cases z : sameK (kyO o) k with
          | false => rfl
          | true => exact absurd (sameK_iff.1 z) e
        rw [this, Bool.false_and] at q
        exact .inl q
    · exact .inr ⟨p, by simp [hp], e⟩

theorem fold_from (k : Ky) (t : Int) : ∀ (txs : List (List Fop)) (v : ByteArray), txs.foldl (lastV k t) v ≠ ByteArray.empty → v ≠ ByteArray.empty ∨ ∃ l, l ∈ txs ∧ ∃ o, o ∈ l ∧ kyO o = k
  | [], _, h => .inl h
  | l :: txs, v, h => by
    rcases fold_from k t txs (lastV k t v l) h with q | ⟨m, hm, r⟩
    · rcases lastV_from k t l v q with q | q
      · exact .inl q
      · exact .inr ⟨l, by simp, q⟩
    · exact .inr ⟨m, by simp [hm], r⟩

/-- Of what anything is said may be said. -/
theorem ref_ok {C : List (List Fop)} (hC : ∀ l, l ∈ C → okL l) (k : Ky) (c t : Int) (h : refI C k c t ≠ ByteArray.empty) : KyOk k ∧ keyB k.kind k.a k.word k.b = true := by
  unfold refI refS at h
  rcases fold_from k t _ _ h with q | ⟨l, hl, o, ho, rfl⟩
  · exact absurd rfl q
  · have hb := (hC l (List.mem_of_mem_take hl)).2.2 o ho
    refine ⟨(op_fit hb).1, ?_⟩
    unfold opB at hb
    rw [Bool.and_eq_true, Bool.and_eq_true] at hb
    exact hb.1.1

theorem lastV_some (k : Ky) (t : Int) : ∀ (l : List Fop) (v : ByteArray), (∀ o, o ∈ l → o.lo ≤ t ∧ t < o.hi ∧ o.value ≠ ByteArray.empty) → (lastV k t v l ≠ ByteArray.empty ↔ v ≠ ByteArray.empty ∨ ∃ o, o ∈ l ∧ kyO o = k)
  | [], v, _ => by
    constructor
    · exact .inl
    · rintro (h | ⟨o, ho, _⟩)
      · exact h
      · cases ho
  | o :: l, v, h => by
    show lastV k t (stepV k t v o) l ≠ _ ↔ _
    rw [lastV_some k t l _ (fun p hp => h p (by simp [hp]))]
    obtain ⟨h1, h2, h3⟩ := h o (by simp)
    unfold stepV
    by_cases e : kyO o = k
    · rw [sameK_iff.2 e, decide_eq_true ⟨h1, h2⟩]
      constructor
      · intro _
        exact .inr ⟨o, by simp, e⟩
      · intro _
        exact .inl h3
    · have e1 : sameK (kyO o) k = false := by
        cases z : sameK (kyO o) k with
        | false => rfl
        | true => exact absurd (sameK_iff.1 z) e
      rw [e1, Bool.false_and]
      constructor
      · rintro (q | ⟨p, hp, r⟩)
        · exact .inl q
        · exact .inr ⟨p, by simp [hp], r⟩
      · rintro (q | ⟨p, hp, r⟩)
        · exact .inl q
        · rcases List.mem_cons.1 hp with rfl | hp
          · exact absurd r e
          · exact .inr ⟨p, hp, r⟩

def toB : ByteArray := ⟨#[116, 111]⟩
def wkNode (n : Int) : Fop := ⟨1, n, ⟨#[]⟩, 0, 0, 10, ⟨#[120]⟩⟩
def wkEdge (a b : Int) : Fop := ⟨2, a, ⟨#[116, 111]⟩, b, 0, 10, ⟨#[121]⟩⟩
def nodesO : List Fop := [wkNode 0, wkNode 1, wkNode 2]
def wkOps : List Fop := [wkNode 0, wkNode 1, wkNode 2] ++ [wkEdge 0 1, wkEdge 1 2]
def wkKeys : List Ky := [⟨1, 0, ⟨#[]⟩, 0⟩, ⟨1, 1, ⟨#[]⟩, 0⟩, ⟨1, 2, ⟨#[]⟩, 0⟩, ⟨2, 0, ⟨#[116, 111]⟩, 1⟩, ⟨2, 1, ⟨#[116, 111]⟩, 2⟩]

theorem wkNode_ok (n : Int) (h0 : 0 ≤ n) (h1 : n ≤ 1048576) : opB (wkNode n) = true := by
  simp [opB, wkNode, keyB, idB, empty_is, rightB, h0, h1]
  exact .inr (by decide)
theorem wkEdge_ok (a b : Int) (h0 : 0 ≤ a) (h1 : a ≤ 1048576) (h2 : 0 ≤ b) (h3 : b ≤ 1048576) : opB (wkEdge a b) = true := by
  simp [opB, wkEdge, keyB, idB, rightB, h0, h1, h2, h3]
  exact ⟨by decide, .inr (by decide)⟩
theorem wkOps_ok : okL wkOps := ⟨by decide, by decide, fun o h => by
  simp [wkOps] at h
  rcases h with rfl | rfl | rfl | rfl | rfl
  · exact wkNode_ok 0 (by decide) (by decide)
  · exact wkNode_ok 1 (by decide) (by decide)
  · exact wkNode_ok 2 (by decide) (by decide)
  · exact wkEdge_ok 0 1 (by decide) (by decide) (by decide) (by decide)
  · exact wkEdge_ok 1 2 (by decide) (by decide) (by decide) (by decide)⟩

theorem wk_said (k : Ky) : refI [wkOps] k 1 5 ≠ ByteArray.empty ↔ k ∈ wkKeys := by
  have e : refI [wkOps] k 1 5 = lastV k 5 ⟨#[]⟩ wkOps := rfl
  rw [e, lastV_some k 5 wkOps ⟨#[]⟩ (fun o ho => by
    simp [wkOps] at ho
    rcases ho with rfl | rfl | rfl | rfl | rfl <;> refine ⟨by decide, by decide, fun q => ?_⟩ <;> cases q)]
  constructor
  · rintro (q | ⟨o, ho, rfl⟩)
    · exact absurd rfl q
    · simp [wkOps] at ho
      rcases ho with rfl | rfl | rfl | rfl | rfl <;> simp [wkKeys, kyO, wkNode, wkEdge]
  · intro h
    right
    simp [wkKeys] at h
    rcases h with rfl | rfl | rfl | rfl | rfl
    · exact ⟨wkNode 0, by simp [wkOps], rfl⟩
    · exact ⟨wkNode 1, by simp [wkOps], rfl⟩
    · exact ⟨wkNode 2, by simp [wkOps], rfl⟩
    · exact ⟨wkEdge 0 1, by simp [wkOps], rfl⟩
    · exact ⟨wkEdge 1 2, by simp [wkOps], rfl⟩

theorem wkKeys_rise : wkKeys.Pairwise (fun a b => cfY a b < 0) := by decide

theorem wk_nodes : nodesG wkKeys = [0, 1, 2] := by decide
theorem one_sorted (a : Int) : sortedI [a] = [a] := by simp [sortedI]
theorem wk_nx0 (word : ByteArray) (h : word = ⟨#[]⟩ ∨ word = ⟨#[116, 111]⟩) : nxG wkKeys word 0 = [1] := by
  have e : leadG (edgesG wkKeys 0) word = [1] := by rcases h with rfl | rfl <;> decide
  unfold nxG nextG
  rw [e, one_sorted]
theorem wk_nx1 (word : ByteArray) (h : word = ⟨#[]⟩ ∨ word = ⟨#[116, 111]⟩) : nxG wkKeys word 1 = [2] := by
  have e : leadG (edgesG wkKeys 1) word = [2] := by rcases h with rfl | rfl <;> decide
  unfold nxG nextG
  rw [e, one_sorted]

theorem wk_ring1 (word : ByteArray) (h : word = ⟨#[]⟩ ∨ word = ⟨#[116, 111]⟩) : rounds (nxG wkKeys word) 0 1 = ([(0, 0), (1, 0)], [1]) := by
  simp [rounds, ringStep, visits, wk_nx0 word h, visit]
theorem wk_ring2 (word : ByteArray) (h : word = ⟨#[]⟩ ∨ word = ⟨#[116, 111]⟩) : (rounds (nxG wkKeys word) 0 2).2 = [2] := by
  show (ringStep _ (rounds (nxG wkKeys word) 0 1)).2 = [2]
  rw [wk_ring1 word h]
  simp [ringStep, visits, wk_nx1 word h, visit]

theorem wk_way (word : ByteArray) (h : word = ⟨#[]⟩ ∨ word = ⟨#[116, 111]⟩) : ∃ wy, IsWay (nxG wkKeys word) 0 2 wy 2 ∧ wy[1]? = some 1 := by
  obtain ⟨wy, hw⟩ := way_of (nxG wkKeys word) 0 2 2 (by rw [wk_ring2 word h]; simp)
  refine ⟨wy, hw, ?_⟩
  have hl := hw.len
  have h1 : 1 < wy.length := by omega
  have q := hw.on 1 wy[1] (List.getElem?_eq_getElem h1)
  rw [wk_ring1 word h, List.mem_singleton] at q
  rw [List.getElem?_eq_getElem h1, q]

theorem opsAt_box2 (W : World) (o p : Fop) : OpsAt (W.alloc (.cells #[.int .i64 o.kind, .int .i64 o.a, .string o.word, .int .i64 o.b, .int .i64 o.lo, .int .i64 o.hi, .string o.value, .int .i64 p.kind, .int .i64 p.a, .string p.word, .int .i64 p.b, .int .i64 p.lo, .int .i64 p.hi, .string p.value] 103)) W.heap.size 0 [o, p] := by
  refine ⟨by simp, fun k hk => ?_⟩
  rcases (show k = 0 ∨ k = 1 by simp at hk; omega) with rfl | rfl
  · exact ⟨by simp, by simp, by simp, by simp, by simp, by simp, by simp⟩
  · exact ⟨by simp, by simp, by simp, by simp, by simp, by simp, by simp⟩

theorem cellsO_length : ∀ M : List Fop, (cellsO M).length = M.length * 7
  | [] => rfl
  | o :: M => by
    show (cells7 o ++ cellsO M).length = (M.length + 1) * 7
    rw [List.length_append, cellsO_length M, show (cells7 o).length = 7 from rfl]
    omega

/-- append of some changes to the call's own list of changes. -/
theorem wpList_appOs (w : World) {ops : Array Oper} {rest : List Oper} {o : Oper} {a : Act} {Q : Exit → Act → World → Prop} (hgd : o.guard = none) (s x : Operand)
    (ho : o.op = .call { callee := .builtin .append, args := #[s, x], argTypes := #[32, 32] })
    (base : Nat) (v : Value) (L : List Fop) (hs : a.eval s = v) (hown : RowO w base v L)
    (b n : Nat) (M : List Fop) (hn : M.length = n) (hx : a.eval x = .slice (some ⟨b, 0, none⟩) n n) (hc : OpsAt w b 0 M)
    (hlen : L.length + n ≤ 1000) (hbase : base ≤ w.heap.size)
    (h : ∀ v' w', RowO w' base v' (L ++ M) → w.grownBy w' v.ownBlock → wpList Tryz.prog ops Q rest (a.put o.dst v') w') : wpList Tryz.prog ops Q (o :: rest) a w := by
  obtain ⟨i0, hi0, hz0, hz1, hz2⟩ := info_parts infoO
  have hcl : (cellsO M).length = n * 7 := by rw [← hn]; exact cellsO_length M
  refine wpList_append_own w hgd s x 32 ho base 103 i0 (.agg #[.int .i64 0, .int .i64 0, .string ⟨#[]⟩, .int .i64 0, .int .i64 0, .int .i64 0, .string ⟨#[]⟩]) 7 72 Tryz.underlying32 hi0 hz0 hz1 hz2 rfl (by decide) v L.length (cellsO L) hs hown ⟨b, 0, none⟩ n n (cellsO M) hx hcl ?_ ?_ ?_ ?_ hbase ?_
  · intro j u hj
    have hjl : j < n * 7 := by
      rcases Nat.lt_or_ge j (n * 7) with q | q
      · exact q
      · rw [List.getElem?_eq_none (by omega)] at hj
        cases hj
    obtain ⟨k, r, e, hr⟩ : ∃ k r, j = k * 7 + r ∧ r < 7 := ⟨j / 7, j % 7, by omega, by omega⟩
    have hk : k < M.length := by omega
    subst e
    rw [cellsO_at M k hk r hr] at hj
    obtain ⟨c0, c1, c2, c3, c4, c5, c6⟩ := hc.2 k hk
    rcases (show r = 0 ∨ r = 1 ∨ r = 2 ∨ r = 3 ∨ r = 4 ∨ r = 5 ∨ r = 6 by omega) with rfl | rfl | rfl | rfl | rfl | rfl | rfl
    · simp [cells7] at hj
      subst hj
      by_cases e : k * 7 = 0
      · simpa [Addr.add, e] using c0
      · simpa [Addr.add, e] using c0
    · simp [cells7] at hj; subst hj; simpa [Addr.add] using c1
    · simp [cells7] at hj; subst hj; simpa [Addr.add] using c2
    · simp [cells7] at hj; subst hj; simpa [Addr.add] using c3
    · simp [cells7] at hj; subst hj; simpa [Addr.add] using c4
    · simp [cells7] at hj; subst hj; simpa [Addr.add] using c5
    · simp [cells7] at hj; subst hj; simpa [Addr.add] using c6
  · intro u hu
    obtain ⟨o, _, ho⟩ := List.mem_flatMap.1 hu
    simp [cells7] at ho
    rcases ho with rfl | rfl | rfl | rfl | rfl | rfl | rfl <;> rfl
  · unfold maxLen; omega
  · omega
  · intro v' w' k1 k2 _
    refine h v' w' ?_ k2
    unfold RowO
    rw [show cellsO (L ++ M) = cellsO L ++ cellsO M by simp [cellsO], List.length_append, hn]
    exact k1

theorem past_none (w : World) : PastT (w.alloc (.cells #[.int .i64 0, .int .i64 0, .map none] 26)) (pl0 w.heap.size) [] 0 (pastF (pl0 w.heap.size) none [] (fun _ _ => False)) := by
  refine PastW.congr (S := noneS) (past_new w) (fun k c _ _ t => ?_)
  unfold refI refS noneS
  simp
  rfl
theorem past_noneF {n i : Nat} (q : pastF (pl0 n) none [] (fun _ _ => False) i) : i = n := by
  rcases q with q | q | ⟨x, hx, _⟩
  · exact q
  · cases q
  · cases hx

end Go.Proofs.YtbloahcmakjchabGreatDoor

/- walked: walked. -/
namespace Go.Proofs.YtbloahcmakjchabGreatDoor
open Go.RowKit Go.Maps

theorem nodes_next {n : Nat} (h : n < 3) : nodesO.take (n + 1) = nodesO.take n ++ [wkNode n] := by
  rcases (show n = 0 ∨ n = 1 ∨ n = 2 by omega) with rfl | rfl | rfl <;> rfl
theorem nodes_len (n : Nat) : (nodesO.take n).length ≤ 3 := by
  rw [List.length_take]
  exact Nat.min_le_right _ _

set_option maxRecDepth 100000 in
set_option maxHeartbeats 4000000 in
theorem walked_ok (w : World) (ht : Tab w) : Calls Tryz.prog 10 #[] w fun e w' => e = .returned (.bool true) ∧ Below w.heap.size w w' := by
  have HT := hide ht
  have HP0 := hide (past_none w)
  have HB1 := hide (below_box w (.cells #[.int .i64 0, .int .i64 0, .map none] 26))
  have HB2 := hide (below_box (w.alloc (.cells #[.int .i64 0, .int .i64 0, .map none] 26)) (.cells #[.int .i64 0, .int .i64 10] 83))
  have hz : (w.alloc (.cells #[.int .i64 0, .int .i64 0, .map none] 26)).heap.size = w.heap.size + 1 := by simp
  have s0 : ((w.alloc (.cells #[.int .i64 0, .int .i64 0, .map none] 26)).alloc (.cells #[.int .i64 0, .int .i64 10] 83)).cell? ⟨w.heap.size + 1, 0, none⟩ = some (.int .i64 0) := by rw [← hz]; simp
  have s1 : ((w.alloc (.cells #[.int .i64 0, .int .i64 0, .map none] 26)).alloc (.cells #[.int .i64 0, .int .i64 10] 83)).cell? ⟨w.heap.size + 1, 1, none⟩ = some (.int .i64 10) := by rw [← hz]; simp
  have HP2 := hide ((unhide HP0).below (unhide HB2))
  have HBw := hide ((unhide HB1).trans ((unhide HB2).mono (unhide HB1).size))
  clear ht HP0 HB1 HB2 hz
  go_enter Tryz.func10, Tryz.ntmps10
  go_wp2
  generalize (w.alloc (.cells #[.int .i64 0, .int .i64 0, .map none] 26)).alloc (.cells #[.int .i64 0, .int .i64 10] 83) = W2 at *
  have hsz : w.heap.size + 1 < W2.heap.size := lt_of_cell s0
  have HS0 := hide s0
  have HS1 := hide s1
  clear s0 s1
  go_loopw [3, 4] (fun o i y => ∃ n : Nat, n ≤ 3 ∧ i = .int .i64 n ∧ RowO y W2.heap.size o (nodesO.take n) ∧ Below W2.heap.size W2 y) (fun _ i _ => 3 - numV i)
  case atStart => exact ⟨0, by omega, rfl, World.ownsRow_nil _ _ _ _, Below.refl _ _⟩
  case round =>
    obtain ⟨n, hn, rfl, hr, hb⟩ := hrel
    have HR := hide hr
    have HB := hide hb
    have z0 := (hb.cell (p := ⟨w.heap.size + 1, 0, none⟩) hsz).trans (unhide HS0)
    have z1 := (hb.cell (p := ⟨w.heap.size + 1, 1, none⟩) hsz).trans (unhide HS1)
    have hbs := hb.size
    clear hr hb
    by_cases hlt : n < 3
    · have hlt' : (n : Int) < 3 := by omega
      have HBx := hide (below_box wr (.cells #[.int .i64 1, .int .i64 (n : Int), .string ⟨#[]⟩, .int .i64 0, .int .i64 0, .int .i64 10, .string ⟨#[120]⟩] 103))
      have HO := hide ((unhide HR).carry (unhide HBx))
      have HB3 := hide ((unhide HB).trans ((unhide HBx).mono hbs))
      have hob : OpsAt (wr.alloc (.cells #[.int .i64 1, .int .i64 (n : Int), .string ⟨#[]⟩, .int .i64 0, .int .i64 0, .int .i64 10, .string ⟨#[120]⟩] 103)) wr.heap.size 0 [wkNode n] := opsAt_box wr (wkNode n)
      have HOb := hide hob
      have HLn : Hid ((nodesO.take n).length ≤ 1000) := Nat.le_trans (nodes_len n) (by decide)
      have HBs := hide (unhide HB3).size
      have HRl := hide (World.ownsRow.lt (show World.ownsRow _ _ _ _ _ _ _ from unhide HO))
      clear hob HR HB
      go_wp2_with (first
        | (at_builtin; refine wpList_appO _ rfl (.tmp 15) (.tmp 20) rfl W2.heap.size _ (nodesO.take n) rfl (unhide HO) wr.heap.size (wkNode n) rfl (unhide HOb) (unhide HLn) (unhide HBs) ?_))
      intro v2 w2 r1 r2
      have HR2 : Hid (RowO w2 W2.heap.size v2 (nodesO.take (n + 1))) := by
        unfold Hid
        rw [nodes_next hlt]
        exact r1
      have HB4 : Hid (Below W2.heap.size W2 w2) := (unhide HB3).grown r2 (unhide HBs) (fun i hi => (unhide HRl i hi).1)
      obtain ⟨ad2, c2, rfl⟩ := row_slice (show World.ownsRow _ _ _ _ _ _ _ from unhide HR2)
      clear r1 r2 HO HOb HB3 HBx HLn HBs HRl z0 z1
      go_wp2
      go_roundw
      case rel => exact ⟨n + 1, by omega, by go_num, unhide HR2, unhide HB4⟩
      case measure => simp [numV]; omega
    · have hlt' : ¬ (n : Int) < 3 := by omega
      obtain rfl : n = 3 := by omega
      have HBx := hide (below_box wr (.cells #[.int .i64 2, .int .i64 0, .string ⟨#[116, 111]⟩, .int .i64 1, .int .i64 0, .int .i64 10, .string ⟨#[121]⟩, .int .i64 2, .int .i64 1, .string ⟨#[116, 111]⟩, .int .i64 2, .int .i64 0, .int .i64 10, .string ⟨#[121]⟩] 103))
      have hR3 : RowO wr W2.heap.size u3 nodesO := unhide HR
      have HO := hide (hR3.carry (unhide HBx))
      have HB3 := hide ((unhide HB).trans ((unhide HBx).mono hbs))
      have hob : OpsAt (wr.alloc (.cells #[.int .i64 2, .int .i64 0, .string ⟨#[116, 111]⟩, .int .i64 1, .int .i64 0, .int .i64 10, .string ⟨#[121]⟩, .int .i64 2, .int .i64 1, .string ⟨#[116, 111]⟩, .int .i64 2, .int .i64 0, .int .i64 10, .string ⟨#[121]⟩] 103)) wr.heap.size 0 [wkEdge 0 1, wkEdge 1 2] := opsAt_box2 wr (wkEdge 0 1) (wkEdge 1 2)
      have HOb := hide hob
      have HBs := hide (unhide HB3).size
      have HRl := hide (World.ownsRow.lt (show World.ownsRow _ _ _ _ _ _ _ from unhide HO))
      clear hob HR HB hR3
      go_wp2_with (first
        | (at_builtin; refine wpList_appOs _ rfl (.tmp 22) (.tmp 29) rfl W2.heap.size _ nodesO rfl (unhide HO) wr.heap.size 2 [wkEdge 0 1, wkEdge 1 2] rfl rfl (unhide HOb) (by decide) (unhide HBs) ?_))
      intro v2 w2 r1 r2
      have hR4 : RowO w2 W2.heap.size v2 wkOps := r1
      have hB4 : Below W2.heap.size W2 w2 := (unhide HB3).grown r2 (unhide HBs) (fun i hi => (unhide HRl i hi).1)
      obtain ⟨gb, cap, rfl, hO4, hg4⟩ := RowO.at hR4 (by simp [wkOps])
      have hBw4 := (unhide HBw).trans (hB4.mono (unhide HBw).size)
      have HC := hide (commit_txs ((unhide HP2).below hB4) wkOps gb 0 cap wkOps_ok hO4 (fun q => by have := past_noneF q; omega) ((unhide HT).carry hBw4) (by decide) (by decide))
      have HB4 := hide hBw4
      clear r1 r2 HO HOb HB3 HBx HBs HRl z0 z1 hR4 hB4 hO4 hg4 hBw4 HP2 HT
      generalize wkOps.length = n5 at *
      go_wp2_with fail
      refine (unhide HC).mono ?_
      rintro e W4 ⟨rfl, F4, p4, g4⟩
      rw [List.nil_append] at p4
      have hB5 : Below w.heap.size w W4 := (unhide HB4).trans (keeps_below g4.2 (fun i q => by rw [past_noneF q]; exact Nat.le_refl _) (unhide HB4).size)
      have HB5 := hide hB5
      have HA := hide (walk_At (show PastW W4 (pl0 w.heap.size) ((([wkOps] : List (List Fop)).length : Nat) : Int) 0 (24 * (([wkOps] : List (List Fop)).length : Int)) (refI [wkOps]) F4 from p4) (by decide) 1 5 (by decide) (by decide) (by decide) (by decide) (by decide) (fun k hk => ref_ok (C := [wkOps]) (fun l hl => by rw [List.mem_singleton.1 hl]; exact wkOps_ok) k 1 5 hk))
      clear g4 p4 hB5 HC HB4 HBw
      go_wp2_with fail
      refine (unhide HA).mono ?_
      rintro e W5 ⟨g5, m5, L, X, Nd, Fs, rfl, hG, hL, hm, hlen, hfr, b5⟩
      obtain rfl : L = wkKeys := keys_one hL wkKeys_rise (fun k => (hm k).trans (wk_said k))
      have hids : X.map (·.1) = [0, 1, 2] := hG.ids.trans wk_nodes
      have hXl : X.length = 3 := by
        have := congrArg List.length hids
        simpa using this
      have HKo : Hid (∀ k, k ∈ wkKeys → KyOk k) := fun k hk => (ref_ok (C := [wkOps]) (fun l hl => by rw [List.mem_singleton.1 hl]; exact wkOps_ok) k 1 5 ((wk_said k).2 hk)).1
      have h0 : (0 : Int) ∈ X.map (·.1) := by rw [hids]; simp
      have h2 : (2 : Int) ∈ X.map (·.1) := by rw [hids]; simp
      obtain ⟨wy, hw, hw1⟩ := wk_way ⟨#[]⟩ (.inl rfl)
      have HW := hide (way_ok (hG.spt (unhide HKo) (by decide) ⟨#[]⟩) 0 2 h0 h2 2 wy hw (by omega))
      have HG := hide hG
      have HB6 := hide ((unhide HB5).trans (b5.mono (unhide HB5).size))
      have H0 := hide h0
      have hwl : wy.length = 3 := hw.len
      have HW1 := hide hw1
      clear hG hL hm hlen hfr b5 HB5 HA hw hw1 h0 h2 hids hXl
      go_wp2_with fail
      refine (unhide HW).mono ?_
      rintro e W6 ⟨v6, rfl, r6, b6⟩
      have HG6 := hide ((unhide HG).below b6)
      obtain ⟨g6, ad6, c6, rfl, hf6⟩ := r6.cells
      obtain ⟨rfl, hc6⟩ := hf6 1 (by omega)
      have hv6 : wy[1]'(by omega) = 1 := by
        have := unhide HW1
        rw [List.getElem?_eq_getElem (by omega)] at this
        exact Option.some.inj this
      rw [hv6] at hc6
      have HC6 := hide hc6
      have HB7 := hide ((unhide HB6).trans (b6.mono (unhide HB6).size))
      have HH := hide (hops_ok ((unhide HG6).spt (unhide HKo) (by decide) ⟨#[116, 111]⟩) 0 (unhide H0) 1 (by decide))
      clear r6 b6 hf6 hc6 hv6 HG HW HB6 HW1
      rw [hwl]
      clear hwl
      go_wp2_with fail
      refine (unhide HH).mono ?_
      rintro e W7 ⟨v7, rfl, r7, b7⟩
      have hc7 := there_at (unhide HC6) b7
      have HB8 := hide ((unhide HB7).trans (b7.mono (unhide HB7).size))
      obtain ⟨ad7, c7, rfl⟩ := row_slice (show World.ownsRow _ _ _ _ _ _ _ from r7)
      have hl7 : (sortedI (cameK (nxG wkKeys ⟨#[116, 111]⟩) 0 1)).length = 2 := by
        rw [sortedI_length]
        unfold cameK
        rw [wk_ring1 _ (.inr rfl)]
        rfl
      rw [hl7]
      clear r7 b7 hl7 HH HG6 HC6 HB7 HKo H0
      go_wp2
      go_ret
      exact ⟨rfl, unhide HB8⟩

end Go.Proofs.YtbloahcmakjchabGreatDoor
