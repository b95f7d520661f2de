/- Where a node stands in a row of nodes in order: slices.BinarySearchFunc, by its contract. -/
import Derived.Test.YtfcmkaiocnelgaaPtC
import Derived.Test.YtfcmkaiocnelgaaPtO
namespace Go.Proofs.Ytfcmkaiocnelgaa
open Go.RowKit Go.Sort Go.Shelf Go.Lib

def encN {w : World} {blk : Nat} (n : Nd w blk) : Value := .pointer (some ⟨n.p.1, 0, none⟩)

theorem heap_sortWorld {α : Type} [Inhabited α] (enc : α → Value) (w : World) (blk off m : Nat) (d : Array α) (os : Array Obj) (k : Nat) (hk : k < w.heap.size) (hne : k ≠ blk) : (sortWorld enc w blk off m d os).heap[k]? = w.heap[k]? := by
  unfold sortWorld
  rw [heap_grow_old _ _ (by simpa [putRow, mapBlock, Sort.ahead] using hk)]
  have : blk ≠ k := fun e => hne e.symm
  simp [putRow, mapBlock, Sort.ahead, Array.getElem?_modify, this]

theorem search_node (X : List (Nat × Ent)) (p : Nat × Ent) (q c base : Nat) (w : World) (hO : Ordered X) (hX : ∀ x, x ∈ X → NodeAt w x.1 x.2) (hq : ∀ x, x ∈ X → x.1 ≠ q) (hp : NodeAt w p.1 p.2) (hpq : p.1 ≠ q)
    (hr : w.ownsRow base 47 1 (.slice (some ⟨q, 0, none⟩) X.length c) X.length (X.map ptrB)) (hl : X.length ≤ 100000) :
    Calls Try.prog 45 #[.slice (some ⟨q, 0, none⟩) X.length c, .pointer (some ⟨p.1, 0, none⟩), .func (.func 46) #[] #[]] w fun e w' =>
      ∃ bl, e = .returned (.tuple #[.int .i64 (posX X p.2), .bool bl]) ∧ Below w.heap.size w w' := by
  obtain ⟨cur, hb, _⟩ := row_block hr
  let _ : Inhabited (Nd w q) := ⟨⟨p, hp, hpq⟩⟩
  let d : Array (Nd w q) := (X.attach.map (fun x => (⟨x.1, hX x.1 x.2, hq x.1 x.2⟩ : Nd w q))).toArray
  have hds : d.size = X.length := by simp [d]
  have hdg : ∀ i, (h : i < X.length) → (d[i]!).p = X[i] := fun i h => by
    rw [getElem!_pos d i (by rw [hds]; exact h)]
    simp [d]
  have eg : ∀ args w, (callFunc 46 args).run Try.prog w = .ok (.enter 46 args) w := enters_of Try.func46 (by kernel_rfl) rfl
  have hcmp : CmpLaysT Try.prog 46 #[] (encN (w := w) (blk := q)) (.pointer (some ⟨p.1, 0, none⟩)) (fun n => entCmp n.p.2 p.2) q 0 d.size w := fun m os dk _ x => by
    have nd : ∀ y : Nat × Ent, NodeAt w y.1 y.2 → y.1 ≠ q → NodeAt (sortWorld encN w q 0 m dk os) y.1 y.2 := fun y hy hne => by
      have hlt := hy.lt
      obtain ⟨l, u, v, h⟩ := hy
      exact ⟨l, u, v, h.of_block (heap_sortWorld _ _ _ _ _ _ _ _ hlt hne)⟩
    exact tree_compare x.p.1 p.1 x.p.2 p.2 _ (nd x.p x.h x.o) (nd p hp hpq)
  have hH : Holds (encN (w := w) (blk := q)) w q 0 d := fun j hj => by
    rw [hds] at hj
    refine ⟨?_, ?_⟩
    · rw [Nat.zero_add, hr.cellAt j (by simpa using hj)]
      simp only [List.getElem?_map, List.getElem?_eq_getElem hj, Option.map_some]
      unfold encN ptrB
      rw [hdg j hj]
    · exact hr.frozenAt _
  have hmono : ∀ a b, a ≤ b → b < d.size → entCmp (d[b]!).p.2 p.2 < 0 → entCmp (d[a]!).p.2 p.2 < 0 := fun a b hab hbs h => by
    rw [hds] at hbs
    rw [hdg b hbs] at h
    rw [hdg a (by omega)]
    rcases Nat.lt_or_ge a b with k | k
    · have h1 : Ahead (X[a]'(by omega)).2 X[b].2 := List.pairwise_iff_getElem.1 hO a b (by omega) hbs k
      rw [entCmp_neg] at h ⊢
      exact Ahead.trans h1 h
    · obtain rfl : a = b := by omega
      exact h
  have hcon := Any.slices_BinarySearchFunc Try.searchNode (encN (w := w) (blk := q)) (fun _ => rfl) (.pointer (some ⟨p.1, 0, none⟩)) (fun n => entCmp n.p.2 p.2) 46 #[] q 0 c d w eg hcmp hH (lt_of_block hb) (by rw [hds]; omega) hmono
  change Calls Try.prog 45 _ _ _ at hcon
  have hcnt : d.toList.countP (fun x => decide (entCmp x.p.2 p.2 < 0)) = posX X p.2 := by
    have e1 : d.toList = X.attach.map (fun x => (⟨x.1, hX x.1 x.2, hq x.1 x.2⟩ : Nd w q)) := rfl
    rw [e1, List.countP_map]
    have : (fun x : { x // x ∈ X } => decide (entCmp x.1.2 p.2 < 0)) = ((fun x : Nat × Ent => decide (x.2.lo < p.2.lo ∨ (x.2.lo = p.2.lo ∧ x.2.id < p.2.id))) ∘ Subtype.val) := by
      funext x
      simp only [Function.comp]
      exact decide_eq_decide.2 (entCmp_neg _ _)
    show List.countP (fun x : { x // x ∈ X } => decide (entCmp x.1.2 p.2 < 0)) X.attach = _
    rw [this, ← List.countP_map, List.attach_map_subtype_val]
    rfl
  rw [hcnt, hds] at hcon
  refine hcon.mono ?_
  rintro e w' ⟨rfl, m, os, rfl⟩
  refine ⟨_, rfl, ?_⟩
  unfold sortWorld
  rw [putRow_self _ _ _ _ _ (holds_ahead _ w m q 0 d hH)]
  exact below_grown_sl _ w m os (Nat.le_refl _)

end Go.Proofs.Ytfcmkaiocnelgaa
