/- The program's tree whole, in its blocks; and the document's beside it. -/
import Derived.Test.YtfcmkaiocnelgaaPtK
namespace Go.Proofs.Ytfcmkaiocnelgaa
open Go.RowKit Go.Maps

theorem nodes_rising {L : List Ent} (h : Rising L) : (L.map (·.id)).Nodup := by
  rw [List.nodup_iff_pairwise_ne, List.pairwise_map]
  exact List.Pairwise.imp (fun h => by omega) h

/-- The map of a tree. -/
def MapAt (w : World) (mv : Option Nat) (X : List (Nat × Ent)) : Prop := (mv = none ∧ X = []) ∨ ∃ m D, mv = some m ∧ w.ownsMap Try.prog 3 ptrElem m X.length D ∧ Keys D X

/-- The program's tree in block B: m its map, X its nodes in order, F all blocks that it lies in. -/
structure PX (w : World) (B : Nat) (L : List Ent) (mv : Option Nat) (X : List (Nat × Ent)) (F : Nat → Prop) : Prop where
  c0 : w.cell? ⟨B, 0, none⟩ = some (.map mv)
  c1 : w.cell? ⟨B, 1, none⟩ = some (linkT X).ptr
  f : ∀ i, w.frozen? ⟨B, i, none⟩ = false
  map : MapAt w mv X
  lies : (linkT X).Lies w
  ordered : Ordered X
  right : ∀ x, x ∈ X → rightB x.2.lo x.2.hi = true
  nodup : (X.map (·.1)).Nodup
  out : ∀ x, x ∈ X → x.1 ≠ B
  both : Both L X
  rising : Rising L
  len : L.length ≤ 4000
  fB : F B
  fm : ∀ m, mv = some m → F m
  fX : ∀ x, x ∈ X → F x.1
  lt : ∀ i, F i → i < w.heap.size

def PT (w : World) (B : Nat) (L : List Ent) (F : Nat → Prop) : Prop := ∃ mv X, PX w B L mv X F

theorem right_lt {a b : Int} (h : rightB a b = true) : a < b := by
  unfold rightB at h
  exact (of_decide_eq_true h).2.2

theorem PX.nodeAt {w : World} {B : Nat} {L : List Ent} {mv : Option Nat} {X : List (Nat × Ent)} {F : Nat → Prop} (h : PX w B L mv X F) (x : Nat × Ent) (hx : x ∈ X) : NodeAt w x.1 x.2 :=
  h.lies.at x (by rw [items_link]; exact hx)

theorem PX.fine {w : World} {B : Nat} {L : List Ent} {mv : Option Nat} {X : List (Nat × Ent)} {F : Nat → Prop} (h : PX w B L mv X F) : (linkT X).Fine :=
  fine_link X h.ordered (fun x hx => right_lt (h.right x hx))

theorem PX.length {w : World} {B : Nat} {L : List Ent} {mv : Option Nat} {X : List (Nat × Ent)} {F : Nat → Prop} (h : PX w B L mv X F) : X.length = L.length := by
  have := h.both.length_eq
  rw [List.length_map] at this
  exact this.symm

theorem PX.ids {w : World} {B : Nat} {L : List Ent} {mv : Option Nat} {X : List (Nat × Ent)} {F : Nat → Prop} (h : PX w B L mv X F) : (X.map (fun x => x.2.id)).Nodup := by
  have := (h.both.map (·.id)).nodup_iff.1 (nodes_rising h.rising)
  rw [List.map_map] at this
  exact this

theorem MapAt.keeps {w w' : World} {mv : Option Nat} {X : List (Nat × Ent)} {G : Nat → Prop} (h : MapAt w mv X) (hk : Keeps G w w') (hG : ∀ m, mv = some m → ¬ G m) : MapAt w' mv X := by
  rcases h with h | ⟨m, D, e, h1, h2⟩
  · exact .inl h
  · exact .inr ⟨m, D, e, ownsMap_keeps h1 hk (hG m e), h2⟩

/-- What happens outside of its blocks the tree does not see. -/
theorem PX.keeps {w w' : World} {B : Nat} {L : List Ent} {mv : Option Nat} {X : List (Nat × Ent)} {F G : Nat → Prop} (h : PX w B L mv X F) (hk : Keeps G w w') (hG : ∀ i, F i → ¬ G i) : PX w' B L mv X F := by
  have hB := h.lt B h.fB
  refine ⟨(hk.cell (p := ⟨B, 0, none⟩) hB (hG B h.fB)).trans h.c0, (hk.cell (p := ⟨B, 1, none⟩) hB (hG B h.fB)).trans h.c1, fun i => (hk.frozen (p := ⟨B, i, none⟩) hB (hG B h.fB)).trans (h.f i), h.map.keeps hk (fun m e => hG m (h.fm m e)), h.lies.keeps hk (fun x hx => hG _ (h.fX x (by rw [items_link] at hx; exact hx))), h.ordered, h.right, h.nodup, h.out, h.both, h.rising, h.len, h.fB, h.fm, h.fX, fun i hi => Nat.lt_of_lt_of_le (h.lt i hi) hk.size⟩

theorem PT.keeps {w w' : World} {B : Nat} {L : List Ent} {F G : Nat → Prop} (h : PT w B L F) (hk : Keeps G w w') (hG : ∀ i, F i → ¬ G i) : PT w' B L F := by
  obtain ⟨mv, X, h⟩ := h
  exact ⟨mv, X, h.keeps hk hG⟩

theorem PT.below {w w' : World} {B : Nat} {L : List Ent} {F : Nat → Prop} (h : PT w B L F) (hb : Below w.heap.size w w') : PT w' B L F :=
  h.keeps (Keeps.of_below (fun _ => False) hb (Nat.le_refl _)) (fun _ _ h => h)

theorem PT.lt {w : World} {B : Nat} {L : List Ent} {F : Nat → Prop} (h : PT w B L F) : ∀ i, F i → i < w.heap.size := by
  obtain ⟨mv, X, h⟩ := h
  exact h.lt
theorem PT.fB {w : World} {B : Nat} {L : List Ent} {F : Nat → Prop} (h : PT w B L F) : F B := by
  obtain ⟨mv, X, h⟩ := h
  exact h.fB
theorem PT.rising {w : World} {B : Nat} {L : List Ent} {F : Nat → Prop} (h : PT w B L F) : Rising L := by
  obtain ⟨mv, X, h⟩ := h
  exact h.rising
theorem PT.len {w : World} {B : Nat} {L : List Ent} {F : Nat → Prop} (h : PT w B L F) : L.length ≤ 4000 := by
  obtain ⟨mv, X, h⟩ := h
  exact h.len

/-- A tree that has none. -/
theorem pt_new {w : World} {B : Nat} (h0 : w.cell? ⟨B, 0, none⟩ = some (.map none)) (h1 : w.cell? ⟨B, 1, none⟩ = some (.pointer none)) (hf : ∀ i, w.frozen? ⟨B, i, none⟩ = false) : PT w B [] (· = B) := by
  refine ⟨none, [], h0, ?_, hf, .inl ⟨rfl, rfl⟩, ?_, List.Pairwise.nil, by simp, by simp, by simp, List.Perm.refl _, List.Pairwise.nil, by simp, rfl, by simp, by simp, fun i hi => by subst hi; exact lt_of_cell h0⟩
  · rw [linkT_nil]; exact h1
  · rw [linkT_nil]; trivial

/-- What a change of the tree leaves. -/
def Turned (w : World) (B : Nat) (L' : List Ent) (F : Nat → Prop) (w' : World) : Prop :=
  ∃ F', PT w' B L' F' ∧ (∀ i, F' i → F i ∨ w.heap.size ≤ i) ∧ Keeps F w w'

theorem PX.missing {w : World} {B : Nat} {L : List Ent} {mv : Option Nat} {X : List (Nat × Ent)} {F : Nat → Prop} (h : PX w B L mv X F) {id : Int} (hf : foundT L id = false) : ∀ x, x ∈ X → x.2.id ≠ id := fun x hx e => by
  have := (found_iff L id h.rising).2 ⟨x.2, h.both.mem_iff.2 (List.mem_map.2 ⟨x, hx, rfl⟩), e⟩
  rw [hf] at this
  cases this

theorem PX.there {w : World} {B : Nat} {L : List Ent} {mv : Option Nat} {X : List (Nat × Ent)} {F : Nat → Prop} (h : PX w B L mv X F) {id : Int} (hf : foundT L id = true) : ∃ x, x ∈ X ∧ x.2.id = id ∧ spanT L id = (x.2.lo, x.2.hi, 0) := by
  obtain ⟨hk, hid⟩ := found_at L id hf
  obtain ⟨x, hx, e⟩ := List.mem_map.1 (h.both.mem_iff.1 (List.getElem_mem hk))
  refine ⟨x, hx, by rw [e]; exact hid, ?_⟩
  unfold spanT
  rw [dif_pos hf, e]

/-- One that has come. -/
theorem turned_add {w w' : World} {B : Nat} {L : List Ent} {mv : Option Nat} {X : List (Nat × Ent)} {F : Nat → Prop} (h : PX w B L mv X F) (e : Ent) (nb m : Nat) (hf : foundT L e.id = false) (hl : L.length < 4000) (hr : rightB e.lo e.hi = true)
    (hnb : w.heap.size ≤ nb) (hnb' : nb < w'.heap.size) (hm : mv = some m ∨ (w.heap.size ≤ m ∧ m < w'.heap.size)) (c0 : w'.cell? ⟨B, 0, none⟩ = some (.map (some m))) (c1 : w'.cell? ⟨B, 1, none⟩ = some (linkT (addX X nb e)).ptr) (f : ∀ i, w'.frozen? ⟨B, i, none⟩ = false)
    (map : MapAt w' (some m) (addX X nb e)) (lies : (linkT (addX X nb e)).Lies w') (hk : Keeps F w w') : Turned w B (addT L e) F w' := by
  have hne := h.missing hf
  have hB := h.lt B h.fB
  have hmem : ∀ x, x ∈ addX X nb e ↔ x = (nb, e) ∨ x ∈ X := fun x => by rw [(addX_perm X nb e).mem_iff, List.mem_cons]
  refine ⟨fun i => F i ∨ i = nb ∨ i = m, ⟨some m, addX X nb e, c0, c1, f, map, lies, ordered_add X nb e h.ordered hne, ?_, ?_, ?_, both_add h.both nb e, rising_add L e h.rising hf, by rw [addT_length]; omega, .inl h.fB, ?_, ?_, ?_⟩, ?_, hk⟩
  · intro x hx
    rcases (hmem x).1 hx with rfl | hx
    · exact hr
    · exact h.right x hx
  · refine ((addX_perm X nb e).map (·.1)).nodup_iff.2 ?_
    rw [List.map_cons, List.nodup_cons]
    refine ⟨fun q => ?_, h.nodup⟩
    obtain ⟨x, hx, k⟩ := List.mem_map.1 q
    have := h.lt x.1 (h.fX x hx)
    have k' : x.1 = nb := k
    omega
  · intro x hx
    rcases (hmem x).1 hx with rfl | hx
    · exact fun q => by have q' : nb = B := q
                        omega
    · exact h.out x hx
  · intro k q
    cases q
    exact .inr (.inr rfl)
  · intro x hx
    rcases (hmem x).1 hx with rfl | hx
    · exact .inr (.inl rfl)
    · exact .inl (h.fX x hx)
  · intro i hi
    rcases hi with k | k | k
    · exact Nat.lt_of_lt_of_le (h.lt i k) hk.size
    · rw [k]; exact hnb'
    · rw [k]
      rcases hm with q | q
      · exact Nat.lt_of_lt_of_le (h.lt m (h.fm m q)) hk.size
      · exact q.2
  · intro i hi
    rcases hi with k | k | k
    · exact .inl k
    · rw [k]; exact .inr hnb
    · rw [k]
      rcases hm with q | q
      · exact .inl (h.fm m q)
      · exact .inr q.1

/-- One that has gone. -/
theorem turned_drop {w w' : World} {B : Nat} {L : List Ent} {mv : Option Nat} {X : List (Nat × Ent)} {F : Nat → Prop} (h : PX w B L mv X F) (p : Nat × Ent) (hp : p ∈ X)
    (c0 : w'.cell? ⟨B, 0, none⟩ = some (.map mv)) (c1 : w'.cell? ⟨B, 1, none⟩ = some (linkT (dropX X p.2)).ptr) (f : ∀ i, w'.frozen? ⟨B, i, none⟩ = false)
    (map : MapAt w' mv (dropX X p.2)) (lies : (linkT (dropX X p.2)).Lies w') (hk : Keeps F w w') : Turned w B (dropT L p.2.id) F w' := by
  have hP := dropX_perm X p h.ordered hp
  have hmem : ∀ x, x ∈ dropX X p.2 → x ∈ X := fun x hx => hP.mem_iff.2 (List.mem_cons_of_mem _ hx)
  obtain ⟨hf, hb⟩ := both_drop h.both h.rising h.ordered p hp
  refine ⟨F, ⟨mv, dropX X p.2, c0, c1, f, map, lies, ordered_drop X p.2 h.ordered, fun x hx => h.right x (hmem x hx), ?_, fun x hx => h.out x (hmem x hx), hb, rising_drop L p.2.id h.rising, ?_, h.fB, h.fm, fun x hx => h.fX x (hmem x hx), fun i hi => Nat.lt_of_lt_of_le (h.lt i hi) hk.size⟩, fun _ h => .inl h, hk⟩
  · have := (hP.map (·.1)).nodup_iff.1 h.nodup
    rw [List.map_cons, List.nodup_cons] at this
    exact this.2
  · have := dropT_length L p.2.id (found_at L p.2.id hf).1
    have := h.len
    omega

end Go.Proofs.Ytfcmkaiocnelgaa
