/- Texts of one proof, one behind the other. -/
import Derived.Test.YtbmkmfoaoganeaaGreatDoorNa
import Derived.Maps.OwnSet
import Derived.Lib.SliceRun
import Derived.Lib.JoinLaws
import Derived.Lib.Overlaps
import Derived.Laws.Externs
import Derived.Laws.IdiomCopy
import Derived.Deep.RegionLaw
set_option maxRecDepth 100000
set_option maxHeartbeats 16000000
namespace Go.Proofs.YtbmkmfoaoganeaaGreatDoor
structure Nod where
 b : Nat
 e : Ent
 last : Int
 l : Option Nod
 r : Option Nod
abbrev Tr : Type := Option Nod
def Tr.nil : Tr := none
def Tr.node (b : Nat) (e : Ent) (last : Int) (l r : Tr) : Tr := some ⟨b, e, last, l, r⟩
theorem Tr.ind {motive : Tr -> Prop} (nil : motive Tr.nil) (node : ∀ b e last l r, motive l -> motive r -> motive (Tr.node b e last l r)) (T : Tr) : motive T := by
 cases T with
 | none => exact nil
 | some x => exact Nod.rec (motive_1 := fun n => motive (some n)) (motive_2 := motive) (fun b e last l r hl hr => node b e last l r hl hr) nil (fun _ h => h) x
theorem Tr.cs {motive : Tr -> Prop} (nil : motive Tr.nil) (node : ∀ b e last l r, motive (Tr.node b e last l r)) (T : Tr) : motive T :=
 Tr.ind nil (fun b e last l r _ _ => node b e last l r) T
def foldN {α : Type} (z : α) (f : Nat -> Ent -> Int -> Tr -> Tr -> α -> α -> α) : Nod -> α
 | ⟨b, e, last, l, r⟩ => f b e last l r (match l with | none => z | some x => foldN z f x) (match r with | none => z | some x => foldN z f x)
def Tr.fold {α : Type} (z : α) (f : Nat -> Ent -> Int -> Tr -> Tr -> α -> α -> α) (T : Tr) : α := match T with | none => z | some x => foldN z f x
theorem fold_node {α : Type} (z : α) (f : Nat -> Ent -> Int -> Tr -> Tr -> α -> α -> α) (b : Nat) (e : Ent) (last : Int) (l r : Tr) : Tr.fold z f (Tr.node b e last l r) = f b e last l r (Tr.fold z f l) (Tr.fold z f r) := by
 cases l <;> cases r <;> rfl
def Tr.items (T : Tr) : List (Nat × Ent) := T.fold [] (fun b e _ _ _ x y => x ++ (b, e) :: y)
theorem items_nil : Tr.items .nil = [] := rfl
theorem items_node (b : Nat) (e : Ent) (last : Int) (l r : Tr) : (Tr.node b e last l r).items = l.items ++ (b, e) :: r.items := fold_node _ _ b e last l r
def Tr.upd (a : Int) (T : Tr) : Int := match T with | none => a | some n => max a n.last
def Tr.Fine (T : Tr) : Prop := T.fold True (fun b e last l r x y => e.lo < e.hi /\ (∀ x, x ∈ (Tr.node b e last l r).items -> x.2.hi <= last) /\ (∀ x, x ∈ r.items -> e.lo <= x.2.lo) /\ x /\ y)
theorem fine_node (b : Nat) (e : Ent) (last : Int) (l r : Tr) : (Tr.node b e last l r).Fine = (e.lo < e.hi /\ (∀ x, x ∈ (Tr.node b e last l r).items -> x.2.hi <= last) /\ (∀ x, x ∈ r.items -> e.lo <= x.2.lo) /\ l.Fine /\ r.Fine) := fold_node _ _ b e last l r
def linkF : Nat -> List (Nat × Ent) -> Tr
 | 0, _ => .nil
 | n + 1, X =>
  match X[X.length / 2]? with
  | none => .nil
  | some p => .node p.1 p.2 (Tr.upd (Tr.upd p.2.hi (linkF n (X.take (X.length / 2)))) (linkF n (X.drop (X.length / 2 + 1)))) (linkF n (X.take (X.length / 2))) (linkF n (X.drop (X.length / 2 + 1)))
def linkT (X : List (Nat × Ent)) : Tr := linkF X.length X
theorem linkT_nil : linkT [] = .nil := rfl
theorem linkF_enough : ∀ (n m : Nat) (X : List (Nat × Ent)), X.length <= n -> X.length <= m -> linkF n X = linkF m X
 | 0, m, X, h, _ => by
  obtain rfl : X = [] := List.length_eq_zero_iff.1 (by omega)
  cases m <;> rfl
 | n + 1, 0, X, _, h => by
  obtain rfl : X = [] := List.length_eq_zero_iff.1 (by omega)
  rfl
 | n + 1, m + 1, X, h1, h2 => by
  by_cases h : X.length / 2 < X.length
  ·have e1 := linkF_enough n m (X.take (X.length / 2)) (by simp; omega) (by simp; omega)
   have e2 := linkF_enough n m (X.drop (X.length / 2 + 1)) (by simp; omega) (by simp; omega)
   unfold linkF
   rw [e1, e2]
  ·obtain rfl : X = [] := List.length_eq_zero_iff.1 (by omega)
   rfl
theorem linkT_cons (X : List (Nat × Ent)) (h : X.length / 2 < X.length) :
  linkT X = .node X[X.length / 2].1 X[X.length / 2].2 (Tr.upd (Tr.upd X[X.length / 2].2.hi (linkT (X.take (X.length / 2)))) (linkT (X.drop (X.length / 2 + 1)))) (linkT (X.take (X.length / 2))) (linkT (X.drop (X.length / 2 + 1))) := by
 obtain ⟨n, hn⟩ : ∃ n, X.length = n + 1 := ⟨X.length - 1, by omega⟩
 have e1 : linkF n (X.take (X.length / 2)) = linkT (X.take (X.length / 2)) := linkF_enough _ _ _ (by simp; omega) (by simp)
 have e2 : linkF n (X.drop (X.length / 2 + 1)) = linkT (X.drop (X.length / 2 + 1)) := linkF_enough _ _ _ (by simp; omega) (by simp)
 have e0 : linkT X = linkF (n + 1) X := by unfold linkT; rw [hn]
 rw [e0]
 unfold linkF
 rw [List.getElem?_eq_getElem h]
 dsimp only
 rw [e1, e2]
theorem link_items (n : Nat) : ∀ X : List (Nat × Ent), X.length = n -> (linkT X).items = X := by
 induction n using Nat.strongRecOn with
 | ind n ih =>
  intro X hX
  by_cases h : X.length / 2 < X.length
  ·rw [linkT_cons X h, items_node, ih (X.take (X.length / 2)).length (by simp; omega) _ rfl, ih (X.drop (X.length / 2 + 1)).length (by simp; omega) _ rfl]
   rw [show ((X[X.length / 2].1, X[X.length / 2].2) : Nat × Ent) = X[X.length / 2] from rfl, List.getElem_cons_drop h, List.take_append_drop]
  ·have : X = [] := List.length_eq_zero_iff.1 (by omega)
   subst this
   rw [linkT_nil]; rfl
theorem items_link (X : List (Nat × Ent)) : (linkT X).items = X := link_items _ X rfl
def Ahead (a b : Ent) : Prop := a.lo < b.lo \/ (a.lo = b.lo /\ a.id < b.id)
def Ordered (X : List (Nat × Ent)) : Prop := X.Pairwise (fun a b => Ahead a.2 b.2)
theorem Ahead.trans {a b c : Ent} (h : Ahead a b) (h' : Ahead b c) : Ahead a c := by
 unfold Ahead at *; omega
theorem Ahead.irr {a : Ent} (h : Ahead a a) : False := by
 unfold Ahead at h; omega
theorem upd_ge (a : Int) (T : Tr) : a <= T.upd a := by
 induction T using Tr.ind with
 | nil => exact Int.le_refl _
 | node b e last l r _ _ => show a <= max a last; omega
theorem upd_all (a : Int) (T : Tr) (h : T.Fine) (x : Nat × Ent) (hx : x ∈ T.items) : x.2.hi <= T.upd a := by
 induction T using Tr.ind with
 | nil => cases hx
 | node b e last l r _ _ =>
  rw [fine_node] at h
  have := h.2.1 x hx
  show x.2.hi <= max a last
  omega
theorem link_fine (n : Nat) : ∀ X : List (Nat × Ent), X.length = n -> Ordered X -> (∀ x, x ∈ X -> x.2.lo < x.2.hi) -> (linkT X).Fine := by
 induction n using Nat.strongRecOn with
 | ind n ih =>
  intro X hX hO hR
  by_cases h : X.length / 2 < X.length
  ·have f1 := ih (X.take (X.length / 2)).length (by simp; omega) _ rfl (List.Pairwise.sublist (List.take_sublist _ _) hO) (fun x hx => hR x (List.mem_of_mem_take hx))
   have f2 := ih (X.drop (X.length / 2 + 1)).length (by simp; omega) _ rfl (List.Pairwise.sublist (List.drop_sublist _ _) hO) (fun x hx => hR x (List.mem_of_mem_drop hx))
   rw [linkT_cons X h, fine_node]
   refine ⟨hR _ (List.getElem_mem h), ?_, ?_, f1, f2⟩
   ·intro x hx
    rw [items_node] at hx
    rcases List.mem_append.1 hx with hx | hx
    ·exact Int.le_trans (upd_all _ _ f1 x hx) (upd_ge _ _)
    ·rcases List.mem_cons.1 hx with rfl | hx
     ·exact Int.le_trans (upd_ge _ _) (upd_ge _ _)
     ·exact upd_all _ _ f2 x hx
   ·intro x hx
    rw [items_link] at hx
    have : (X.drop (X.length / 2)).Pairwise (fun a b => Ahead a.2 b.2) := List.Pairwise.sublist (List.drop_sublist _ _) hO
    rw [<- List.getElem_cons_drop h] at this
    have a := List.rel_of_pairwise_cons this hx
    unfold Ahead at a
    omega
  ·have : X = [] := List.length_eq_zero_iff.1 (by omega)
   subst this
   rw [linkT_nil]; trivial
theorem fine_link (X : List (Nat × Ent)) (hO : Ordered X) (hR : ∀ x, x ∈ X -> x.2.lo < x.2.hi) : (linkT X).Fine := link_fine _ X rfl hO hR
def meetX (lo hi : Int) (x : Nat × Ent) : Bool := meetB lo hi x.2
def metX (lo hi : Int) (X : List (Nat × Ent)) : List Int := (X.filter (meetX lo hi)).map (fun x => x.2.id)
theorem metX_app (lo hi : Int) (X Y : List (Nat × Ent)) : metX lo hi (X ++ Y) = metX lo hi X ++ metX lo hi Y := by simp [metX]
theorem metX_none (lo hi : Int) (X : List (Nat × Ent)) (h : ∀ x, x ∈ X -> meetX lo hi x = false) : metX lo hi X = [] := by
 unfold metX
 rw [List.filter_eq_nil_iff.2 (fun x hx => by rw [h x hx]; decide)]
 rfl
theorem met_pruned (lo hi : Int) (b : Nat) (e : Ent) (last : Int) (l r : Tr) (h : (Tr.node b e last l r).Fine) (hl : last <= lo) : metX lo hi (Tr.node b e last l r).items = [] := by
 refine metX_none _ _ _ fun x hx => ?_
 rw [fine_node] at h
 have := h.2.1 x hx
 unfold meetX meetB
 simp only [decide_eq_false_iff_not]
 omega
theorem met_left (lo hi : Int) (b : Nat) (e : Ent) (last : Int) (l r : Tr) (h : (Tr.node b e last l r).Fine) (hl : hi <= e.lo) : metX lo hi (Tr.node b e last l r).items = metX lo hi l.items := by
 rw [fine_node] at h
 rw [items_node, metX_app, metX_none lo hi ((b, e) :: r.items), List.append_nil]
 intro x hx
 unfold meetX meetB
 simp only [decide_eq_false_iff_not]
 rcases List.mem_cons.1 hx with rfl | hx
 ·show ¬ max lo e.lo < min hi e.hi
  omega
 ·have := h.2.2.1 x hx
  omega
theorem met_in (lo hi : Int) (b : Nat) (e : Ent) (last : Int) (l r : Tr) (h : (Tr.node b e last l r).Fine) (hlh : lo < hi) (h1 : e.lo < hi) (h2 : lo < e.hi) : metX lo hi (Tr.node b e last l r).items = metX lo hi l.items ++ [e.id] ++ metX lo hi r.items := by
 rw [fine_node] at h
 have : meetX lo hi (b, e) = true := by
  have := h.1
  unfold meetX meetB
  simp only [decide_eq_true_eq]
  show max lo e.lo < min hi e.hi
  omega
 rw [items_node, metX_app, List.append_assoc]
 congr 1
 simp [metX, this]
theorem met_out (lo hi : Int) (b : Nat) (e : Ent) (last : Int) (l r : Tr) (h2 : e.hi <= lo) : metX lo hi (Tr.node b e last l r).items = metX lo hi l.items ++ metX lo hi r.items := by
 have : meetX lo hi (b, e) = false := by
  unfold meetX meetB
  simp only [decide_eq_false_iff_not]
  show ¬ max lo e.lo < min hi e.hi
  omega
 rw [items_node, metX_app]
 congr 1
 simp [metX, this]
def posX (X : List (Nat × Ent)) (e : Ent) : Nat := X.countP (fun x => decide (x.2.lo < e.lo \/ (x.2.lo = e.lo /\ x.2.id < e.id)))
theorem posX_le (X : List (Nat × Ent)) (e : Ent) : posX X e <= X.length := List.countP_le_length
theorem posX_split : ∀ (X : List (Nat × Ent)) (e : Ent), Ordered X -> (∀ x, x ∈ X.take (posX X e) -> Ahead x.2 e) /\ (∀ x, x ∈ X.drop (posX X e) -> ¬ Ahead x.2 e)
 | [], e, _ => by simp [posX]
 | a :: X, e, h => by
  have h1 : ∀ b, b ∈ X -> Ahead a.2 b.2 := fun b hb => List.rel_of_pairwise_cons h hb
  have h2 : Ordered X := List.Pairwise.of_cons h
  obtain ⟨i1, i2⟩ := posX_split X e h2
  by_cases ha : Ahead a.2 e
  ·have q : posX (a :: X) e = posX X e + 1 := by
    unfold posX
    rw [List.countP_cons_of_pos]
    exact decide_eq_true (show a.2.lo < e.lo \/ (a.2.lo = e.lo /\ a.2.id < e.id) from ha)
   rw [q]
   constructor
   ·intro x hx
    simp only [List.take_succ_cons, List.mem_cons] at hx
    rcases hx with rfl | hx
    ·exact ha
    ·exact i1 x hx
   ·intro x hx
    exact i2 x (by simpa using hx)
  ·have q : posX (a :: X) e = 0 := by
    unfold posX
    rw [List.countP_eq_zero]
    intro x hx hc
    have hc' : Ahead x.2 e := (of_decide_eq_true hc : x.2.lo < e.lo \/ (x.2.lo = e.lo /\ x.2.id < e.id))
    rcases List.mem_cons.1 hx with rfl | hx
    ·exact ha hc'
    ·exact ha ((h1 x hx).trans hc')
   rw [q]
   refine ⟨by simp, fun x hx => ?_⟩
   simp only [List.drop_zero] at hx
   rcases List.mem_cons.1 hx with rfl | hx
   ·exact ha
   ·exact fun hc => ha ((h1 x hx).trans hc)
def addX (X : List (Nat × Ent)) (b : Nat) (e : Ent) : List (Nat × Ent) := X.take (posX X e) ++ (b, e) :: X.drop (posX X e)
def dropX (X : List (Nat × Ent)) (e : Ent) : List (Nat × Ent) := X.take (posX X e) ++ X.drop (posX X e + 1)
theorem addX_perm (X : List (Nat × Ent)) (b : Nat) (e : Ent) : (addX X b e).Perm ((b, e) :: X) := by
 unfold addX
 refine List.perm_middle.trans ?_
 rw [List.take_append_drop]
theorem ordered_add (X : List (Nat × Ent)) (b : Nat) (e : Ent) (h : Ordered X) (hne : ∀ x, x ∈ X -> x.2.id ≠ e.id) : Ordered (addX X b e) := by
 obtain ⟨h1, h2⟩ := posX_split X e h
 have h3 : ∀ x, x ∈ X.drop (posX X e) -> Ahead e x.2 := fun x hx => by
  have a := h2 x hx
  have b := hne x (List.mem_of_mem_drop hx)
  unfold Ahead at *
  omega
 unfold addX Ordered
 rw [List.pairwise_append]
 refine ⟨List.Pairwise.sublist (List.take_sublist _ _) h, ?_, ?_⟩
 ·exact List.Pairwise.cons (fun x hx => h3 x hx) (List.Pairwise.sublist (List.drop_sublist _ _) h)
 ·intro a ha b hb
  have a1 := h1 a ha
  rcases List.mem_cons.1 hb with rfl | hb
  ·exact a1
  ·exact a1.trans (h3 b hb)
theorem posX_at (X : List (Nat × Ent)) (p : Nat × Ent) (h : Ordered X) (hp : p ∈ X) : ∃ hk : posX X p.2 < X.length, X[posX X p.2] = p := by
 obtain ⟨h1, h2⟩ := posX_split X p.2 h
 have hd : p ∈ X.drop (posX X p.2) := by
  have := hp
  rw [<- List.take_append_drop (posX X p.2) X] at this
  rcases List.mem_append.1 this with k | k
  ·exact absurd (h1 p k) (fun h => h.irr)
  ·exact k
 have hk : posX X p.2 < X.length := by
  rcases Nat.lt_or_ge (posX X p.2) X.length with k | k
  ·exact k
  ·rw [List.drop_eq_nil_of_le k] at hd; cases hd
 refine ⟨hk, ?_⟩
 have hO : (X.drop (posX X p.2)).Pairwise (fun a b => Ahead a.2 b.2) := List.Pairwise.sublist (List.drop_sublist _ _) h
 rw [<- List.getElem_cons_drop hk] at hd hO h2
 rcases List.mem_cons.1 hd with e | hd
 ·exact e.symm
 ·exact absurd (List.rel_of_pairwise_cons hO hd) (h2 _ List.mem_cons_self)
theorem dropX_perm (X : List (Nat × Ent)) (p : Nat × Ent) (h : Ordered X) (hp : p ∈ X) : X.Perm (p :: dropX X p.2) := by
 obtain ⟨hk, e⟩ := posX_at X p h hp
 unfold dropX
 refine List.Perm.trans ?_ List.perm_middle
 rw [show p :: X.drop (posX X p.2 + 1) = X.drop (posX X p.2) by rw [<- List.getElem_cons_drop hk, e], List.take_append_drop]
theorem ordered_drop (X : List (Nat × Ent)) (e : Ent) (h : Ordered X) : Ordered (dropX X e) := by
 unfold dropX Ordered
 refine List.Pairwise.sublist ?_ h
 have : X.take (posX X e) ++ X.drop (posX X e) = X := List.take_append_drop _ _
 conv => rhs; rw [<- this]
 refine List.Sublist.append_left ?_ _
 rw [<- List.drop_drop]
 exact List.drop_sublist _ _
def Both (L : List Ent) (X : List (Nat × Ent)) : Prop := L.Perm (X.map (·.2))
theorem addT_perm (L : List Ent) (e : Ent) : (addT L e).Perm (e :: L) := by
 unfold addT
 refine List.perm_middle.trans ?_
 rw [List.take_append_drop]
theorem dropT_perm (L : List Ent) (id : Int) (h : foundT L id = true) : L.Perm ((L[posT L id]'(found_at L id h).1) :: dropT L id) := by
 have hk := (found_at L id h).1
 unfold dropT
 refine List.Perm.trans ?_ List.perm_middle
 rw [List.getElem_cons_drop hk, List.take_append_drop]
theorem both_add {L : List Ent} {X : List (Nat × Ent)} (h : Both L X) (b : Nat) (e : Ent) : Both (addT L e) (addX X b e) := by
 unfold Both at *
 refine (addT_perm L e).trans (List.Perm.trans ?_ ((addX_perm X b e).map (·.2)).symm)
 rw [List.map_cons]
 exact h.cons e
theorem rising_one {L : List Ent} (h : Rising L) {a b : Ent} (ha : a ∈ L) (hb : b ∈ L) (he : a.id = b.id) : a = b := by
 obtain ⟨i, hi, rfl⟩ := List.getElem_of_mem ha
 obtain ⟨j, hj, rfl⟩ := List.getElem_of_mem hb
 have := List.pairwise_iff_getElem.1 h
 rcases Nat.lt_trichotomy i j with k | k | k
 ·have := this i j hi hj k; omega
 ·subst k; rfl
 ·have := this j i hj hi k; omega
theorem both_drop {L : List Ent} {X : List (Nat × Ent)} (h : Both L X) (hr : Rising L) (hO : Ordered X) (p : Nat × Ent) (hp : p ∈ X) : foundT L p.2.id = true /\ Both (dropT L p.2.id) (dropX X p.2) := by
 have hm : p.2 ∈ L := h.mem_iff.2 (List.mem_map.2 ⟨p, hp, rfl⟩)
 have hf : foundT L p.2.id = true := (found_iff L p.2.id hr).2 ⟨p.2, hm, rfl⟩
 refine ⟨hf, ?_⟩
 have e : L[posT L p.2.id]'(found_at L p.2.id hf).1 = p.2 := rising_one hr (List.getElem_mem _) hm (found_at L p.2.id hf).2
 have h1 := dropT_perm L p.2.id hf
 rw [e] at h1
 have h2 := (dropX_perm X p hO hp).map (·.2)
 rw [List.map_cons] at h2
 exact List.Perm.cons_inv ((h1.symm.trans h).trans h2)
theorem both_met {L : List Ent} {X : List (Nat × Ent)} (h : Both L X) (lo hi : Int) : ((L.filter (meetB lo hi)).map (·.id)).Perm (metX lo hi X) := by
 have := (h.filter (meetB lo hi)).map (·.id)
 refine this.trans ?_
 unfold metX
 rw [List.filter_map, List.map_map]
 exact List.Perm.refl _
theorem met_rises (L : List Ent) (hr : Rising L) (p : Ent -> Bool) : ((L.filter p).map (·.id)).Pairwise (· < ·) := by
 rw [List.pairwise_map]
 exact List.Pairwise.sublist List.filter_sublist hr
theorem sorted_one : ∀ (l m : List Int), l.Perm m -> l.Pairwise (· <= ·) -> m.Pairwise (· <= ·) -> l = m
 | [], m, h, _, _ => by simpa using h.symm
 | a :: l, [], h, _, _ => by simp at h
 | a :: l, c :: m, h, h1, h2 => by
  have e : a = c := by
   have ha : a ∈ c :: m := h.mem_iff.1 (by simp)
   have hc : c ∈ a :: l := h.mem_iff.2 (by simp)
   rcases List.mem_cons.1 ha with k | k
   ·exact k
   ·rcases List.mem_cons.1 hc with k' | k'
    ·exact k'.symm
    ·have := List.rel_of_pairwise_cons h1 k'
     have := List.rel_of_pairwise_cons h2 k
     omega
  subst e
  rw [sorted_one l m (List.Perm.cons_inv h) (List.Pairwise.of_cons h1) (List.Pairwise.of_cons h2)]
end Go.Proofs.YtbmkmfoaoganeaaGreatDoor

namespace Go.Proofs.YtbmkmfoaoganeaaGreatDoor
open Go.RowKit
structure Keeps (F : Nat -> Prop) (w w' : World) : Prop where
 os : w'.os = w.os
 tape : w'.tape = w.tape
 output : w'.output = w.output
 size : w.heap.size <= w'.heap.size
 block : ∀ k, k < w.heap.size -> ¬ F k -> w'.heap[k]? = w.heap[k]?
theorem Keeps.refl (F : Nat -> Prop) (w : World) : Keeps F w w := ⟨rfl, rfl, rfl, Nat.le_refl _, fun _ _ _ => rfl⟩
theorem Keeps.trans {F : Nat -> Prop} {a b c : World} (h : Keeps F a b) (k : Keeps F b c) : Keeps F a c :=
 ⟨k.os.trans h.os, k.tape.trans h.tape, k.output.trans h.output, Nat.le_trans h.size k.size, fun i hi hf => (k.block i (Nat.lt_of_lt_of_le hi h.size) hf).trans (h.block i hi hf)⟩
theorem Keeps.then {F G : Nat -> Prop} {a b c : World} (h : Keeps F a b) (k : Keeps G b c) (hG : ∀ i, i < a.heap.size -> G i -> F i) : Keeps F a c :=
 ⟨k.os.trans h.os, k.tape.trans h.tape, k.output.trans h.output, Nat.le_trans h.size k.size, fun i hi hf => (k.block i (Nat.lt_of_lt_of_le hi h.size) (fun g => hf (hG i hi g))).trans (h.block i hi hf)⟩
theorem Keeps.mono {F G : Nat -> Prop} {a b : World} (h : Keeps F a b) (hG : ∀ i, i < a.heap.size -> F i -> G i) : Keeps G a b :=
 ⟨h.os, h.tape, h.output, h.size, fun i hi hf => h.block i hi (fun g => hf (hG i hi g))⟩
theorem Keeps.of_below {n : Nat} {a b : World} (F : Nat -> Prop) (h : Below n a b) (hn : a.heap.size <= n) : Keeps F a b :=
 ⟨h.os, h.tape, h.output, h.size, fun i hi _ => h.block i (by omega)⟩
theorem Keeps.of_grown {a b : World} {row : Option Nat} {F : Nat -> Prop} (h : a.grownBy b row) (hr : ∀ k, row = some k -> F k \/ a.heap.size <= k) : Keeps F a b :=
 ⟨h.os, h.tape, h.output, h.size, fun i hi hf => h.block i hi (fun e => by
  rcases hr i e.symm with k | k
  ·exact hf k
  ·omega)⟩
theorem Keeps.cell {F : Nat -> Prop} {a b : World} (h : Keeps F a b) {p : Addr} (hp : p.block < a.heap.size) (hf : ¬ F p.block) : b.cell? p = a.cell? p := World.cell?_of_block (w := a) (h.block p.block hp hf)
theorem Keeps.frozen {F : Nat -> Prop} {a b : World} (h : Keeps F a b) {p : Addr} (hp : p.block < a.heap.size) (hf : ¬ F p.block) : b.frozen? p = a.frozen? p := World.frozen?_of_block (w := a) (h.block p.block hp hf)
theorem keeps_set (w : World) (B f : Nat) (v : Value) : Keeps (· = B) w (w.setCell ⟨B, f, none⟩ v) := by
 have h := World.keptBut_setCell w ⟨B, f, none⟩ v (may := fun p => p.block = B) rfl
 refine ⟨rfl, rfl, rfl, ?_, fun k hk hr => ?_⟩
 ·simp
 ·exact h.block hk (fun p hp e => hr (by rw [<- e, hp]))
theorem keeps_drew (F : Nat -> Prop) (w : World) : Keeps F w w.drew := ⟨rfl, rfl, rfl, Nat.le_refl _, fun _ _ _ => rfl⟩
structure NodeW (w : World) (b : Nat) (e : Ent) (last : Int) (p q : Value) : Prop where
 c0 : w.cell? ⟨b, 0, none⟩ = some (.int .i64 e.id)
 c1 : w.cell? ⟨b, 1, none⟩ = some (.int .i64 e.lo)
 c2 : w.cell? ⟨b, 2, none⟩ = some (.int .i64 e.hi)
 c3 : w.cell? ⟨b, 3, none⟩ = some (.int .i64 last)
 c4 : w.cell? ⟨b, 4, none⟩ = some p
 c5 : w.cell? ⟨b, 5, none⟩ = some q
 f : ∀ i, w.frozen? ⟨b, i, none⟩ = false
def NodeAt (w : World) (b : Nat) (e : Ent) : Prop := ∃ last p q, NodeW w b e last p q
theorem NodeW.lt {w : World} {b : Nat} {e : Ent} {last : Int} {p q : Value} (h : NodeW w b e last p q) : b < w.heap.size := lt_of_cell h.c0
theorem NodeW.of_block {w w' : World} {b : Nat} {e : Ent} {last : Int} {p q : Value} (h : NodeW w b e last p q) (hb : w'.heap[b]? = w.heap[b]?) : NodeW w' b e last p q := by
 have t : ∀ i, w'.cell? ⟨b, i, none⟩ = w.cell? ⟨b, i, none⟩ := fun i => World.cell?_of_block (w := w) hb
 exact ⟨(t 0).trans h.c0, (t 1).trans h.c1, (t 2).trans h.c2, (t 3).trans h.c3, (t 4).trans h.c4, (t 5).trans h.c5, fun i => (World.frozen?_of_block (w := w) hb).trans (h.f i)⟩
theorem NodeW.keeps {F : Nat -> Prop} {w w' : World} {b : Nat} {e : Ent} {last : Int} {p q : Value} (h : NodeW w b e last p q) (hk : Keeps F w w') (hf : ¬ F b) : NodeW w' b e last p q :=
 h.of_block (hk.block b h.lt hf)
theorem NodeAt.lt {w : World} {b : Nat} {e : Ent} (h : NodeAt w b e) : b < w.heap.size := by
 obtain ⟨_, _, _, h⟩ := h
 exact h.lt
theorem NodeAt.keeps {F : Nat -> Prop} {w w' : World} {b : Nat} {e : Ent} (h : NodeAt w b e) (hk : Keeps F w w') (hf : ¬ F b) : NodeAt w' b e := by
 obtain ⟨l, p, q, h⟩ := h
 exact ⟨l, p, q, h.keeps hk hf⟩
def Tr.ptr (T : Tr) : Value := .pointer (T.map fun n => ⟨n.b, 0, none⟩)
theorem ptr_nil : Tr.ptr .nil = .pointer none := rfl
theorem ptr_node (b : Nat) (e : Ent) (last : Int) (l r : Tr) : (Tr.node b e last l r).ptr = .pointer (some ⟨b, 0, none⟩) := rfl
def Tr.Lies (w : World) (T : Tr) : Prop := T.fold True (fun b e last l r x y => NodeW w b e last l.ptr r.ptr /\ x /\ y)
theorem lies_node (w : World) (b : Nat) (e : Ent) (last : Int) (l r : Tr) : (Tr.node b e last l r).Lies w = (NodeW w b e last l.ptr r.ptr /\ l.Lies w /\ r.Lies w) := fold_node _ _ b e last l r
theorem Tr.Lies.keeps {F : Nat -> Prop} {w w' : World} (hk : Keeps F w w') : ∀ {T : Tr}, T.Lies w -> (∀ x, x ∈ T.items -> ¬ F x.1) -> T.Lies w' := by
 intro T
 induction T using Tr.ind with
 | nil => exact fun _ _ => trivial
 | node b e last l r ihl ihr =>
  intro h hf
  rw [lies_node] at h ⊢
  obtain ⟨h1, h2, h3⟩ := h
  rw [items_node] at hf
  exact ⟨h1.keeps hk (hf (b, e) (by simp)), ihl h2 (fun x hx => hf x (by simp [hx])), ihr h3 (fun x hx => hf x (by simp [hx]))⟩
theorem Tr.Lies.at {w : World} : ∀ {T : Tr}, T.Lies w -> ∀ x, x ∈ T.items -> NodeAt w x.1 x.2 := by
 intro T
 induction T using Tr.ind with
 | nil =>
  intro _ x hx
  cases hx
 | node b e last l r ihl ihr =>
  intro h x hx
  rw [lies_node] at h
  obtain ⟨h1, h2, h3⟩ := h
  rw [items_node] at hx
  rcases List.mem_append.1 hx with hx | hx
  ·exact ihl h2 x hx
  ·rcases List.mem_cons.1 hx with rfl | hx
   ·exact ⟨_, _, _, h1⟩
   ·exact ihr h3 x hx
end Go.Proofs.YtbmkmfoaoganeaaGreatDoor

namespace Go.Proofs.YtbmkmfoaoganeaaGreatDoor
open Go.RowKit Go.Maps
def ptrElem : Value -> Option (DataW Unit × List MemPlace)
 | .pointer none => some (.lit (.int .i64 0), [])
 | .pointer (some ⟨b, 0, none⟩) => some (.lit (.int .i64 ((b : Int) + 1)), [])
 | _ => none
theorem ptrElem_nil {v : Value} {ps : List MemPlace} (h : ptrElem v = some (.lit (.int .i64 0), ps)) : v = .pointer none := by
 unfold ptrElem at h
 split at h
 ·rfl
 ·exfalso
  simp only [Option.some.injEq, Prod.mk.injEq, DataW.lit.injEq, Lit.int.injEq] at h
  omega
 ·cases h
theorem ptrElem_at {v : Value} {b : Nat} {ps : List MemPlace} (h : ptrElem v = some (.lit (.int .i64 ((b : Int) + 1)), ps)) : v = .pointer (some ⟨b, 0, none⟩) := by
 unfold ptrElem at h
 split at h
 ·exfalso
  simp only [Option.some.injEq, Prod.mk.injEq, DataW.lit.injEq, Lit.int.injEq] at h
  omega
 ·rename_i c
  simp only [Option.some.injEq, Prod.mk.injEq, DataW.lit.injEq, Lit.int.injEq] at h
  have : c = b := by omega
  rw [this]
 ·cases h
def zd : DataW Unit := .lit (.int .i64 0)
structure Keys (D : DataW Unit) (X : List (Nat × Ent)) : Prop where
 there : ∀ x, x ∈ X -> D.atKey (.int .i64 x.2.id) zd = .lit (.int .i64 ((x.1 : Int) + 1))
 has : ∀ x, x ∈ X -> Maps.has D (.int .i64 x.2.id) = true
 hasn : ∀ id, (∀ x, x ∈ X -> x.2.id ≠ id) -> Maps.has D (.int .i64 id) = false
 size : Maps.size D = X.length
theorem keys_none : Keys (.map []) [] := ⟨by simp, by simp, fun _ _ => rfl, rfl⟩
theorem Keys.none {D : DataW Unit} {X : List (Nat × Ent)} (h : Keys D X) (id : Int) (hn : ∀ x, x ∈ X -> x.2.id ≠ id) : D.atKey (.int .i64 id) zd = zd :=
 Maps.atKey_of_not_has (h.hasn id hn) _
theorem lit_ne {a b : Int} (h : a ≠ b) : Lit.int .i64 a ≠ .int .i64 b := by
 intro e
 cases e
 exact h rfl
theorem Keys.add {D : DataW Unit} {X : List (Nat × Ent)} (h : Keys D X) (ht : Tidy D) (b : Nat) (e : Ent) (hn : ∀ x, x ∈ X -> x.2.id ≠ e.id) :
  Keys (D.put (.int .i64 e.id) (.lit (.int .i64 ((b : Int) + 1)))) (addX X b e) := by
 have hm : ∀ x, x ∈ addX X b e ↔ x = (b, e) \/ x ∈ X := fun x => by rw [(addX_perm X b e).mem_iff, List.mem_cons]
 refine ⟨fun x hx => ?_, fun x hx => ?_, fun id hid => ?_, ?_⟩
 ·rcases (hm x).1 hx with rfl | hx
  ·exact Maps.atKey_put_same (k := .int .i64 e.id) ht.isMap trivial _ _
  ·rw [Maps.atKey_put_other (lit_ne (hn x hx))]
   exact h.there x hx
 ·rcases (hm x).1 hx with rfl | hx
  ·exact Maps.has_put_same (k := .int .i64 e.id) ht.isMap trivial _
  ·rw [Maps.has_put_other (lit_ne (hn x hx))]
   exact h.has x hx
 ·have h1 : e.id ≠ id := hid (b, e) ((hm _).2 (.inl rfl))
  rw [Maps.has_put_other (lit_ne (fun q => h1 q.symm))]
  exact h.hasn id (fun x hx => hid x ((hm x).2 (.inr hx)))
 ·rw [Maps.size_put ht, h.hasn e.id hn, (addX_perm X b e).length_eq, List.length_cons, <- h.size]
  rfl
theorem Keys.drop {D : DataW Unit} {X : List (Nat × Ent)} (h : Keys D X) (ht : Tidy D) (hO : Ordered X) (hN : (X.map (fun x => x.2.id)).Nodup) (p : Nat × Ent) (hp : p ∈ X) :
  Keys (D.del (.int .i64 p.2.id)) (dropX X p.2) := by
 have hP := dropX_perm X p hO hp
 have hm : ∀ x, x ∈ X ↔ x = p \/ x ∈ dropX X p.2 := fun x => by rw [hP.mem_iff, List.mem_cons]
 have hne : ∀ x, x ∈ dropX X p.2 -> x.2.id ≠ p.2.id := fun x hx q => by
  have h1 := (hP.map (fun x => x.2.id)).nodup_iff.1 hN
  rw [List.map_cons, List.nodup_cons] at h1
  exact h1.1 (List.mem_map.2 ⟨x, hx, q⟩)
 refine ⟨fun x hx => ?_, fun x hx => ?_, fun id hid => ?_, ?_⟩
 ·rw [Maps.atKey_del_other (lit_ne (hne x hx))]
  exact h.there x ((hm x).2 (.inr hx))
 ·rw [Maps.has_del_other (lit_ne (hne x hx))]
  exact h.has x ((hm x).2 (.inr hx))
 ·by_cases q : id = p.2.id
  ·subst q
   exact Maps.has_del_same
  ·rw [Maps.has_del_other (lit_ne q)]
   refine h.hasn id (fun x hx => ?_)
   rcases (hm x).1 hx with rfl | hx
   ·exact fun e => q e.symm
   ·exact hid x hx
 ·have h1 := Maps.size_del (k := .int .i64 p.2.id) ht
  rw [h.has p hp, h.size, hP.length_eq, List.length_cons] at h1
  simpa using h1
theorem ownsMap_size {P : Program} {k : TypeId} {w : World} {b n : Nat} {D : DataW Unit} {R : Value -> Option (DataW Unit × List MemPlace)} (h : w.ownsMap P k R b n D) : w.ownsMap P k R b (Maps.size D) D := by
 obtain ⟨es, clock, hb, F, _, hD⟩ := h
 exact ⟨es, clock, hb, F, by rw [hD]; simp [Maps.size, length_sorted], hD⟩
theorem ownsMap_keeps {P : Program} {k : TypeId} {w w' : World} {b n : Nat} {D : DataW Unit} {R : Value -> Option (DataW Unit × List MemPlace)} {F : Nat -> Prop} (h : w.ownsMap P k R b n D) (hk : Keeps F w w') (hf : ¬ F b) : w'.ownsMap P k R b n D := by
 have hlt := h.lt
 obtain ⟨es, clock, hb, r⟩ := h
 exact ⟨es, clock, (hk.block b hlt hf).trans hb, r⟩
theorem turned_keeps {w w' : World} {b : Nat} (h : w.mapTurned w' b) : Keeps (· = b) w w' := Keeps.of_grown h.grown (fun _ e => .inl (Option.some.inj e).symm)
end Go.Proofs.YtbmkmfoaoganeaaGreatDoor

namespace Go.Proofs.YtbmkmfoaoganeaaGreatDoor
open Go.RowKit Go.Lib
theorem wp_copy_runN {P : Program} (w : World) {o : Oper} {a : Act} {K : Act -> World -> Prop} {Q : Exit -> Act -> World -> Prop} (d s : Operand) (t t' : TypeId)
  (ho : o.op = .call { callee := .builtin .copy, args := #[d, s], argTypes := #[t, t'] }) (v u : Value) (hd : a.eval d = v) (hs : a.eval s = u) {v' : Value} {w' : World}
  (hr : (Builtin.copy_ #[t, t'] o.type #[v, u]).run P w = .ok v' w') (h : K (a.put o.dst v') w') : o.wp P a w K Q := by
 unfold Oper.wp execOp
 simp only [ho, resolve, invoke, builtin, Sem.run_bind, Sem.run_pure, Result.andThen_ok, List.map_toArray, List.map_cons, List.map_nil, hd, hs, hr]
 exact h
theorem wpList_copy_runN {P : Program} (w : World) {ops : Array Oper} {rest : List Oper} {o : Oper} {a : Act} {Q : Exit -> Act -> World -> Prop} (hgd : o.guard = none) (d s : Operand) (t t' : TypeId)
  (ho : o.op = .call { callee := .builtin .copy, args := #[d, s], argTypes := #[t, t'] }) (v u : Value) (hd : a.eval d = v) (hs : a.eval s = u) {v' : Value} {w' : World}
  (hr : (Builtin.copy_ #[t, t'] o.type #[v, u]).run P w = .ok v' w') (h : wpList P ops Q rest (a.put o.dst v') w') : wpList P ops Q (o :: rest) a w :=
 wpList_plain hgd fun _ hK => wp_copy_runN w d s t t' ho v u hd hs hr (hK _ _ h)
theorem step_copy_runN {P : Program} {ops : Array Oper} {o : Oper} {a : Act} {w : World} {K : Act -> World -> Prop} {Q : Exit -> Act -> World -> Prop} {E : Prop}
  (hg : o.guard = none) (d x : Operand) (dT sT : TypeId) (hop : o.op = Op.call { callee := Callee.builtin Builtin.copy, args := #[d, x], argTypes := #[dT, sT] })
  (v u : Value) (hd : a.eval d = v) (hx : a.eval x = u) {v' : Value} {w' : World} (hr : (Builtin.copy_ #[dT, sT] o.type #[v, u]).run P w = .ok v' w') (hK : K (a.put o.dst v') w') :
  if Region.wanted o (yielded ops a.tmps) = true then Oper.wp P o a w K Q else E := by
 have hw : Region.wanted o (yielded ops a.tmps) = true := by simp [Region.wanted, hg]
 rw [if_pos hw]
 unfold Oper.wp
 simp [execOp, hop, resolve, invoke, builtin, hd, hx, hr, Result.andThen]
 exact hK
theorem isSome_setCellsN (b : Nat) (vs : List Value) (o : Nat) (w : World) (h : ∀ j, j < vs.length -> (w.cell? ⟨b, o + j, none⟩).isSome = true) (k : Nat) (hk : (w.cell? ⟨b, k, none⟩).isSome = true) : ((w.setCells b o vs).cell? ⟨b, k, none⟩).isSome = true := by
 by_cases hin : o <= k /\ k < o + vs.length
 ·have := World.cell?_setCells_in b vs o w h (k - o) (by omega)
  rw [show o + (k - o) = k by omega] at this
  rw [this]; rfl
 ·rw [World.cell?_setCells_out b vs o w ⟨b, k, none⟩ (fun _ _ => by show k < o \/ o + vs.length <= k; omega)]
  exact hk
theorem keeps_setCells (b : Nat) : ∀ (vs : List Value) (o : Nat) (w : World), Keeps (· = b) w (w.setCells b o vs)
 | [], _, w => Keeps.refl _ w
 | v :: r, o, w => (keeps_set w b o v).trans (keeps_setCells b r (o + 1) (w.setCell ⟨b, o, none⟩ v))
theorem info_ptr : (Tryz.prog.info? 201).map (fun i => (i.zero, i.size, i.bytes)) = some (some (.pointer none), 1, 8) := by kernel_rfl
theorem size_ptr (w : World) : (Go.sizeOf 201).run Tryz.prog w = .ok 1 w := by kernel_rfl
theorem zero_ptr (w : World) : (zeroValue 201).run Tryz.prog w = .ok (.pointer none) w := by kernel_rfl
theorem ins_shift (b n c i vb : Nat) (cs : List Value) (p : Value) (w : World) (hi : i < n) (hroom : n + 1 <= c) (hc63 : c <= 9223372036854775807) (hvb : vb ≠ b)
  (hcl : cs.length = n)
  (hcs : ∀ j v, cs[j]? = some v -> w.cell? ⟨b, j, none⟩ = some v) (hsp : ∀ j, j < n + 1 -> (w.cell? ⟨b, j, none⟩).isSome = true) (hfz : ∀ j, j < n + 1 -> w.frozen? ⟨b, j, none⟩ = false)
  (hvs : w.cell? ⟨vb, 0, none⟩ = some p) (h1c : ∀ v ∈ cs, v.oneCell' = true) (h1v : p.oneCell' = true)
  (tA tB : TypeId) (kA kB : Nat) (hsa : w.shape? vb = some (tA, kA)) (hsb : w.shape? b = some (tB, kB)) (hkB : kB ≠ 0) (hfa : w.frozen? ⟨vb, 0, none⟩ = false) (hfe : w.frozen? ⟨vb, kA, none⟩ = false) :
  Calls Tryz.prog 281 #[.slice (some ⟨b, 0, none⟩) n c, .int .i64 i, .slice (some ⟨vb, 0, none⟩) 1 1] w fun e w' =>
   e = .returned (.slice (some ⟨b, 0, none⟩) (n + 1) c) /\ w' = (w.drew.setCells b (i + 1) (cs.drop i)).setCells b i [p] := by
 have hz2 : ¬ ((i : Int) = (n : Int)) := by omega
 have hsz : (Tryz.prog.info? 201).map (·.size) = some 1 := by
  obtain ⟨i0, hi0, h0, h1, h2⟩ := info_parts info_ptr
  rw [hi0]; simp [h1]
 have hov : ∀ lb cb, (callFunc 284 #[.slice (some ⟨vb, 0, none⟩) 1 1, .slice (some ⟨b, i + 1, none⟩) lb cb]).run Tryz.prog w = .ok (.value (.bool false)) w := fun lb cb => by
  rw [run_callFunc_extern Tryz.func284 (by kernel_rfl) (by kernel_rfl) (by kernel_rfl) (e := Extern.SlicesOverlaps.overlaps #[336, 336] #[4]) (by kernel_rfl),
   Lib.run_overlaps_apart w 336 4 201 Tryz.underlying336 1 size_ptr ⟨vb, 0, none⟩ ⟨b, i + 1, none⟩ 1 1 lb cb hvb tA tB kA kB hsa hsb hkB hfa hfe]
  rfl
 have hdl : (cs.drop i).length = n - i := by rw [List.length_drop, hcl]
 have hw1 : IntKind.i64.wrap ((i : Int) + 1) = (i : Int) + 1 := by rw [IntKind.wrap_i64]; omega
 have hb1 : (0 : Int) <= (i : Int) + 1 := by omega
 have hin : i <= n := by omega
 have htn : ((i : Int) + 1).toNat = i + 1 := by omega
 have hb2 : ¬ (c = i + 1) := by omega
 have hb3 : (i : Int) <= (n : Int) + 1 := by omega
 have hb4 : ¬ (c = i) := by omega
 have hcp1 : ∀ ty dc sc, (Builtin.copy_ #[336, 336] ty #[.slice (some ⟨b, i + 1, none⟩) (n - i) dc, .slice (some ⟨b, i, none⟩) (n + 1 - i) sc]).run Tryz.prog w.drew = .ok (goInt (cs.drop i).length) (w.drew.setCells b (i + 1) (cs.drop i)) := fun ty dc sc =>
  run_copy_cells w.drew _ _ ty 201 b (i + 1) (n - i) dc ⟨b, i, none⟩ (n + 1 - i) sc (cs.drop i) Tryz.underlying336 hsz (by rw [hdl]; simp only [Nat.min_def]; split <;> omega)
   (fun j v hj => by rw [Addr.add_lit]; exact hcs (i + j) v (by rwa [List.getElem?_drop] at hj))
   (fun j hj => hsp _ (by omega)) (fun j hj => hfz _ (by omega)) (fun v hv => h1c v (List.mem_of_mem_drop hv))
 obtain ⟨W1, hW1⟩ : ∃ W1, W1 = w.drew.setCells b (i + 1) (cs.drop i) := ⟨_, rfl⟩
 have hsp1 : ∀ k, k < n + 1 -> (W1.cell? ⟨b, k, none⟩).isSome = true := fun k hk => by
  rw [hW1]
  exact isSome_setCellsN b (cs.drop i) (i + 1) w.drew (fun j hj => hsp _ (by rw [hdl] at hj; omega)) _ (hsp k hk)
 have hcp2 : ∀ (W : World), (∀ x, W.cell? x = W1.cell? x) -> (∀ x, W.frozen? x = W1.frozen? x) -> ∀ ty dc, (Builtin.copy_ #[336, 336] ty #[.slice (some ⟨b, i, none⟩) (n + 1 - i) dc, .slice (some ⟨vb, 0, none⟩) 1 1]).run Tryz.prog W = .ok (goInt [p].length) (W.setCells b i [p]) := fun W hWc hWf ty dc =>
  run_copy_cells W _ _ ty 201 b i (n + 1 - i) dc ⟨vb, 0, none⟩ 1 1 [p] Tryz.underlying336 hsz (by simp only [Nat.min_def, List.length_cons, List.length_nil]; split <;> omega)
   (fun j v hj => by
    match j, hj with
    | 0, hj =>
     simp only [gZ, Option.some.injEq] at hj
     subst hj
     rw [Addr.add_lit, hWc, hW1, World.cell?_setCells_out b _ _ _ _ (fun h _ => absurd h hvb)]
     exact hvs
    | j + 1, hj => simp at hj)
   (fun j hj => by rw [hWc]; exact hsp1 _ (by simp at hj; omega)) (fun j hj => by rw [hWf, hW1, World.frozen?_setCells]; exact hfz _ (by simp at hj; omega)) (fun v hv => by simp at hv; subst hv; exact h1v)
 rw [<- hW1] at hcp1
 go_enter Tryz.func281, Tryz.ntmps281
 go_wp2_with (simp only [hov])
 go_region_law (refine step_copy_runN rfl _ _ 336 336 rfl _ _ (by simp [Act.eval, Act.put]) (by simp [Act.eval, Act.put]) (hcp1 _ _ _) ?_)
 go_wp2_with (at_builtin; refine wpList_copy_runN _ rfl _ _ 336 336 rfl _ _ rfl rfl (hcp2 _ (fun _ => rfl) (fun _ => rfl) _ _) ?_)
 go_ret
 first | exact ⟨rfl, rfl⟩ | exact ⟨rfl, by rw [hW1]⟩
theorem ins_end (b n c vb : Nat) (p : Value) (w : World) (hroom : n + 1 <= c) (hc63 : c <= 9223372036854775807)
  (hsp : (w.cell? ⟨b, n, none⟩).isSome = true) (hfz : w.frozen? ⟨b, n, none⟩ = false)
  (hvs : w.cell? ⟨vb, 0, none⟩ = some p) (h1v : p.oneCell' = true) :
  Calls Tryz.prog 281 #[.slice (some ⟨b, 0, none⟩) n c, .int .i64 n, .slice (some ⟨vb, 0, none⟩) 1 1] w fun e w' =>
   e = .returned (.slice (some ⟨b, 0, none⟩) (n + 1) c) /\ w' = w.setCells b n [p] := by
 have hsrc : Src Tryz.prog 1 336 (.slice (some ⟨vb, 0, none⟩) 1 1) 1 [p] w := Src.ofSlice w Tryz.underlying336 ⟨vb, 0, none⟩ 1 1 [p] rfl (fun j u hj => by
  match j, hj with
  | 0, hj =>
   simp only [gZ, Option.some.injEq] at hj
   subst hj
   rw [Addr.add_lit]
   exact hvs
  | j + 1, hj => simp at hj) (fun v hv => by simp at hv; subst hv; exact h1v)
 go_enter Tryz.func281, Tryz.ntmps281
 go_wp2_with (at_builtin; refine wpList_append_room1 _ rfl _ _ 336 336 rfl 201 _ _ Tryz.underlying336 info_ptr b 0 n c rfl _ rfl 1 [p] hsrc hroom ?s1 ?s2 ?_)
 case s1 =>
  intro j hj
  obtain rfl : j = 0 := by simp at hj; omega
  simpa using hsp
 case s2 =>
  intro j hj
  obtain rfl : j = 0 := by simp at hj; omega
  simpa using hfz
 go_ret
 first | exact ⟨rfl, rfl⟩ | exact ⟨rfl, by simp⟩
theorem del_one (b n c i j : Nat) (cs : List Value) (w : World) (hi : i < n) (hj : j = i + 1) (hnc : n <= c) (_hc63 : c <= 9223372036854775807)
  (hcl : cs.length = n)
  (hcs : ∀ j v, cs[j]? = some v -> w.cell? ⟨b, j, none⟩ = some v) (hfz : ∀ j, j < n -> w.frozen? ⟨b, j, none⟩ = false) (h1c : ∀ v ∈ cs, v.oneCell' = true) :
  Calls Tryz.prog 280 #[.slice (some ⟨b, 0, none⟩) n c, .int .i64 i, .int .i64 j] w fun e w' =>
   e = .returned (.slice (some ⟨b, 0, none⟩) (n - 1) c) /\ w' = (w.drew.setCells b i (cs.drop j)).setCells b (n - 1) [.pointer none] := by
 obtain ⟨i0, hi0, hz0, hz1, hz2⟩ := info_parts info_ptr
 have hsp : ∀ t, t < n -> (w.cell? ⟨b, t, none⟩).isSome = true := fun t ht => by
  rw [hcs t cs[t] (List.getElem?_eq_getElem (by omega))]
  rfl
 obtain ⟨news, hnews⟩ : ∃ news, news = cs.drop j := ⟨_, rfl⟩
 have hlen : news.length = n - j := by rw [hnews, List.length_drop, hcl]
 obtain ⟨A, hA, hsrc⟩ : ∃ A : Addr, (if c = j then some (⟨b, 0, none⟩ : Addr) else some ⟨b, j, none⟩) = some A /\ Hid (∀ t u, news[t]? = some u -> w.drew.cell? (A.add t) = some u) := by
  by_cases h : c = j
  ·refine ⟨⟨b, 0, none⟩, by simp [h], fun t u hu => ?_⟩
   have h0 : news.length = 0 := by rw [hlen]; omega
   rw [List.length_eq_zero_iff.1 h0] at hu
   simp at hu
  ·refine ⟨⟨b, j, none⟩, by simp [h], fun t u hu => ?_⟩
   rw [Addr.add_lit]
   rw [hnews, List.getElem?_drop] at hu
   exact hcs _ _ hu
 have s1 : Hid (news.length = (n - j) * 1) := by rw [Nat.mul_one]; exact hlen
 have s2 : Hid (∀ u ∈ news, u.oneCell' = true) := fun u hu => h1c u (List.mem_of_mem_drop (by rw [<- hnews]; exact hu))
 have s3 : Hid (∀ t, t < news.length -> (w.drew.cell? ⟨b, 0 + i * 1 + t, none⟩).isSome = true /\ w.drew.frozen? ⟨b, 0 + i * 1 + t, none⟩ = false) := by
  intro t ht
  rw [hlen] at ht
  rw [Nat.mul_one, Nat.zero_add]
  exact ⟨hsp _ (by omega), hfz _ (by omega)⟩
 obtain ⟨W1, hW1⟩ : ∃ W1, W1 = w.drew.setCells b (0 + i * 1) news := ⟨_, rfl⟩
 have hp1 : (W1.cell? ⟨b, n - 1, none⟩).isSome = true := by
  rw [hW1]
  exact isSome_setCellsN b _ _ _ (fun t ht => (s3.out t ht).1) _ (hsp _ (by omega))
 have hcl1 : ∀ ty cc, (Builtin.clear_ #[336] ty #[.slice (some ⟨b, n - 1, none⟩) 1 cc]).run Tryz.prog W1 = .ok (.tuple #[]) (W1.setCells b (n - 1) (List.replicate 1 (.pointer none))) :=
  fun ty cc => Lib.run_clear_slice W1 _ _ ty _ Tryz.underlying336 zero_ptr rfl rfl b (n - 1) 1 cc (by omega) (fun t ht => by rw [show t = 0 by omega]; exact hp1) (fun t ht => by rw [hW1, World.frozen?_setCells]; exact hfz _ (by omega))
 have hW : Hid (W1 = w.drew.setCells b (0 + i * 1) news) := hW1
 have e1 : i + (n - j) = n - 1 := by omega
 have hic : i <= c := by omega
 have hjc : j <= c := by omega
 have hjn : j <= n := by omega
 have hij2 : i <= j := by omega
 have hij : ¬ ((i : Int) = (j : Int)) := by omega
 have hij' : ¬ (i = j) := by omega
 have e2 : n - (n - 1) = 1 := by omega
 have hn1 : ¬ (c = n - 1) := by omega
 have HN := zh hnews
 clear hW1 hcs hnews hlen hp1 hsp hj
 go_enter Tryz.func280, Tryz.ntmps280
 go_wp2_with fail
 go_region_law (refine step_append_room rfl (.tmp 22) (.tmp 25) 336 rfl 201 i0 1 Tryz.underlying336 hi0 hz1 b 0 i c (by simp [Act.eval, Act.put]) A (n - j) (c - j) news (by simp [Act.eval, Act.put]) s1.out hsrc.out s2.out (by omega) s3.out ?_; rw [<- hW.out, e1])
 go_wp2
 go_ret
 refine ⟨rfl, ?_⟩
 rw [hW.out, uh HN, Nat.zero_add, Nat.mul_one]
end Go.Proofs.YtbmkmfoaoganeaaGreatDoor
