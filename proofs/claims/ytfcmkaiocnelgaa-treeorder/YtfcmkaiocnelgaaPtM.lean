/- The program's tree: nodes that stand in the order of where their spans begin: what it tells, plain. -/
import Derived.Test.YtfcmkaiocnelgaaTrM
namespace Go.Proofs.Ytfcmkaiocnelgaa

/-- A node: its block, its span with its number, where the last one ends, both sides. -/
structure Nod where
  b : Nat
  e : Ent
  last : Int
  l : Option Nod
  r : Option Nod

/-- A tree: none, or a node with both its sides. -/
abbrev Tr : Type := Option Nod
def Tr.nil : Tr := none
def Tr.node (b : Nat) (e : Ent) (last : Int) (l r : Tr) : Tr := some ⟨b, e, last, l, r⟩

theorem Tr.ind {motive : Tr → Prop} (nil : motive Tr.nil) (node : ∀ b e last l r, motive l → motive r → motive (Tr.node b e last l r)) (T : Tr) : motive T := by
  cases T with
  | none => exact nil
  | some x => exact Nod.rec (motive_1 := fun n => motive (some n)) (motive_2 := motive) (fun b e last l r hl hr => node b e last l r hl hr) nil (fun _ h => h) x

theorem Tr.cs {motive : Tr → Prop} (nil : motive Tr.nil) (node : ∀ b e last l r, motive (Tr.node b e last l r)) (T : Tr) : motive T :=
  Tr.ind nil (fun b e last l r _ _ => node b e last l r) T

/-- Of a tree, from its leaves on. -/
def foldN {α : Type} (z : α) (f : Nat → Ent → Int → Tr → Tr → α → α → α) : Nod → α
  | ⟨b, e, last, l, r⟩ => f b e last l r (match l with | none => z | some x => foldN z f x) (match r with | none => z | some x => foldN z f x)
def Tr.fold {α : Type} (z : α) (f : Nat → Ent → Int → Tr → Tr → α → α → α) (T : Tr) : α := match T with | none => z | some x => foldN z f x
theorem fold_node {α : Type} (z : α) (f : Nat → Ent → Int → Tr → Tr → α → α → α) (b : Nat) (e : Ent) (last : Int) (l r : Tr) : Tr.fold z f (Tr.node b e last l r) = f b e last l r (Tr.fold z f l) (Tr.fold z f r) := by
  cases l <;> cases r <;> rfl

def Tr.items (T : Tr) : List (Nat × Ent) := T.fold [] (fun b e _ _ _ x y => x ++ (b, e) :: y)
theorem items_nil : Tr.items .nil = [] := rfl
theorem items_node (b : Nat) (e : Ent) (last : Int) (l r : Tr) : (Tr.node b e last l r).items = l.items ++ (b, e) :: r.items := fold_node _ _ b e last l r

def Tr.high (T : Tr) : Nat := T.fold 0 (fun _ _ _ _ _ x y => 1 + max x y)
theorem high_node (b : Nat) (e : Ent) (last : Int) (l r : Tr) : (Tr.node b e last l r).high = 1 + max l.high r.high := fold_node _ _ b e last l r

/-- The greater one of a number and where the last one of a side ends. -/
def Tr.upd (a : Int) (T : Tr) : Int := match T with | none => a | some n => max a n.last

/-- What pruning leans on. -/
def Tr.Fine (T : Tr) : Prop := T.fold True (fun b e last l r x y => e.lo < e.hi ∧ (∀ x, x ∈ (Tr.node b e last l r).items → x.2.hi ≤ last) ∧ (∀ x, x ∈ r.items → e.lo ≤ x.2.lo) ∧ x ∧ y)
theorem fine_node (b : Nat) (e : Ent) (last : Int) (l r : Tr) : (Tr.node b e last l r).Fine = (e.lo < e.hi ∧ (∀ x, x ∈ (Tr.node b e last l r).items → x.2.hi ≤ last) ∧ (∀ x, x ∈ r.items → e.lo ≤ x.2.lo) ∧ l.Fine ∧ r.Fine) := fold_node _ _ b e last l r

/-- The tree of nodes in order: the middle one stands above both halves. -/
def linkF : Nat → List (Nat × Ent) → Tr
  | 0, _ => .nil
  | n + 1, X =>
    match X[X.length / 2]? with
    | none => .nil
    | some p => .node p.1 p.2 (Tr.upd (Tr.upd p.2.hi (linkF n (X.take (X.length / 2)))) (linkF n (X.drop (X.length / 2 + 1)))) (linkF n (X.take (X.length / 2))) (linkF n (X.drop (X.length / 2 + 1)))
def linkT (X : List (Nat × Ent)) : Tr := linkF X.length X

theorem linkT_nil : linkT [] = .nil := rfl

theorem linkF_enough : ∀ (n m : Nat) (X : List (Nat × Ent)), X.length ≤ n → X.length ≤ m → linkF n X = linkF m X
  | 0, m, X, h, _ => by
    obtain rfl : X = [] := List.length_eq_zero_iff.1 (by omega)
    cases m <;> rfl
  | n + 1, 0, X, _, h => by
    obtain rfl : X = [] := List.length_eq_zero_iff.1 (by omega)
    rfl
  | n + 1, m + 1, X, h1, h2 => by
    by_cases h : X.length / 2 < X.length
    · have e1 := linkF_enough n m (X.take (X.length / 2)) (by simp; omega) (by simp; omega)
      have e2 := linkF_enough n m (X.drop (X.length / 2 + 1)) (by simp; omega) (by simp; omega)
      unfold linkF
      rw [e1, e2]
    · obtain rfl : X = [] := List.length_eq_zero_iff.1 (by omega)
      rfl

theorem linkT_cons (X : List (Nat × Ent)) (h : X.length / 2 < X.length) :
    linkT X = .node X[X.length / 2].1 X[X.length / 2].2 (Tr.upd (Tr.upd X[X.length / 2].2.hi (linkT (X.take (X.length / 2)))) (linkT (X.drop (X.length / 2 + 1)))) (linkT (X.take (X.length / 2))) (linkT (X.drop (X.length / 2 + 1))) := by
  obtain ⟨n, hn⟩ : ∃ n, X.length = n + 1 := ⟨X.length - 1, by omega⟩
  have e1 : linkF n (X.take (X.length / 2)) = linkT (X.take (X.length / 2)) := linkF_enough _ _ _ (by simp; omega) (by simp)
  have e2 : linkF n (X.drop (X.length / 2 + 1)) = linkT (X.drop (X.length / 2 + 1)) := linkF_enough _ _ _ (by simp; omega) (by simp)
  have e0 : linkT X = linkF (n + 1) X := by unfold linkT; rw [hn]
  rw [e0]
  unfold linkF
  rw [List.getElem?_eq_getElem h]
  dsimp only
  rw [e1, e2]

def bitsN (n : Nat) : Nat := if n = 0 then 0 else 1 + bitsN (n / 2)

theorem bitsN_zero : bitsN 0 = 0 := by rw [bitsN]; rfl
theorem bitsN_pos {n : Nat} (h : n ≠ 0) : bitsN n = 1 + bitsN (n / 2) := by rw [bitsN, if_neg h]

theorem bitsN_mono (n : Nat) : ∀ m, m ≤ n → bitsN m ≤ bitsN n := by
  induction n using Nat.strongRecOn with
  | ind n ih =>
    intro m hm
    by_cases h : m = 0
    · subst h; rw [bitsN_zero]; exact Nat.zero_le _
    · have hn : n ≠ 0 := by omega
      rw [bitsN_pos h, bitsN_pos hn]
      have := ih (n / 2) (by omega) (m / 2) (by omega)
      omega

theorem link_items (n : Nat) : ∀ X : List (Nat × Ent), X.length = n → (linkT X).items = X := by
  induction n using Nat.strongRecOn with
  | ind n ih =>
    intro X hX
    by_cases h : X.length / 2 < X.length
    · rw [linkT_cons X h, items_node, ih (X.take (X.length / 2)).length (by simp; omega) _ rfl, ih (X.drop (X.length / 2 + 1)).length (by simp; omega) _ rfl]
      rw [show ((X[X.length / 2].1, X[X.length / 2].2) : Nat × Ent) = X[X.length / 2] from rfl, List.getElem_cons_drop h, List.take_append_drop]
    · have : X = [] := List.length_eq_zero_iff.1 (by omega)
      subst this
      rw [linkT_nil]; rfl

theorem items_link (X : List (Nat × Ent)) : (linkT X).items = X := link_items _ X rfl

theorem link_high (n : Nat) : ∀ X : List (Nat × Ent), X.length = n → (linkT X).high = bitsN n := by
  induction n using Nat.strongRecOn with
  | ind n ih =>
    intro X hX
    by_cases h : X.length / 2 < X.length
    · rw [linkT_cons X h, high_node, ih (X.take (X.length / 2)).length (by simp; omega) _ rfl, ih (X.drop (X.length / 2 + 1)).length (by simp; omega) _ rfl]
      have e1 : (X.take (X.length / 2)).length = n / 2 := by simp; omega
      have e2 := bitsN_mono (n / 2) (X.drop (X.length / 2 + 1)).length (by simp; omega)
      have e3 := bitsN_pos (n := n) (by omega)
      rw [e1]
      omega
    · have : X = [] := List.length_eq_zero_iff.1 (by omega)
      subst this
      rw [linkT_nil, ← hX]
      exact bitsN_zero.symm

theorem high_link (X : List (Nat × Ent)) : (linkT X).high = bitsN X.length := link_high _ X rfl

theorem high_le (T : Tr) : T.high ≤ T.items.length := by
  induction T using Tr.ind with
  | nil => exact Nat.le_refl _
  | node b e last l r h1 h2 =>
    simp only [high_node, items_node, List.length_append, List.length_cons]
    omega

/-- The order of nodes. -/
def Ahead (a b : Ent) : Prop := a.lo < b.lo ∨ (a.lo = b.lo ∧ a.id < b.id)
def Ordered (X : List (Nat × Ent)) : Prop := X.Pairwise (fun a b => Ahead a.2 b.2)

theorem Ahead.trans {a b c : Ent} (h : Ahead a b) (h' : Ahead b c) : Ahead a c := by
  unfold Ahead at *; omega
theorem Ahead.irr {a : Ent} (h : Ahead a a) : False := by
  unfold Ahead at h; omega

theorem upd_ge (a : Int) (T : Tr) : a ≤ T.upd a := by
  induction T using Tr.ind with
  | nil => exact Int.le_refl _
  | node b e last l r _ _ => show a ≤ max a last; omega

theorem upd_all (a : Int) (T : Tr) (h : T.Fine) (x : Nat × Ent) (hx : x ∈ T.items) : x.2.hi ≤ T.upd a := by
  induction T using Tr.ind with
  | nil => cases hx
  | node b e last l r _ _ =>
    rw [fine_node] at h
    have := h.2.1 x hx
    show x.2.hi ≤ max a last
    omega

theorem link_fine (n : Nat) : ∀ X : List (Nat × Ent), X.length = n → Ordered X → (∀ x, x ∈ X → x.2.lo < x.2.hi) → (linkT X).Fine := by
  induction n using Nat.strongRecOn with
  | ind n ih =>
    intro X hX hO hR
    by_cases h : X.length / 2 < X.length
    · have f1 := ih (X.take (X.length / 2)).length (by simp; omega) _ rfl (List.Pairwise.sublist (List.take_sublist _ _) hO) (fun x hx => hR x (List.mem_of_mem_take hx))
      have f2 := ih (X.drop (X.length / 2 + 1)).length (by simp; omega) _ rfl (List.Pairwise.sublist (List.drop_sublist _ _) hO) (fun x hx => hR x (List.mem_of_mem_drop hx))
      rw [linkT_cons X h, fine_node]
      refine ⟨hR _ (List.getElem_mem h), ?_, ?_, f1, f2⟩
      · intro x hx
        rw [items_node] at hx
        rcases List.mem_append.1 hx with hx | hx
        · exact Int.le_trans (upd_all _ _ f1 x hx) (upd_ge _ _)
        · rcases List.mem_cons.1 hx with rfl | hx
          · exact Int.le_trans (upd_ge _ _) (upd_ge _ _)
          · exact upd_all _ _ f2 x hx
      · intro x hx
        rw [items_link] at hx
        have : (X.drop (X.length / 2)).Pairwise (fun a b => Ahead a.2 b.2) := List.Pairwise.sublist (List.drop_sublist _ _) hO
        rw [← List.getElem_cons_drop h] at this
        have a := List.rel_of_pairwise_cons this hx
        unfold Ahead at a
        omega
    · have : X = [] := List.length_eq_zero_iff.1 (by omega)
      subst this
      rw [linkT_nil]; trivial

theorem fine_link (X : List (Nat × Ent)) (hO : Ordered X) (hR : ∀ x, x ∈ X → x.2.lo < x.2.hi) : (linkT X).Fine := link_fine _ X rfl hO hR

/-- Who has a time of a span, of a tree that is fine. -/
def meetX (lo hi : Int) (x : Nat × Ent) : Bool := meetB lo hi x.2
def metX (lo hi : Int) (X : List (Nat × Ent)) : List Int := (X.filter (meetX lo hi)).map (fun x => x.2.id)

theorem metX_app (lo hi : Int) (X Y : List (Nat × Ent)) : metX lo hi (X ++ Y) = metX lo hi X ++ metX lo hi Y := by simp [metX]

theorem metX_none (lo hi : Int) (X : List (Nat × Ent)) (h : ∀ x, x ∈ X → meetX lo hi x = false) : metX lo hi X = [] := by
  unfold metX
  rw [List.filter_eq_nil_iff.2 (fun x hx => by rw [h x hx]; decide)]
  rfl

theorem met_pruned (lo hi : Int) (b : Nat) (e : Ent) (last : Int) (l r : Tr) (h : (Tr.node b e last l r).Fine) (hl : last ≤ lo) : metX lo hi (Tr.node b e last l r).items = [] := by
  refine metX_none _ _ _ fun x hx => ?_
  rw [fine_node] at h
  have := h.2.1 x hx
  unfold meetX meetB
  simp only [decide_eq_false_iff_not]
  omega

theorem met_left (lo hi : Int) (b : Nat) (e : Ent) (last : Int) (l r : Tr) (h : (Tr.node b e last l r).Fine) (hl : hi ≤ e.lo) : metX lo hi (Tr.node b e last l r).items = metX lo hi l.items := by
  rw [fine_node] at h
  rw [items_node, metX_app, metX_none lo hi ((b, e) :: r.items), List.append_nil]
  intro x hx
  unfold meetX meetB
  simp only [decide_eq_false_iff_not]
  rcases List.mem_cons.1 hx with rfl | hx
  · show ¬ max lo e.lo < min hi e.hi
    omega
  · have := h.2.2.1 x hx
    omega

theorem met_in (lo hi : Int) (b : Nat) (e : Ent) (last : Int) (l r : Tr) (h : (Tr.node b e last l r).Fine) (hlh : lo < hi) (h1 : e.lo < hi) (h2 : lo < e.hi) : metX lo hi (Tr.node b e last l r).items = metX lo hi l.items ++ [e.id] ++ metX lo hi r.items := by
  rw [fine_node] at h
  have : meetX lo hi (b, e) = true := by
    have := h.1
    unfold meetX meetB
    simp only [decide_eq_true_eq]
    show max lo e.lo < min hi e.hi
    omega
  rw [items_node, metX_app, List.append_assoc]
  congr 1
  simp [metX, this]

theorem met_out (lo hi : Int) (b : Nat) (e : Ent) (last : Int) (l r : Tr) (h2 : e.hi ≤ lo) : metX lo hi (Tr.node b e last l r).items = metX lo hi l.items ++ metX lo hi r.items := by
  have : meetX lo hi (b, e) = false := by
    unfold meetX meetB
    simp only [decide_eq_false_iff_not]
    show ¬ max lo e.lo < min hi e.hi
    omega
  rw [items_node, metX_app]
  congr 1
  simp [metX, this]

/-- One that comes, and one that goes, where it stands in order. -/
def posX (X : List (Nat × Ent)) (e : Ent) : Nat := X.countP (fun x => decide (x.2.lo < e.lo ∨ (x.2.lo = e.lo ∧ x.2.id < e.id)))

theorem posX_le (X : List (Nat × Ent)) (e : Ent) : posX X e ≤ X.length := List.countP_le_length

theorem posX_split : ∀ (X : List (Nat × Ent)) (e : Ent), Ordered X → (∀ x, x ∈ X.take (posX X e) → Ahead x.2 e) ∧ (∀ x, x ∈ X.drop (posX X e) → ¬ Ahead x.2 e)
  | [], e, _ => by simp [posX]
  | a :: X, e, h => by
    have h1 : ∀ b, b ∈ X → Ahead a.2 b.2 := fun b hb => List.rel_of_pairwise_cons h hb
    have h2 : Ordered X := List.Pairwise.of_cons h
    obtain ⟨i1, i2⟩ := posX_split X e h2
    by_cases ha : Ahead a.2 e
    · have q : posX (a :: X) e = posX X e + 1 := by
        unfold posX
        rw [List.countP_cons_of_pos]
        exact decide_eq_true (show a.2.lo < e.lo ∨ (a.2.lo = e.lo ∧ a.2.id < e.id) from ha)
      rw [q]
      constructor
      · intro x hx
        simp only [List.take_succ_cons, List.mem_cons] at hx
        rcases hx with rfl | hx
        · exact ha
        · exact i1 x hx
      · intro x hx
        exact i2 x (by simpa using hx)
    · have q : posX (a :: X) e = 0 := by
        unfold posX
        rw [List.countP_eq_zero]
        intro x hx hc
        have hc' : Ahead x.2 e := (of_decide_eq_true hc : x.2.lo < e.lo ∨ (x.2.lo = e.lo ∧ x.2.id < e.id))
        rcases List.mem_cons.1 hx with rfl | hx
        · exact ha hc'
        · exact ha ((h1 x hx).trans hc')
      rw [q]
      refine ⟨by simp, fun x hx => ?_⟩
      simp only [List.drop_zero] at hx
      rcases List.mem_cons.1 hx with rfl | hx
      · exact ha
      · exact fun hc => ha ((h1 x hx).trans hc)

def addX (X : List (Nat × Ent)) (b : Nat) (e : Ent) : List (Nat × Ent) := X.take (posX X e) ++ (b, e) :: X.drop (posX X e)
def dropX (X : List (Nat × Ent)) (e : Ent) : List (Nat × Ent) := X.take (posX X e) ++ X.drop (posX X e + 1)

theorem addX_perm (X : List (Nat × Ent)) (b : Nat) (e : Ent) : (addX X b e).Perm ((b, e) :: X) := by
  unfold addX
  refine List.perm_middle.trans ?_
  rw [List.take_append_drop]

theorem ordered_add (X : List (Nat × Ent)) (b : Nat) (e : Ent) (h : Ordered X) (hne : ∀ x, x ∈ X → x.2.id ≠ e.id) : Ordered (addX X b e) := by
  obtain ⟨h1, h2⟩ := posX_split X e h
  have h3 : ∀ x, x ∈ X.drop (posX X e) → Ahead e x.2 := fun x hx => by
    have a := h2 x hx
    have b := hne x (List.mem_of_mem_drop hx)
    unfold Ahead at *
    omega
  unfold addX Ordered
  rw [List.pairwise_append]
  refine ⟨List.Pairwise.sublist (List.take_sublist _ _) h, ?_, ?_⟩
  · exact List.Pairwise.cons (fun x hx => h3 x hx) (List.Pairwise.sublist (List.drop_sublist _ _) h)
  · intro a ha b hb
    have a1 := h1 a ha
    rcases List.mem_cons.1 hb with rfl | hb
    · exact a1
    · exact a1.trans (h3 b hb)

/-- Where one that is there stands. -/
theorem posX_at (X : List (Nat × Ent)) (p : Nat × Ent) (h : Ordered X) (hp : p ∈ X) : ∃ hk : posX X p.2 < X.length, X[posX X p.2] = p := by
  obtain ⟨h1, h2⟩ := posX_split X p.2 h
  have hd : p ∈ X.drop (posX X p.2) := by
    have := hp
    rw [← List.take_append_drop (posX X p.2) X] at this
    rcases List.mem_append.1 this with k | k
    · exact absurd (h1 p k) (fun h => h.irr)
    · exact k
  have hk : posX X p.2 < X.length := by
    rcases Nat.lt_or_ge (posX X p.2) X.length with k | k
    · exact k
    · rw [List.drop_eq_nil_of_le k] at hd; cases hd
  refine ⟨hk, ?_⟩
  have hO : (X.drop (posX X p.2)).Pairwise (fun a b => Ahead a.2 b.2) := List.Pairwise.sublist (List.drop_sublist _ _) h
  rw [← List.getElem_cons_drop hk] at hd hO h2
  rcases List.mem_cons.1 hd with e | hd
  · exact e.symm
  · exact absurd (List.rel_of_pairwise_cons hO hd) (h2 _ List.mem_cons_self)

theorem dropX_perm (X : List (Nat × Ent)) (p : Nat × Ent) (h : Ordered X) (hp : p ∈ X) : X.Perm (p :: dropX X p.2) := by
  obtain ⟨hk, e⟩ := posX_at X p h hp
  unfold dropX
  refine List.Perm.trans ?_ List.perm_middle
  rw [show p :: X.drop (posX X p.2 + 1) = X.drop (posX X p.2) by rw [← List.getElem_cons_drop hk, e], List.take_append_drop]

theorem ordered_drop (X : List (Nat × Ent)) (e : Ent) (h : Ordered X) : Ordered (dropX X e) := by
  unfold dropX Ordered
  refine List.Pairwise.sublist ?_ h
  have : X.take (posX X e) ++ X.drop (posX X e) = X := List.take_append_drop _ _
  conv => rhs; rw [← this]
  refine List.Sublist.append_left ?_ _
  rw [← List.drop_drop]
  exact List.drop_sublist _ _

/-- The same spans, by their numbers and by where they begin. -/
def Both (L : List Ent) (X : List (Nat × Ent)) : Prop := L.Perm (X.map (·.2))

theorem addT_perm (L : List Ent) (e : Ent) : (addT L e).Perm (e :: L) := by
  unfold addT
  refine List.perm_middle.trans ?_
  rw [List.take_append_drop]

theorem dropT_perm (L : List Ent) (id : Int) (h : foundT L id = true) : L.Perm ((L[posT L id]'(found_at L id h).1) :: dropT L id) := by
  have hk := (found_at L id h).1
  unfold dropT
  refine List.Perm.trans ?_ List.perm_middle
  rw [List.getElem_cons_drop hk, List.take_append_drop]

theorem both_add {L : List Ent} {X : List (Nat × Ent)} (h : Both L X) (b : Nat) (e : Ent) : Both (addT L e) (addX X b e) := by
  unfold Both at *
  refine (addT_perm L e).trans (List.Perm.trans ?_ ((addX_perm X b e).map (·.2)).symm)
  rw [List.map_cons]
  exact h.cons e

theorem rising_one {L : List Ent} (h : Rising L) {a b : Ent} (ha : a ∈ L) (hb : b ∈ L) (he : a.id = b.id) : a = b := by
  obtain ⟨i, hi, rfl⟩ := List.getElem_of_mem ha
  obtain ⟨j, hj, rfl⟩ := List.getElem_of_mem hb
  have := List.pairwise_iff_getElem.1 h
  rcases Nat.lt_trichotomy i j with k | k | k
  · have := this i j hi hj k; omega
  · subst k; rfl
  · have := this j i hj hi k; omega

theorem both_drop {L : List Ent} {X : List (Nat × Ent)} (h : Both L X) (hr : Rising L) (hO : Ordered X) (p : Nat × Ent) (hp : p ∈ X) : foundT L p.2.id = true ∧ Both (dropT L p.2.id) (dropX X p.2) := by
  have hm : p.2 ∈ L := h.mem_iff.2 (List.mem_map.2 ⟨p, hp, rfl⟩)
  have hf : foundT L p.2.id = true := (found_iff L p.2.id hr).2 ⟨p.2, hm, rfl⟩
  refine ⟨hf, ?_⟩
  have e : L[posT L p.2.id]'(found_at L p.2.id hf).1 = p.2 := rising_one hr (List.getElem_mem _) hm (found_at L p.2.id hf).2
  have h1 := dropT_perm L p.2.id hf
  rw [e] at h1
  have h2 := (dropX_perm X p hO hp).map (·.2)
  rw [List.map_cons] at h2
  exact List.Perm.cons_inv ((h1.symm.trans h).trans h2)

theorem both_met {L : List Ent} {X : List (Nat × Ent)} (h : Both L X) (lo hi : Int) : ((L.filter (meetB lo hi)).map (·.id)).Perm (metX lo hi X) := by
  have := (h.filter (meetB lo hi)).map (·.id)
  refine this.trans ?_
  unfold metX
  rw [List.filter_map, List.map_map]
  exact List.Perm.refl _

theorem met_rises (L : List Ent) (hr : Rising L) (p : Ent → Bool) : ((L.filter p).map (·.id)).Pairwise (· < ·) := by
  rw [List.pairwise_map]
  exact List.Pairwise.sublist List.filter_sublist hr

/-- Numbers that rise, in whichever order they came. -/
theorem sorted_one : ∀ (l m : List Int), l.Perm m → l.Pairwise (· ≤ ·) → m.Pairwise (· ≤ ·) → l = m
  | [], m, h, _, _ => by simpa using h.symm
  | a :: l, [], h, _, _ => by simp at h
  | a :: l, c :: m, h, h1, h2 => by
    have e : a = c := by
      have ha : a ∈ c :: m := h.mem_iff.1 (by simp)
      have hc : c ∈ a :: l := h.mem_iff.2 (by simp)
      rcases List.mem_cons.1 ha with k | k
      · exact k
      · rcases List.mem_cons.1 hc with k' | k'
        · exact k'.symm
        · have := List.rel_of_pairwise_cons h1 k'
          have := List.rel_of_pairwise_cons h2 k
          omega
    subst e
    rw [sorted_one l m (List.Perm.cons_inv h) (List.Pairwise.of_cons h1) (List.Pairwise.of_cons h2)]

end Go.Proofs.Ytfcmkaiocnelgaa
