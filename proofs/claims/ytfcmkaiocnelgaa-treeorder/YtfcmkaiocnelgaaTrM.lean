/- Spans by numbers: a list that rises by its numbers, and what is asked of it. -/
import Derived.Test.YtfcmkaiocnelgaaFMath
namespace Go.Proofs.Ytfcmkaiocnelgaa

/-- One span with its number. -/
structure Ent where
  id : Int
  lo : Int
  hi : Int

def Rising (L : List Ent) : Prop := L.Pairwise (fun a b => a.id < b.id)

/-- How many numbers are less than one: where it stands, or would. -/
def posT (L : List Ent) (id : Int) : Nat := L.countP (fun e => decide (e.id < id))

theorem posT_le (L : List Ent) (id : Int) : posT L id ≤ L.length := List.countP_le_length

theorem posT_split : ∀ (L : List Ent) (id : Int), Rising L → (∀ e, e ∈ L.take (posT L id) → e.id < id) ∧ (∀ e, e ∈ L.drop (posT L id) → id ≤ e.id)
  | [], id, _ => by simp [posT]
  | a :: L, id, h => by
    have h1 : ∀ b, b ∈ L → a.id < b.id := fun b hb => List.rel_of_pairwise_cons h hb
    have h2 : Rising L := List.Pairwise.of_cons h
    obtain ⟨i1, i2⟩ := posT_split L id h2
    by_cases ha : a.id < id
    · have e : posT (a :: L) id = posT L id + 1 := by simp [posT, ha]
      rw [e]
      constructor
      · intro x hx
        simp only [List.take_succ_cons, List.mem_cons] at hx
        rcases hx with rfl | hx
        · exact ha
        · exact i1 x hx
      · intro x hx
        exact i2 x (by simpa using hx)
    · have e : posT (a :: L) id = 0 := by
        unfold posT
        rw [List.countP_eq_zero]
        intro x hx
        simp only [decide_eq_true_eq]
        rcases List.mem_cons.1 hx with rfl | hx
        · exact ha
        · have := h1 x hx; omega
      rw [e]
      refine ⟨by simp, fun x hx => ?_⟩
      simp only [List.drop_zero] at hx
      rcases List.mem_cons.1 hx with rfl | hx
      · omega
      · have := h1 x hx; omega

/-- Is there a span of that number? -/
def foundT (L : List Ent) (id : Int) : Bool := match L[posT L id]? with
  | some e => decide (e.id = id)
  | none => false

theorem found_iff (L : List Ent) (id : Int) (h : Rising L) : foundT L id = true ↔ ∃ e, e ∈ L ∧ e.id = id := by
  obtain ⟨h1, h2⟩ := posT_split L id h
  unfold foundT
  constructor
  · intro hf
    cases e : L[posT L id]? with
    | none => rw [e] at hf; cases hf
    | some x =>
      rw [e] at hf
      exact ⟨x, List.mem_of_getElem? e, of_decide_eq_true hf⟩
  · rintro ⟨x, hx, hid⟩
    have hd : x ∈ L.drop (posT L id) := by
      have := hx
      rw [← List.take_append_drop (posT L id) L] at this
      rcases List.mem_append.1 this with k | k
      · have := h1 x k; omega
      · exact k
    cases e : L.drop (posT L id) with
    | nil => rw [e] at hd; cases hd
    | cons y r =>
      have hy : L[posT L id]? = some y := by
        have : (L.drop (posT L id))[0]? = some y := by rw [e]; rfl
        simpa using this
      rw [hy]
      rw [e] at hd h2
      have hp : (y :: r).Pairwise (fun a b => a.id < b.id) := by
        rw [← e]
        exact List.Pairwise.sublist (List.drop_sublist _ _) h
      rcases List.mem_cons.1 hd with rfl | hd
      · exact decide_eq_true hid
      · have a1 := List.rel_of_pairwise_cons hp hd
        have a2 := h2 y (by simp)
        omega

theorem found_at (L : List Ent) (id : Int) (h : foundT L id = true) : ∃ hk : posT L id < L.length, L[posT L id].id = id := by
  unfold foundT at h
  cases e : L[posT L id]? with
  | none => rw [e] at h; cases h
  | some x =>
    rw [e] at h
    obtain ⟨hk, hx⟩ := List.getElem?_eq_some_iff.1 e
    exact ⟨hk, by rw [hx]; exact of_decide_eq_true h⟩

def addT (L : List Ent) (e : Ent) : List Ent := L.take (posT L e.id) ++ e :: L.drop (posT L e.id)
def dropT (L : List Ent) (id : Int) : List Ent := L.take (posT L id) ++ L.drop (posT L id + 1)

theorem rising_add (L : List Ent) (e : Ent) (h : Rising L) (hf : foundT L e.id = false) : Rising (addT L e) := by
  obtain ⟨h1, h2⟩ := posT_split L e.id h
  have hne : ∀ x, x ∈ L → x.id ≠ e.id := fun x hx hid => by
    have := (found_iff L e.id h).2 ⟨x, hx, hid⟩
    rw [hf] at this
    cases this
  have h3 : ∀ x, x ∈ L.drop (posT L e.id) → e.id < x.id := fun x hx => by
    have a := h2 x hx
    have b := hne x (List.mem_of_mem_drop hx)
    omega
  unfold addT Rising
  rw [List.pairwise_append]
  refine ⟨List.Pairwise.sublist (List.take_sublist _ _) h, ?_, ?_⟩
  · exact List.Pairwise.cons (fun x hx => h3 x hx) (List.Pairwise.sublist (List.drop_sublist _ _) h)
  · intro a ha b hb
    have a1 := h1 a ha
    rcases List.mem_cons.1 hb with rfl | hb
    · exact a1
    · have := h3 b hb; omega

theorem rising_drop (L : List Ent) (id : Int) (h : Rising L) : Rising (dropT L id) := by
  unfold dropT Rising
  refine List.Pairwise.sublist ?_ h
  have : L.take (posT L id) ++ L.drop (posT L id) = L := List.take_append_drop _ _
  conv => rhs; rw [← this]
  refine List.Sublist.append_left ?_ _
  rw [← List.drop_drop]
  exact List.drop_sublist _ _

theorem addT_length (L : List Ent) (e : Ent) : (addT L e).length = L.length + 1 := by
  have := posT_le L e.id
  simp [addT]
  omega

theorem dropT_length (L : List Ent) (id : Int) (h : posT L id < L.length) : (dropT L id).length + 1 = L.length := by
  simp [dropT]
  omega

theorem mem_addT (L : List Ent) (e x : Ent) : x ∈ addT L e ↔ x = e ∨ x ∈ L := by
  unfold addT
  rw [List.mem_append, List.mem_cons]
  conv => rhs; rw [← List.take_append_drop (posT L e.id) L, List.mem_append]
  constructor
  · rintro (h | h | h)
    · exact .inr (.inl h)
    · exact .inl h
    · exact .inr (.inr h)
  · rintro (h | h | h)
    · exact .inr (.inl h)
    · exact .inl h
    · exact .inr (.inr h)

/-- What Add tells. -/
def addErr (L : List Ent) (e : Ent) : Int :=
  if 0 ≤ e.id ∧ e.id ≤ 1048576 then (if rightB e.lo e.hi = true then (if foundT L e.id = true then 9 else if 4000 ≤ L.length then 12 else 0) else 1) else 2
def addTo (L : List Ent) (e : Ent) : List Ent := if addErr L e = 0 then addT L e else L

def dropErr (L : List Ent) (id : Int) : Int := if foundT L id = true then 0 else 7
def dropTo (L : List Ent) (id : Int) : List Ent := if foundT L id = true then dropT L id else L

theorem rising_addTo (L : List Ent) (e : Ent) (h : Rising L) : Rising (addTo L e) := by
  unfold addTo
  split
  · rename_i h0
    refine rising_add L e h ?_
    cases hf : foundT L e.id with
    | false => rfl
    | true =>
      unfold addErr at h0
      rw [hf] at h0
      split at h0
      · split at h0
        · simp at h0
        · simp at h0
      · simp at h0
  · exact h

theorem rising_dropTo (L : List Ent) (id : Int) (h : Rising L) : Rising (dropTo L id) := by
  unfold dropTo
  split
  · exact rising_drop L id h
  · exact h

theorem addTo_length (L : List Ent) (e : Ent) (h : L.length ≤ 4000) : (addTo L e).length ≤ 4000 := by
  unfold addTo
  split
  · rename_i h0
    rw [addT_length]
    unfold addErr at h0
    split at h0
    · split at h0
      · split at h0
        · simp at h0
        · split at h0
          · simp at h0
          · omega
      · simp at h0
    · simp at h0
  · exact h

/-- Who has a time of a span; who has a time. -/
def meetB (lo hi : Int) (e : Ent) : Bool := decide (max lo e.lo < min hi e.hi)
def meetsT (L : List Ent) (lo hi : Int) : List Int := if rightB lo hi = true then (L.filter (meetB lo hi)).map (·.id) else []
def hasE (t : Int) (e : Ent) : Bool := decide (e.lo ≤ t ∧ t < e.hi)
def atT (L : List Ent) (t : Int) : List Int := (L.filter (hasE t)).map (·.id)
def spanT (L : List Ent) (id : Int) : Int × Int × Int := if h : foundT L id = true then ((L[posT L id]'(found_at L id h).1).lo, (L[posT L id]'(found_at L id h).1).hi, 0) else (0, 0, 7)

end Go.Proofs.Ytfcmkaiocnelgaa
