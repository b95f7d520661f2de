/- Spans that come in whichever order: plain. -/
import Derived.Test.YtfcmkaiocnelgaaPtM
namespace Go.Proofs.Ytfcmkaiocnelgaa

/-- A number below n, made of any. -/
def pickI (a n : Int) : Int := (a % 18446744073709551616) % n

theorem pickI_lt (a n : Int) (h : 0 < n) : 0 ≤ pickI a n ∧ pickI a n < n :=
  ⟨Int.emod_nonneg _ (by omega), Int.emod_lt_of_pos _ h⟩

def entO (id : Int) (s : Int × Int) : Ent := ⟨id, pickI s.1 200, pickI s.1 200 + 1 + pickI s.2 50⟩

theorem entO_right (id : Int) (s : Int × Int) : rightB (entO id s).lo (entO id s).hi = true := by
  have h1 := pickI_lt s.1 200 (by omega)
  have h2 := pickI_lt s.2 50 (by omega)
  unfold rightB
  refine decide_eq_true ?_
  simp only [entO]
  omega

theorem mod_two (x n : Nat) (h : x < 2 * n) : x % n = if x < n then x else x - n := by
  split
  · exact Nat.mod_eq_of_lt (by assumption)
  · rw [Nat.mod_eq_sub_mod (by omega), Nat.mod_eq_of_lt (by omega)]

/-- Numbers, turned. -/
theorem turn_is (n p : Nat) (h : p ≤ n) : (List.range n).map (fun j => (j + p) % n) = (List.range n).drop p ++ (List.range n).take p := by
  apply List.ext_getElem
  · simp; omega
  · intro j h1 h2
    simp only [List.length_map, List.length_range] at h1
    rw [List.getElem_map, List.getElem_range, mod_two _ _ (by omega), List.getElem_append]
    simp only [List.length_drop, List.length_range, List.getElem_drop, List.getElem_range, List.getElem_take]
    split <;> split <;> omega

theorem turn_perm (n p : Nat) (h : p ≤ n) : ((List.range n).map (fun j => (j + p) % n)).Perm (List.range n) := by
  rw [turn_is n p h]
  refine List.perm_append_comm.trans ?_
  rw [List.take_append_drop]

/-- The spans that came, and those that come and go. -/
def atL (l : List (Int × Int)) (j : Nat) : Int × Int := l.getD j (0, 0)
def entA (l : List (Int × Int)) (j : Nat) : Ent := entO (j : Int) (atL l j)
def entM (m : List (Int × Int)) (j : Nat) : Ent := entO (1000 + (j : Int)) (atL m j)

def allA (l : List (Int × Int)) (i : Nat) : List Ent := (List.range i).map (entA l)
def allM (m : List (Int × Int)) (i : Nat) : List Ent := (List.range i).map (entM m)
def turnA (l : List (Int × Int)) (p i : Nat) : List Ent := (List.range i).map (fun j => entA l ((j + p) % l.length))
def leftM (m : List (Int × Int)) (q i : Nat) : List Ent := (List.range' i (m.length - i)).map (fun j => entM m ((j + q) % m.length))

theorem allA_succ (l : List (Int × Int)) (i : Nat) : allA l (i + 1) = allA l i ++ [entA l i] := by simp [allA, List.range_succ]
theorem allM_succ (l : List (Int × Int)) (i : Nat) : allM l (i + 1) = allM l i ++ [entM l i] := by simp [allM, List.range_succ]
theorem turnA_succ (l : List (Int × Int)) (p i : Nat) : turnA l p (i + 1) = turnA l p i ++ [entA l ((i + p) % l.length)] := by simp [turnA, List.range_succ]
theorem leftM_step (m : List (Int × Int)) (q i : Nat) (h : i < m.length) : leftM m q i = entM m ((i + q) % m.length) :: leftM m q (i + 1) := by
  unfold leftM
  rw [show m.length - i = (m.length - (i + 1)) + 1 by omega, List.range'_succ, List.map_cons]

theorem turnA_all (l : List (Int × Int)) (p : Nat) (h : p ≤ l.length) : (turnA l p l.length).Perm (allA l l.length) := by
  unfold turnA allA
  have := (turn_perm l.length p h).map (entA l)
  rw [List.map_map] at this
  exact this
theorem leftM_all (m : List (Int × Int)) (q : Nat) (h : q ≤ m.length) : (allM m m.length).Perm (leftM m q 0) := by
  unfold leftM allM
  have := (turn_perm m.length q h).map (entM m)
  rw [List.map_map] at this
  rw [Nat.sub_zero, ← List.range_eq_range']
  exact this.symm
theorem leftM_none (m : List (Int × Int)) (q : Nat) : leftM m q m.length = [] := by simp [leftM]

theorem rising_all (l : List (Int × Int)) (i : Nat) : Rising (allA l i) := by
  unfold Rising allA
  rw [List.pairwise_map]
  exact List.Pairwise.imp (fun {a b} h => by show (a : Int) < (b : Int); omega) List.pairwise_lt_range

theorem rising_perm : ∀ (L M : List Ent), Rising L → Rising M → L.Perm M → L = M
  | [], M, _, _, h => by simpa using h.symm
  | a :: L, [], _, _, h => by simp at h
  | a :: L, c :: M, h1, h2, h => by
    have e : a = c := by
      have ha : a ∈ c :: M := h.mem_iff.1 (by simp)
      have hc : c ∈ a :: L := h.mem_iff.2 (by simp)
      rcases List.mem_cons.1 ha with k | k
      · exact k
      · rcases List.mem_cons.1 hc with k' | k'
        · exact k'.symm
        · have := List.rel_of_pairwise_cons h1 k'
          have := List.rel_of_pairwise_cons h2 k
          omega
    subst e
    rw [rising_perm L M (List.Pairwise.of_cons h1) (List.Pairwise.of_cons h2) (List.Perm.cons_inv h)]

/-- One that is not there yet comes. -/
theorem comes {L S : List Ent} {e : Ent} (hr : Rising L) (hp : L.Perm S) (h0 : 0 ≤ e.id ∧ e.id ≤ 1048576) (hR : rightB e.lo e.hi = true) (hn : ∀ x, x ∈ S → x.id ≠ e.id) (hl : S.length < 4000) :
    addErr L e = 0 ∧ Rising (addTo L e) ∧ (addTo L e).Perm (e :: S) := by
  have hf : foundT L e.id = false := by
    rcases hq : foundT L e.id with _ | _
    · rfl
    · obtain ⟨x, hx, hxe⟩ := (found_iff L e.id hr).1 hq
      exact absurd hxe (hn x (hp.mem_iff.1 hx))
  have h1 : addErr L e = 0 := by
    unfold addErr
    rw [if_pos h0, if_pos hR, hf, if_neg (by simp), if_neg (by rw [hp.length_eq]; omega)]
  refine ⟨h1, rising_addTo L e hr, ?_⟩
  unfold addTo
  rw [if_pos h1]
  exact (addT_perm L e).trans (hp.cons e)

/-- One that is there goes. -/
theorem goes {L S : List Ent} {e : Ent} (hr : Rising L) (hp : L.Perm (e :: S)) : dropErr L e.id = 0 ∧ Rising (dropTo L e.id) ∧ (dropTo L e.id).Perm S := by
  have hm : e ∈ L := hp.mem_iff.2 (by simp)
  have hf : foundT L e.id = true := (found_iff L e.id hr).2 ⟨e, hm, rfl⟩
  refine ⟨by unfold dropErr; rw [if_pos hf], rising_dropTo L e.id hr, ?_⟩
  unfold dropTo
  rw [if_pos hf]
  have e1 : L[posT L e.id]'(found_at L e.id hf).1 = e := rising_one hr (List.getElem_mem _) hm (found_at L e.id hf).2
  have h1 := dropT_perm L e.id hf
  rw [e1] at h1
  exact List.Perm.cons_inv (h1.symm.trans hp)

theorem entA_not (l : List (Int × Int)) (i : Nat) : ∀ x, x ∈ allA l i → x.id ≠ (entA l i).id := fun x hx => by
  obtain ⟨j, hj, rfl⟩ := List.mem_map.1 hx
  have := List.mem_range.1 hj
  show (j : Int) ≠ (i : Int)
  omega
theorem entM_not (m : List (Int × Int)) (i : Nat) : ∀ x, x ∈ allM m i → x.id ≠ (entM m i).id := fun x hx => by
  obtain ⟨j, hj, rfl⟩ := List.mem_map.1 hx
  have := List.mem_range.1 hj
  show 1000 + (j : Int) ≠ 1000 + (i : Int)
  omega
theorem turnA_not (l m : List (Int × Int)) (p i : Nat) (hp : p < l.length) (hl : l.length ≤ 100) (hi : i < l.length) : ∀ x, x ∈ turnA l p i ++ allM m m.length → x.id ≠ (entA l ((i + p) % l.length)).id := fun x hx => by
  have h2 := mod_two (i + p) l.length (by omega)
  rcases List.mem_append.1 hx with hx | hx
  · obtain ⟨j, hj, rfl⟩ := List.mem_map.1 hx
    have := List.mem_range.1 hj
    have h1 := mod_two (j + p) l.length (by omega)
    show (((j + p) % l.length : Nat) : Int) ≠ (((i + p) % l.length : Nat) : Int)
    rw [h1, h2]
    split <;> split <;> omega
  · obtain ⟨j, hj, rfl⟩ := List.mem_map.1 hx
    show 1000 + (j : Int) ≠ (((i + p) % l.length : Nat) : Int)
    have := Nat.mod_lt (i + p) (show 0 < l.length by omega)
    omega

/-- The numbers that have a time, one after another. -/
def hasA (l : List (Int × Int)) (t : Int) (j : Nat) : Bool := hasE t (entA l j)
def cntA (l : List (Int × Int)) (t : Int) (k : Nat) : Nat := ((List.range k).filter (hasA l t)).length

theorem at_all (l : List (Int × Int)) (t : Int) (n : Nat) : atT (allA l n) t = ((List.range n).filter (hasA l t)).map (fun j : Nat => (j : Int)) := by
  unfold atT allA
  rw [List.filter_map, List.map_map]
  rfl
theorem cntA_succ (l : List (Int × Int)) (t : Int) (k : Nat) : cntA l t (k + 1) = cntA l t k + (if hasA l t k = true then 1 else 0) := by
  unfold cntA
  rw [List.range_succ, List.filter_append, List.length_append]
  congr 1
  by_cases h : hasA l t k = true
  · simp [h]
  · simp [h]
theorem at_length (l : List (Int × Int)) (t : Int) (n : Nat) : (atT (allA l n) t).length = cntA l t n := by
  rw [at_all, List.length_map]; rfl
theorem cntA_mono (l : List (Int × Int)) (t : Int) (k : Nat) : ∀ d, cntA l t k ≤ cntA l t (k + d)
  | 0 => Nat.le_refl _
  | d + 1 => by
    have := cntA_mono l t k d
    rw [← Nat.add_assoc, cntA_succ]
    omega
theorem cntA_lt (l : List (Int × Int)) (t : Int) (k n : Nat) (hk : k < n) (h : hasA l t k = true) : cntA l t k < cntA l t n := by
  have h1 := cntA_succ l t k
  rw [if_pos h] at h1
  have h2 := cntA_mono l t (k + 1) (n - (k + 1))
  rw [show k + 1 + (n - (k + 1)) = n by omega] at h2
  omega
theorem at_get (l : List (Int × Int)) (t : Int) (k n : Nat) (hk : k < n) (h : hasA l t k = true) : (atT (allA l n) t)[cntA l t k]? = some (k : Int) := by
  rw [at_all, show List.range n = List.range k ++ (List.range' k (n - k)) by
    have h1 := List.range'_append (s := 0) (m := k) (n := n - k) (step := 1)
    simp only [Nat.one_mul, Nat.zero_add] at h1
    rw [List.range_eq_range', List.range_eq_range', h1]
    congr 1
    omega]
  rw [List.filter_append, List.map_append, List.getElem?_append_right (by rw [List.length_map]; exact Nat.le_refl _)]
  rw [List.length_map]
  show (List.map _ _)[cntA l t k - cntA l t k]? = _
  rw [Nat.sub_self, show n - k = (n - (k + 1)) + 1 by omega, List.range'_succ, List.filter_cons_of_pos h]
  rfl

end Go.Proofs.Ytfcmkaiocnelgaa
