/- What the document's lists of the parts of two spans are. -/
import Derived.Test.YtdjajnhiicfcaaaSorted
import Derived.Test.YtdjajnhiicfcaaaLess
namespace Go.Proofs.Ytdjajnhiicfcaaa
open Palim

theorem rises_of_pairwise (l : List Int) (h : l.Pairwise fun x y => decide (x ≤ y) = true) : Rises l := by
  induction l with
  | nil => trivial
  | cons x l ih =>
    rw [List.pairwise_cons] at h
    exact ⟨fun e he => by simpa using h.1 e he, ih h.2⟩

theorem rises_sorted (l : List Int) : Rises (sorted l) :=
  rises_of_pairwise _ (List.pairwise_mergeSort (fun a b c h1 h2 => by simp at *; omega) (fun a b => by simp; omega) l)

theorem mem_sorted (l : List Int) (x : Int) : x ∈ sorted l ↔ x ∈ l := List.mem_mergeSort

/-- What Where tells of times that are so or not by ends of a list. -/
theorem go_sorted (p : Int → Bool) (l : List Int)
    (hs : ∀ x y, x ≤ y → (∀ e, e ∈ l → ¬ (x < e ∧ e ≤ y)) → p x = p y)
    (hlo : ∀ x, (∀ e, e ∈ l → x < e) → p x = false) (hhi : ∀ x, (∀ e, e ∈ l → e ≤ x) → p x = false) :
    Canon (go p (sorted l) none) ∧ ∀ t, In (go p (sorted l) none) t ↔ p t = true :=
  go_all p (sorted l) (rises_sorted l) (fun x y h1 h2 => hs x y h1 fun e he => h2 e ((mem_sorted l e).2 he))
    (fun x h => hlo x fun e he => h e ((mem_sorted l e).2 he)) (fun x h => hhi x fun e he => h e ((mem_sorted l e).2 he))

theorem hasB_steps (a b x y : Int) (h : x ≤ y) (h1 : ¬ (x < a ∧ a ≤ y)) (h2 : ¬ (x < b ∧ b ≤ y)) : hasB a b x = hasB a b y := by
  unfold hasB
  rw [decide_eq_decide]
  omega

theorem in_one (a b t : Int) : In [(a, b)] t ↔ a ≤ t ∧ t < b := by
  rw [in_cons]
  constructor
  · rintro (h | h)
    · exact h
    · exact absurd h (in_nil _)
  · exact Or.inl

theorem both_tells (a1 a2 b1 b2 : Int) : go (fun t => hasB a1 a2 t && hasB b1 b2 t) (sorted [a1, a2, b1, b2]) none = if mlo a1 b1 < mhi a2 b2 then [(mlo a1 b1, mhi a2 b2)] else [] := by
  obtain ⟨g1, g2⟩ := go_sorted (fun t => hasB a1 a2 t && hasB b1 b2 t) [a1, a2, b1, b2]
    (fun x y h hn => by
      show (hasB a1 a2 x && hasB b1 b2 x) = (hasB a1 a2 y && hasB b1 b2 y)
      rw [hasB_steps a1 a2 x y h (hn a1 (by simp)) (hn a2 (by simp)), hasB_steps b1 b2 x y h (hn b1 (by simp)) (hn b2 (by simp))])
    (fun x h => by have := h a1 (by simp); simp [hasB]; omega)
    (fun x h => by have := h a2 (by simp); simp [hasB]; omega)
  by_cases hm : mlo a1 b1 < mhi a2 b2
  · rw [if_pos hm]
    refine canon_eq _ _ g1 ⟨hm, by simp, trivial⟩ fun t => (g2 t).trans ?_
    rw [in_one]
    simp only [hasB, Bool.and_eq_true, decide_eq_true_eq]
    unfold mlo mhi
    split <;> split <;> omega
  · rw [if_neg hm]
    refine canon_eq _ _ g1 trivial fun t => (g2 t).trans ?_
    simp only [hasB, Bool.and_eq_true, decide_eq_true_eq]
    unfold mlo mhi at hm
    constructor
    · intro h
      exfalso
      revert hm
      split <;> split <;> omega
    · intro h; exact absurd h (in_nil _)

theorem less_tells (a1 a2 b1 b2 : Int) : go (fun t => hasB a1 a2 t && !hasB b1 b2 t) (sorted [a1, a2, b1, b2]) none = lessL a1 a2 b1 b2 := by
  obtain ⟨g1, g2⟩ := go_sorted (fun t => hasB a1 a2 t && !hasB b1 b2 t) [a1, a2, b1, b2]
    (fun x y h hn => by
      show (hasB a1 a2 x && !hasB b1 b2 x) = (hasB a1 a2 y && !hasB b1 b2 y)
      rw [hasB_steps a1 a2 x y h (hn a1 (by simp)) (hn a2 (by simp)), hasB_steps b1 b2 x y h (hn b1 (by simp)) (hn b2 (by simp))])
    (fun x h => by have := h a1 (by simp); simp [hasB]; omega)
    (fun x h => by have := h a2 (by simp); simp [hasB]; omega)
  have hp : ∀ t, (hasB a1 a2 t && !hasB b1 b2 t) = true ↔ (a1 ≤ t ∧ t < a2) ∧ ¬ (b1 ≤ t ∧ t < b2) := by
    intro t; simp only [hasB, Bool.and_eq_true, Bool.not_eq_true', decide_eq_true_eq, decide_eq_false_iff_not]
  have hlo : ∀ x, mlo a1 b1 ≤ x ↔ a1 ≤ x ∧ b1 ≤ x := by intro x; unfold mlo; split <;> omega
  have hhi : ∀ x, x < mhi a2 b2 ↔ x < a2 ∧ x < b2 := by intro x; unfold mhi; split <;> omega
  have hlo1 : a1 ≤ mlo a1 b1 := by unfold mlo; split <;> omega
  have hhi1 : mhi a2 b2 ≤ a2 := by unfold mhi; split <;> omega
  have hlo2 := hlo (mlo a1 b1)
  have hhi2 := hhi (mhi a2 b2 - 1)
  unfold lessL
  by_cases h : a2 ≤ a1
  · rw [if_pos h]
    refine canon_eq _ _ g1 trivial fun t => (g2 t).trans ((hp t).trans ?_)
    constructor
    · intro k; omega
    · intro k; exact absurd k (in_nil _)
  · rw [if_neg h]
    by_cases hm : mlo a1 b1 < mhi a2 b2
    · rw [if_pos hm]
      have hk : ∀ t, ((a1 ≤ t ∧ t < a2) ∧ ¬ (b1 ≤ t ∧ t < b2)) ↔ (a1 ≤ t ∧ t < mlo a1 b1) ∨ (mhi a2 b2 ≤ t ∧ t < a2) := by
        intro t
        have x1 := hlo t
        have x2 := hhi t
        omega
      generalize mlo a1 b1 = lo at *
      generalize mhi a2 b2 = hi at *
      by_cases h1 : a1 < lo
      · rw [if_pos h1]
        by_cases h2 : hi < a2
        · rw [if_pos h2]
          refine canon_eq _ _ g1 ⟨h1, by simp; omega, h2, by simp, trivial⟩ fun t => (g2 t).trans ((hp t).trans ((hk t).trans ?_))
          rw [List.singleton_append, in_cons, in_one]
        · rw [if_neg h2]
          refine canon_eq _ _ g1 ⟨h1, by simp, trivial⟩ fun t => (g2 t).trans ((hp t).trans ((hk t).trans ?_))
          rw [List.append_nil, in_one]
          omega
      · rw [if_neg h1]
        by_cases h2 : hi < a2
        · rw [if_pos h2]
          refine canon_eq _ _ g1 ⟨h2, by simp, trivial⟩ fun t => (g2 t).trans ((hp t).trans ((hk t).trans ?_))
          rw [List.nil_append, in_one]
          omega
        · rw [if_neg h2]
          refine canon_eq _ _ g1 trivial fun t => (g2 t).trans ((hp t).trans ((hk t).trans ?_))
          constructor
          · intro k; omega
          · intro k; exact absurd k (in_nil _)
    · rw [if_neg hm]
      refine canon_eq _ _ g1 ⟨by show a1 < a2; omega, by simp, trivial⟩ fun t => (g2 t).trans ((hp t).trans ?_)
      rw [in_one]
      have x1 := hlo t
      have x2 := hhi t
      omega

end Go.Proofs.Ytdjajnhiicfcaaa
