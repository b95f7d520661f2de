/- Keys are in one order: turned round, equal, and one behind the other. -/
import Derived.Test.YtcgdmehdocaooaaDoorCmp
namespace Go.Proofs.YtcgdmehdocaooaaDoor
open Go.RowKit

theorem bl_irrefl : ∀ (x : List UInt8), Op.bytesLess x x = false
  | [] => rfl
  | a :: x => by simp [Op.bytesLess, bl_irrefl x]
theorem bl_asymm : ∀ (x y : List UInt8), Op.bytesLess x y = true → Op.bytesLess y x = false
  | _, [], h => by simp [Op.bytesLess] at h
  | [], _ :: _, _ => by simp [Op.bytesLess]
  | a :: x, b :: y, h => by
      simp only [Op.bytesLess, Bool.or_eq_true, Bool.and_eq_true, decide_eq_true_eq, beq_iff_eq] at h
      simp only [Op.bytesLess, Bool.or_eq_false_iff, Bool.and_eq_false_iff, decide_eq_false_iff_not, beq_eq_false_iff_ne]
      rcases h with h | ⟨rfl, h⟩
      · rw [UInt8.lt_iff_toNat_lt] at h
        exact ⟨by rw [UInt8.lt_iff_toNat_lt]; omega, .inl (fun e => by rw [e] at h; omega)⟩
      · exact ⟨by rw [UInt8.lt_iff_toNat_lt]; omega, .inr (bl_asymm x y h)⟩
theorem bl_total : ∀ (x y : List UInt8), Op.bytesLess x y = false → Op.bytesLess y x = false → x = y
  | [], [], _, _ => rfl
  | [], _ :: _, h, _ => by simp [Op.bytesLess] at h
  | _ :: _, [], _, h => by simp [Op.bytesLess] at h
  | a :: x, b :: y, h, k => by
      simp only [Op.bytesLess, Bool.or_eq_false_iff, Bool.and_eq_false_iff, decide_eq_false_iff_not, beq_eq_false_iff_ne, UInt8.lt_iff_toNat_lt] at h k
      have e : a = b := UInt8.toNat_inj.1 (by omega)
      subst e
      rw [bl_total x y (h.2.resolve_left (fun q => q rfl)) (k.2.resolve_left (fun q => q rfl))]
theorem bl_trans : ∀ (x y z : List UInt8), Op.bytesLess x y = true → Op.bytesLess y z = true → Op.bytesLess x z = true
  | _, [], _, h, _ => by simp [Op.bytesLess] at h
  | _, _ :: _, [], _, h => by simp [Op.bytesLess] at h
  | [], _ :: _, _ :: _, _, _ => by simp [Op.bytesLess]
  | a :: x, b :: y, c :: z, h, k => by
      simp only [Op.bytesLess, Bool.or_eq_true, Bool.and_eq_true, decide_eq_true_eq, beq_iff_eq, UInt8.lt_iff_toNat_lt] at h k ⊢
      rcases h with h | ⟨rfl, h⟩
      · rcases k with k | ⟨rfl, k⟩
        · left; omega
        · left; exact h
      · rcases k with k | ⟨rfl, k⟩
        · left; exact k
        · exact .inr ⟨rfl, bl_trans x y z h k⟩

/-- How three comparisons hang together. -/
def Tri (p q r : Int) : Prop := (p ≤ 0 → q ≤ 0 → r ≤ 0 ∧ (r = 0 → p = 0 ∧ q = 0)) ∧ (p = 0 → q = 0 → r = 0)

theorem int_turn (x y : Int) : Lib.compareInt x y = - Lib.compareInt y x := by unfold Lib.compareInt; split <;> split <;> (try split) <;> omega
theorem int_zero (x y : Int) : Lib.compareInt x y = 0 ↔ x = y := by unfold Lib.compareInt; split <;> (try split) <;> omega
theorem int_tri (x y z : Int) : Tri (Lib.compareInt x y) (Lib.compareInt y z) (Lib.compareInt x z) := by
  unfold Lib.compareInt Tri
  split <;> split <;> split <;> (try split) <;> (try split) <;> (try split) <;> omega

/-- A text's comparison, by its three cases. -/
theorem str_cases (x y : ByteArray) : (Op.bytesLess x.toList y.toList = true ∧ Op.bytesLess y.toList x.toList = false ∧ x.toList ≠ y.toList ∧ compareS x y = -1) ∨ (x.toList = y.toList ∧ compareS x y = 0) ∨ (Op.bytesLess y.toList x.toList = true ∧ Op.bytesLess x.toList y.toList = false ∧ x.toList ≠ y.toList ∧ compareS x y = 1) := by
  unfold compareS
  cases h : Op.bytesLess x.toList y.toList with
  | true =>
    have hne : x.toList ≠ y.toList := fun e => by rw [e, bl_irrefl] at h; cases h
    exact .inl ⟨rfl, bl_asymm _ _ h, hne, by simp⟩
  | false =>
    cases k : Op.bytesLess y.toList x.toList with
    | true =>
      have hne : x.toList ≠ y.toList := fun e => by rw [e, bl_irrefl] at k; cases k
      exact .inr (.inr ⟨rfl, rfl, hne, by simp [hne]⟩)
    | false => exact .inr (.inl ⟨bl_total _ _ h k, by simp [bl_total _ _ h k]⟩)

theorem str_turn (x y : ByteArray) : compareS x y = - compareS y x := by
  rcases str_cases x y with ⟨a, b, c, d⟩ | ⟨a, d⟩ | ⟨a, b, c, d⟩ <;> rcases str_cases y x with ⟨a', b', c', d'⟩ | ⟨a', d'⟩ | ⟨a', b', c', d'⟩ <;> rw [d, d'] <;> first | rfl | (exfalso; simp_all)
theorem str_zero (x y : ByteArray) : compareS x y = 0 ↔ x.toList = y.toList := by
  rcases str_cases x y with ⟨_, _, c, d⟩ | ⟨a, d⟩ | ⟨_, _, c, d⟩ <;> rw [d] <;> simp [*]
theorem str_tri (x y z : ByteArray) : Tri (compareS x y) (compareS y z) (compareS x z) := by
  rcases str_cases x y with ⟨a, b, c, d⟩ | ⟨a, d⟩ | ⟨a, b, c, d⟩ <;> rcases str_cases y z with ⟨a', b', c', d'⟩ | ⟨a', d'⟩ | ⟨a', b', c', d'⟩
  all_goals (unfold Tri; rw [d, d'])
  · have t := bl_trans _ _ _ a a'
    rcases str_cases x z with ⟨_, _, _, e⟩ | ⟨u, e⟩ | ⟨u, v, _, e⟩
    · rw [e]; decide
    · rw [u, bl_irrefl] at t; cases t
    · rw [v] at t; cases t
  · rw [a'] at a
    rcases str_cases x z with ⟨_, _, _, e⟩ | ⟨u, e⟩ | ⟨u, v, _, e⟩
    · rw [e]; decide
    · rw [u, bl_irrefl] at a; cases a
    · rw [v] at a; cases a
  · exact ⟨fun _ h => absurd h (by decide), fun h => absurd h (by decide)⟩
  · rw [← a] at a'
    rcases str_cases x z with ⟨_, _, _, e⟩ | ⟨u, e⟩ | ⟨u, v, _, e⟩
    · rw [e]; decide
    · rw [u, bl_irrefl] at a'; cases a'
    · rw [v] at a'; cases a'
  · have e : compareS x z = 0 := (str_zero x z).2 (a.trans a')
    rw [e]; decide
  all_goals exact ⟨fun h h' => absurd (And.intro h h') (by decide), fun h h' => absurd (And.intro h h') (by decide)⟩

/-- One comparison, and the next one where it is nought. -/
theorem Tri.or {p q r P Q R : Int} (h : Tri p q r) (H : Tri P Q R) : Tri (if p = 0 then P else p) (if q = 0 then Q else q) (if r = 0 then R else r) := by
  unfold Tri at *
  split <;> split <;> split <;> omega

theorem orL4 (p q r s : Int) : orL [p, q, r, s] = if p = 0 then (if q = 0 then (if r = 0 then (if s = 0 then 0 else s) else r) else q) else p := rfl

theorem key_turn (k a : Int) (s : ByteArray) (b k' a' : Int) (s' : ByteArray) (b' : Int) : keyCmp k a s b k' a' s' b' = - keyCmp k' a' s' b' k a s b := by
  unfold keyCmp
  rw [orL4, orL4, int_turn k k', int_turn a a', str_turn s s', int_turn b b']
  split <;> split <;> (try split) <;> (try split) <;> (try split) <;> (try split) <;> (try split) <;> (try split) <;> omega

theorem key_zero (k a : Int) (s : ByteArray) (b k' a' : Int) (s' : ByteArray) (b' : Int) : keyCmp k a s b k' a' s' b' = 0 ↔ k = k' ∧ a = a' ∧ s.toList = s'.toList ∧ b = b' := by
  unfold keyCmp
  rw [orL4, ← int_zero k k', ← int_zero a a', ← str_zero s s', ← int_zero b b']
  split <;> (try split) <;> (try split) <;> (try split) <;> omega

theorem key_tri (k a : Int) (s : ByteArray) (b k' a' : Int) (s' : ByteArray) (b' k'' a'' : Int) (s'' : ByteArray) (b'' : Int) : Tri (keyCmp k a s b k' a' s' b') (keyCmp k' a' s' b' k'' a'' s'' b'') (keyCmp k a s b k'' a'' s'' b'') := by
  unfold keyCmp
  rw [orL4, orL4, orL4]
  exact (int_tri k k' k'').or ((int_tri a a' a'').or ((str_tri s s' s'').or ((int_tri b b' b'').or (by unfold Tri; decide))))

theorem key_small (k a : Int) (s : ByteArray) (b k' a' : Int) (s' : ByteArray) (b' : Int) : -1 ≤ keyCmp k a s b k' a' s' b' ∧ keyCmp k a s b k' a' s' b' ≤ 1 := by
  have i : ∀ x y : Int, -1 ≤ Lib.compareInt x y ∧ Lib.compareInt x y ≤ 1 := fun x y => by unfold Lib.compareInt; split <;> (try split) <;> omega
  have t : -1 ≤ compareS s s' ∧ compareS s s' ≤ 1 := by rcases str_cases s s' with ⟨_, _, _, d⟩ | ⟨_, d⟩ | ⟨_, _, _, d⟩ <;> rw [d] <;> decide
  have i1 := i k k'
  have i2 := i a a'
  have i3 := i b b'
  unfold keyCmp
  rw [orL4]
  split <;> (try split) <;> (try split) <;> (try split) <;> omega

end Go.Proofs.YtcgdmehdocaooaaDoor
