/- The document's order of keys, and the program's: they are one. -/
import Derived.Test.YtcgdmehdocaooaaDoorCmp2
namespace Go.Proofs.YtcgdmehdocaooaaDoor
open Go.RowKit

/-- The document's order of keys. -/
def lessB (k a : Int) (s : ByteArray) (b k' a' : Int) (s' : ByteArray) (b' : Int) : Bool :=
  if k = k' then (if a = a' then (if s.toList = s'.toList then decide (b < b') else Op.bytesLess s.toList s'.toList) else decide (a < a')) else decide (k < k')

set_option maxHeartbeats 2000000 in
theorem ref_Less (k a : Int) (s : ByteArray) (b k' a' : Int) (s' : ByteArray) (b' : Int) (w : World) :
    Calls Tryd.prog 23 #[.agg #[.int .i64 k, .int .i64 a, .string s, .int .i64 b], .agg #[.int .i64 k', .int .i64 a', .string s', .int .i64 b']] w fun e w' =>
      e = .returned (.bool (lessB k a s b k' a' s' b')) ∧ Below w.heap.size w w' := by
  have HB : Hid (Below w.heap.size w ((w.alloc (.cells #[.int .i64 k, .int .i64 a, .string s, .int .i64 b] 49)).alloc (.cells #[.int .i64 k', .int .i64 a', .string s', .int .i64 b'] 49))) :=
    ((Below.refl _ _).alloc (Nat.le_refl _) _).alloc (by simp) _
  unfold lessB
  by_cases h1 : k = k'
  · rw [if_pos h1]
    have h1' : (k == k') = true := by simp [h1]
    by_cases h2 : a = a'
    · rw [if_pos h2]
      have h2' : (a == a') = true := by simp [h2]
      by_cases h3 : s.toList = s'.toList
      · rw [if_pos h3]
        have h3' : (s.toList == s'.toList) = true := by simp [h3]
        clear h1 h2 h3
        go_enter Tryd.func23, Tryd.ntmps23
        go_wp2
        go_ret
        exact ⟨rfl, unhide HB⟩
      · rw [if_neg h3]
        have h3' : (s.toList == s'.toList) = false := by simp [h3]
        clear h1 h2 h3
        go_enter Tryd.func23, Tryd.ntmps23
        go_wp2
        go_ret
        exact ⟨rfl, unhide HB⟩
    · rw [if_neg h2]
      have h2' : (a == a') = false := by simp [h2]
      clear h1 h2
      go_enter Tryd.func23, Tryd.ntmps23
      go_wp2
      go_ret
      exact ⟨rfl, unhide HB⟩
  · rw [if_neg h1]
    have h1' : (k == k') = false := by simp [h1]
    clear h1
    go_enter Tryd.func23, Tryd.ntmps23
    go_wp2
    go_ret
    exact ⟨rfl, unhide HB⟩

/-- Are two keys the same? -/
def sameKey (k a : Int) (s : ByteArray) (b k' a' : Int) (s' : ByteArray) (b' : Int) : Bool := decide (k = k') && (decide (a = a') && (decide (s.toList = s'.toList) && decide (b = b')))

theorem key_neq (k a : Int) (s : ByteArray) (b k' a' : Int) (s' : ByteArray) (b' : Int) (w : World) :
    (binOp .neq 49 (.agg #[.int .i64 k, .int .i64 a, .string s, .int .i64 b]) (.agg #[.int .i64 k', .int .i64 a', .string s', .int .i64 b'])).run Tryd.prog w = .ok (.bool (!sameKey k a s b k' a' s' b')) w := by
  unfold sameKey
  simp [go_sem]
  split
  · split
    · split
      · split <;> simp_all
      · simp_all
    · simp_all
  · simp_all

theorem compareS_eq (s t : ByteArray) : compareS s t = 0 ↔ s.toList = t.toList := by
  unfold compareS
  by_cases h : s.toList = t.toList
  · have hl : ∀ l : List UInt8, Op.bytesLess l l = false := by
      intro l
      induction l with
      | nil => rfl
      | cons x l ih => simp [Op.bytesLess, ih]
    simp [h, hl]
  · cases Op.bytesLess s.toList t.toList <;> simp [h]

theorem keyCmp_is (k a : Int) (s : ByteArray) (b k' a' : Int) (s' : ByteArray) (b' : Int) :
    keyCmp k a s b k' a' s' b' = if lessB k a s b k' a' s' b' = true then -1 else if sameKey k a s b k' a' s' b' = true then 0 else 1 := by
  unfold keyCmp lessB sameKey
  simp only [orL, Lib.compareInt]
  by_cases h1 : k = k'
  · subst h1
    simp only [Int.lt_irrefl, if_false, if_true, decide_true, Bool.true_and, gt_iff_lt]
    by_cases h2 : a = a'
    · subst h2
      simp only [Int.lt_irrefl, if_false, if_true, decide_true, Bool.true_and]
      by_cases h3 : s.toList = s'.toList
      · have := (compareS_eq s s').2 h3
        rw [this]
        simp only [if_true, h3, decide_true, Bool.true_and]
        by_cases h4 : b < b'
        · simp [h4]
        · by_cases h5 : b = b'
          · subst h5; simp
          · have : b' < b := by omega
            simp [h4, h5, this]
      · have hn : compareS s s' ≠ 0 := fun e => h3 ((compareS_eq s s').1 e)
        simp only [hn, if_false, h3, decide_false, Bool.false_and]
        unfold compareS
        cases Op.bytesLess s.toList s'.toList <;> simp [h3]
    · by_cases h4 : a < a'
      · simp [h2, h4]
      · have : a' < a := by omega
        simp [h2, h4, this]
  · by_cases h4 : k < k'
    · simp [h1, h4]
    · have : k' < k := by omega
      simp [h1, h4, this]

end Go.Proofs.YtcgdmehdocaooaaDoor
