/- What FactBack asks of its arguments first, and a list that is compared with its like. -/
import Derived.Test.YtcgdmehdocaooaaDoorShort
import Derived.Test.YtcgdmehdocaooaaDoorReadW
namespace Go.Proofs.YtcgdmehdocaooaaDoor
open Go.RowKit

theorem keep_short_len (l : List Fop) (ad : Option Addr) (cap : Nat) (w : World) (hn : l.length ≤ maxLen) (h : 20 < l.length) :
    Calls Tryd.prog 33 #[.slice ad l.length cap] w fun e w' => e = .returned (.bool false) ∧ w' = w := by
  unfold maxLen at hn
  have h' : 20 < (l.length : Int) := by omega
  go_enter Tryd.func33, Tryd.ntmps33
  go_wp2
  go_ret
  exact ⟨rfl, rfl⟩

theorem keep_short_none (ad : Option Addr) (cap : Nat) (w : World) :
    Calls Tryd.prog 33 #[.slice ad 0 cap] w fun e w' => e = .returned (.bool true) ∧ w' = w := by
  go_enter Tryd.func33, Tryd.ntmps33
  go_wp2
  refine wp_loop_rounds 1 ?_
  rw [rounds_succ]
  go_wp2
  go_ret
  exact ⟨rfl, rfl⟩

set_option maxHeartbeats 4000000 in
theorem keep_short_at (l : List Fop) (b off cap : Nat) (w : World) (hl : l.length ≤ 20) (hs : ∀ x, x ∈ l → x.word.size ≤ maxLen ∧ x.value.size ≤ maxLen) (h : OpsAt w b off l) :
    Calls Tryd.prog 33 #[.slice (some ⟨b, off, none⟩) l.length cap] w (ShortSays l w) := by
  have H := hide h
  have HS := hide hs
  clear h hs
  have h' : ¬ 20 < (l.length : Int) := by omega
  go_enter Tryd.func33, Tryd.ntmps33
  go_wp2
  go_loop [3] (fun i => ∃ k : Nat, k ≤ l.length ∧ i = .int .i64 k ∧ ∀ j, (hj : j < l.length) → j < k → l[j].word.size ≤ 60 ∧ l[j].value.size ≤ 60) (fun i => l.length - (intOf i).toNat)
  case atStart => exact ⟨0, Nat.zero_le _, rfl, fun j _ h => absurd h (Nat.not_lt_zero _)⟩
  case round =>
    obtain ⟨k, hk, rfl, hz⟩ := hrel
    have HZ := hide hz
    clear hz
    by_cases hlt : k < l.length
    · have hlt' : (k : Int) < (l.length : Int) := by omega
      obtain ⟨_, _, c2, _, _, _, c6⟩ := (unhide H).2 k hlt
      have hq := unhide HS _ (List.getElem_mem hlt)
      unfold maxLen at hq
      by_cases h1 : 60 < l[k].word.size
      · have h1' : 60 < (l[k].word.size : Int) := by omega
        generalize l[k] = o at *
        go_wp2
        go_ret
        exact ⟨false, rfl, (by intro e; cases e), rfl⟩
      · have h1' : ¬ 60 < (l[k].word.size : Int) := by omega
        by_cases h2 : 60 < l[k].value.size
        · have h2' : 60 < (l[k].value.size : Int) := by omega
          generalize l[k] = o at *
          go_wp2
          go_ret
          exact ⟨false, rfl, (by intro e; cases e), rfl⟩
        · have h2' : ¬ 60 < (l[k].value.size : Int) := by omega
          have HN : Hid (∀ j, (hj : j < l.length) → j < k + 1 → l[j].word.size ≤ 60 ∧ l[j].value.size ≤ 60) := by
            intro j hj hjk
            by_cases e : j = k
            · subst e; omega
            · exact unhide HZ j hj (by omega)
          generalize l[k] = o at *
          go_wp2
          go_round
          case rel => exact ⟨k + 1, by omega, by go_num, unhide HN⟩
          case measure => simp [intOf]; omega
    · have hlt' : ¬ (k : Int) < (l.length : Int) := by omega
      have HN : Hid (Shorts l) := ⟨hl, fun x hx => by
        obtain ⟨j, hj, rfl⟩ := List.getElem_of_mem hx
        exact unhide HZ j hj (by omega)⟩
      go_wp2
      go_ret
      exact ⟨true, rfl, fun _ => unhide HN, rfl⟩

/-- Short, or not: the answer true tells that they are. -/
theorem keep_short (l : List Fop) (v : Value) (w : World) (hn : l.length ≤ maxLen) (hs : ∀ x, x ∈ l → Small x) (h : ReadsOps w v l) :
    Calls Tryd.prog 33 #[v] w (ShortSays l w) := by
  obtain ⟨ad, cap, rfl, h⟩ := h
  by_cases h20 : 20 < l.length
  · exact (keep_short_len l ad cap w hn h20).mono fun e w' ⟨h1, h2⟩ => ⟨false, h1, (by intro e; cases e), h2⟩
  · rcases h with rfl | ⟨b, off, rfl, h⟩
    · exact (keep_short_none ad cap w).mono fun e w' ⟨h1, h2⟩ => ⟨true, h1, fun _ => ⟨by simp, by simp⟩, h2⟩
    · exact keep_short_at l b off cap w (by omega) hs h

set_option maxRecDepth 100000 in
set_option maxHeartbeats 4000000 in
theorem same_at (l : List Fop) (b off cap b' off' cap' : Nat) (w : World) (hl : l.length ≤ 1000) (h : OpsAt w b off l) (h' : OpsAt w b' off' l) :
    Calls Tryd.prog 36 #[.slice (some ⟨b, off, none⟩) l.length cap, .slice (some ⟨b', off', none⟩) l.length cap'] w fun e w' => e = .returned (.bool true) ∧ ∃ n, w' = w.drewN n := by
  have H := hide h
  have H' := hide h'
  clear h h'
  go_enter Tryd.func36, Tryd.ntmps36
  go_wp2
  go_loopw [13] (fun i wr => ∃ k : Nat, k ≤ l.length ∧ i = .int .i64 k ∧ ∃ q, wr = w.drewN q) (fun i _ => l.length - (intOf i).toNat)
  case atStart => exact ⟨0, Nat.zero_le _, rfl, 0, rfl⟩
  case round =>
    obtain ⟨k, hk, rfl, q, rfl⟩ := hrel
    by_cases hlt : k < l.length
    · have hlt' : (k : Int) < (l.length : Int) := by omega
      obtain ⟨c0, c1, c2, c3, c4, c5, c6⟩ := (unhide H).2 k hlt
      obtain ⟨e0, e1, e2, e3, e4, e5, e6⟩ := (unhide H').2 k hlt
      generalize l[k] = o at *
      go_wp2
      go_quiet (fail)
      go_wp2
      go_roundw
      case rel => exact ⟨k + 1, by omega, by go_num, _, rfl⟩
      case measure => simp [intOf]; omega
    · have hlt' : ¬ (k : Int) < (l.length : Int) := by omega
      go_wp2
      go_ret
      exact ⟨rfl, q, rfl⟩

theorem same_none (ad ad2 : Option Addr) (cap cap2 : Nat) (w : World) :
    Calls Tryd.prog 36 #[.slice ad 0 cap, .slice ad2 0 cap2] w fun e w' => e = .returned (.bool true) ∧ ∃ n, w' = w.drewN n := by
  go_enter Tryd.func36, Tryd.ntmps36
  go_wp2
  refine wp_loop_rounds 1 ?_
  rw [rounds_succ]
  go_wp2
  go_ret
  exact ⟨rfl, 0, rfl⟩

/-- Two lists of the same changes are the same. -/
theorem same_ops (l : List Fop) (v v' : Value) (w : World) (hl : l.length ≤ 1000) (h : ReadsOps w v l) (h' : ReadsOps w v' l) :
    Calls Tryd.prog 36 #[v, v'] w fun e w' => e = .returned (.bool true) ∧ Below w.heap.size w w' := by
  have bel : ∀ n, Below w.heap.size w (w.drewN n) := fun n => ⟨rfl, rfl, rfl, Nat.le_refl _, fun _ _ => rfl⟩
  obtain ⟨ad, cap, rfl, h⟩ := h
  obtain ⟨ad', cap', rfl, h'⟩ := h'
  rcases h with rfl | ⟨b, off, rfl, h⟩
  · exact (same_none ad ad' cap cap' w).mono fun e w' ⟨h1, n, h2⟩ => ⟨h1, h2 ▸ bel n⟩
  · rcases h' with rfl | ⟨b', off', rfl, h'⟩
    · exact (same_none _ ad' cap cap' w).mono fun e w' ⟨h1, n, h2⟩ => ⟨h1, h2 ▸ bel n⟩
    · exact (same_at l b off cap b' off' cap' w hl h h').mono fun e w' ⟨h1, n, h2⟩ => ⟨h1, h2 ▸ bel n⟩

/-- The change that FactBack writes first. -/
def knows : Fop := ⟨2, 1, ⟨#[107, 110, 111, 119, 115]⟩, 2, -5, 7, ⟨#[119, 101, 108, 108]⟩⟩
theorem knows_ok : okL [knows] := by
  refine ⟨by decide, by decide, fun o ho => ?_⟩
  obtain rfl := List.mem_singleton.1 ho
  kernel_rfl
theorem knows_text : (⟨(opsL [knows]).toArray⟩ : ByteArray) = ⟨#[50, 32, 49, 32, 107, 110, 111, 119, 115, 32, 50, 32, 45, 53, 32, 55, 32, 119, 101, 108, 108]⟩ := by kernel_rfl

theorem reads_one (W : World) (o : Fop) : ReadsOps (W.alloc (.cells #[.int .i64 o.kind, .int .i64 o.a, .string o.word, .int .i64 o.b, .int .i64 o.lo, .int .i64 o.hi, .string o.value] 61)) (.slice (some ⟨W.heap.size, 0, none⟩) 1 1) [o] := by
  refine ⟨_, _, rfl, .inr ⟨_, _, rfl, by simp, fun k hk => ?_⟩⟩
  obtain rfl : k = 0 := by simpa using hk
  exact ⟨alloc_op W o 0 _ rfl, alloc_op W o 1 _ rfl, alloc_op W o 2 _ rfl, alloc_op W o 3 _ rfl, alloc_op W o 4 _ rfl, alloc_op W o 5 _ rfl, alloc_op W o 6 _ rfl⟩

theorem keep_written (w : World) (ht : Tab w) : Calls Tryd.prog 34 #[] w fun e w' => e = .returned (.bool true) ∧ Below w.heap.size w w' := by
  have HW : Hid (∀ (v : Value) (W : World), ReadsOps W v [knows] → Tab W → Calls Tryd.prog 25 #[v] W fun e w' => e = .returned (.tuple #[.string ⟨#[50, 32, 49, 32, 107, 110, 111, 119, 115, 32, 50, 32, 45, 53, 32, 55, 32, 119, 101, 108, 108]⟩, .nilIface]) ∧ Below W.heap.size W w') := by
    intro v W h hT
    have := write_ok [knows] v W (fun x hx => by obtain rfl := List.mem_singleton.1 hx; exact ⟨by decide, by decide⟩) h knows_ok hT
    rw [knows_text] at this
    exact this
  go_enter Tryd.func34, Tryd.ntmps34
  go_wp2_with fail
  have hb : Below w.heap.size w (w.alloc (.cells #[.int .i64 knows.kind, .int .i64 knows.a, .string knows.word, .int .i64 knows.b, .int .i64 knows.lo, .int .i64 knows.hi, .string knows.value] 61)) := (Below.refl _ _).alloc (Nat.le_refl _) _
  refine (unhide HW _ _ (reads_one w knows) (ht.carry hb)).mono ?_
  rintro e w1 ⟨rfl, b1⟩
  have HB := hide (hb.trans (b1.mono hb.size))
  clear hb b1 HW ht
  go_wp2
  go_ret
  exact ⟨rfl, unhide HB⟩

end Go.Proofs.YtcgdmehdocaooaaDoor
