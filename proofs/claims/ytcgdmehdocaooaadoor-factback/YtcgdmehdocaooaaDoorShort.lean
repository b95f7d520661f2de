/- What the statements ask of their arguments first: that they are short. And what no error tells. -/
import Derived.Test.YtcgdmehdocaooaaDoorWt
import Derived.Test.YtcgdmehdocaooaaDoorPlace
namespace Go.Proofs.YtcgdmehdocaooaaDoor
open Go.RowKit

/-- Short changes: what the statements speak of. -/
def Shorts (l : List Fop) : Prop := l.length ≤ 20 ∧ ∀ x, x ∈ l → x.word.size ≤ 60 ∧ x.value.size ≤ 60

/-- What the asking answers: a bool that, where it is true, tells that the changes are short. -/
def ShortSays (l : List Fop) (w : World) (e : Ending) (w' : World) : Prop := ∃ r, e = .returned (.bool r) ∧ (r = true → Shorts l) ∧ w' = w

theorem law_short_len (l : List Fop) (ad : Option Addr) (cap : Nat) (w : World) (hn : l.length ≤ maxLen) (h : 20 < l.length) :
    Calls Tryd.prog 22 #[.slice ad l.length cap] w fun e w' => e = .returned (.bool false) ∧ w' = w := by
  unfold maxLen at hn
  have h' : 20 < (l.length : Int) := by omega
  go_enter Tryd.func22, Tryd.ntmps22
  go_wp2
  go_ret
  exact ⟨rfl, rfl⟩

theorem law_short_none (ad : Option Addr) (cap : Nat) (w : World) :
    Calls Tryd.prog 22 #[.slice ad 0 cap] w fun e w' => e = .returned (.bool true) ∧ w' = w := by
  go_enter Tryd.func22, Tryd.ntmps22
  go_wp2
  refine wp_loop_rounds 1 ?_
  rw [rounds_succ]
  go_wp2
  go_ret
  exact ⟨rfl, rfl⟩

set_option maxHeartbeats 4000000 in
theorem law_short_at (l : List Fop) (b off cap : Nat) (w : World) (hl : l.length ≤ 20) (hs : ∀ x, x ∈ l → x.word.size ≤ maxLen ∧ x.value.size ≤ maxLen) (h : OpsAt w b off l) :
    Calls Tryd.prog 22 #[.slice (some ⟨b, off, none⟩) l.length cap] w (ShortSays l w) := by
  have H := hide h
  have HS := hide hs
  clear h hs
  have h' : ¬ 20 < (l.length : Int) := by omega
  go_enter Tryd.func22, Tryd.ntmps22
  go_wp2
  go_loop [3] (fun i => ∃ k : Nat, k ≤ l.length ∧ i = .int .i64 k ∧ ∀ j, (hj : j < l.length) → j < k → l[j].word.size ≤ 60 ∧ l[j].value.size ≤ 60) (fun i => l.length - (intOf i).toNat)
  case atStart => exact ⟨0, Nat.zero_le _, rfl, fun j _ h => absurd h (Nat.not_lt_zero _)⟩
  case round =>
    obtain ⟨k, hk, rfl, hz⟩ := hrel
    have HZ := hide hz
    clear hz
    by_cases hlt : k < l.length
    · have hlt' : (k : Int) < (l.length : Int) := by omega
      obtain ⟨_, _, c2, _, _, _, c6⟩ := (unhide H).2 k hlt
      have hq := unhide HS _ (List.getElem_mem hlt)
      unfold maxLen at hq
      by_cases h1 : 60 < l[k].word.size
      · have h1' : 60 < (l[k].word.size : Int) := by omega
        generalize l[k] = o at *
        go_wp2
        go_ret
        exact ⟨false, rfl, (by intro e; cases e), rfl⟩
      · have h1' : ¬ 60 < (l[k].word.size : Int) := by omega
        by_cases h2 : 60 < l[k].value.size
        · have h2' : 60 < (l[k].value.size : Int) := by omega
          generalize l[k] = o at *
          go_wp2
          go_ret
          exact ⟨false, rfl, (by intro e; cases e), rfl⟩
        · have h2' : ¬ 60 < (l[k].value.size : Int) := by omega
          have HN : Hid (∀ j, (hj : j < l.length) → j < k + 1 → l[j].word.size ≤ 60 ∧ l[j].value.size ≤ 60) := by
            intro j hj hjk
            by_cases e : j = k
            · subst e; omega
            · exact unhide HZ j hj (by omega)
          generalize l[k] = o at *
          go_wp2
          go_round
          case rel => exact ⟨k + 1, by omega, by go_num, unhide HN⟩
          case measure => simp [intOf]; omega
    · have hlt' : ¬ (k : Int) < (l.length : Int) := by omega
      have HN : Hid (Shorts l) := ⟨hl, fun x hx => by
        obtain ⟨j, hj, rfl⟩ := List.getElem_of_mem hx
        exact unhide HZ j hj (by omega)⟩
      go_wp2
      go_ret
      exact ⟨true, rfl, fun _ => unhide HN, rfl⟩

/-- Short, or not: the answer true tells that they are. -/
theorem law_short (l : List Fop) (v : Value) (w : World) (hn : l.length ≤ maxLen) (hs : ∀ x, x ∈ l → Small x) (h : ReadsOps w v l) :
    Calls Tryd.prog 22 #[v] w (ShortSays l w) := by
  obtain ⟨ad, cap, rfl, h⟩ := h
  by_cases h20 : 20 < l.length
  · exact (law_short_len l ad cap w hn h20).mono fun e w' ⟨h1, h2⟩ => ⟨false, h1, (by intro e; cases e), h2⟩
  · rcases h with rfl | ⟨b, off, rfl, h⟩
    · exact (law_short_none ad cap w).mono fun e w' ⟨h1, h2⟩ => ⟨true, h1, fun _ => ⟨by simp, by simp⟩, h2⟩
    · exact law_short_at l b off cap w (by omega) hs h

end Go.Proofs.YtcgdmehdocaooaaDoor
