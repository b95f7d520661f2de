/- sameSpans of two slices that hold the same spans: true. -/
import Derived.Test.YtdjajnhiicfcaaaDoorApp
import Derived.Deep.QuietTactic
import Derived.BigQuiet
import Derived.Laws.StructEq
namespace Go.Proofs.YtdjajnhiicfcaaaDoor
open Go.RowKit

/-- What a slice of spans is, to one who reads it. -/
theorem ownsRow_view {w : World} {base : Nat} {e : TypeId} {v : Value} {l : List (Int × Int)} (h : w.ownsRow base e 2 v l.length (encs l)) :
    (v = .slice none 0 0 ∧ l = []) ∨ ∃ g cap, v = .slice (some ⟨g, 0, none⟩) l.length cap ∧ g < w.heap.size ∧ l.length ≤ cap ∧ cap ≤ maxLen ∧
      (∀ k, (hk : k < l.length) → w.cell? ⟨g, k * 2, none⟩ = some (.int .i64 l[k].1) ∧ w.cell? ⟨g, k * 2 + 1, none⟩ = some (.int .i64 l[k].2)) := by
  rcases h.2 with ⟨h1, h2⟩ | ⟨g, cap, cur, hv, hb, hg, hn, hm, hc, ht⟩
  · exact .inl ⟨h1, List.eq_nil_of_length_eq_zero h2⟩
  · refine .inr ⟨g, cap, hv, ?_, hn, hm, ?_⟩
    · rcases Nat.lt_or_ge g w.heap.size with k | k
      · exact k
      · rw [Array.getElem?_eq_none k] at hg; cases hg
    · have hen : ∀ (m : List (Int × Int)) k, (hk : k < m.length) → (encs m)[k * 2]? = some (.int .i64 m[k].1) ∧ (encs m)[k * 2 + 1]? = some (.int .i64 m[k].2) := by
        intro m
        induction m with
        | nil => intro k hk; simp at hk
        | cons x m ih =>
          intro k hk
          cases k with
          | zero => simp [encs]
          | succ k =>
            have := ih k (by simpa using hk)
            rw [show (k + 1) * 2 = k * 2 + 2 by omega]
            simpa [encs] using this
      intro k hk
      subst hv
      have e := hen l k hk
      exact ⟨(h.cellAt (k * 2) (by omega)).trans e.1, (h.cellAt (k * 2 + 1) (by omega)).trans e.2⟩

set_option maxHeartbeats 1000000 in
theorem same_cells (X Y : Nat → Int) (n g g2 cap cap2 : Nat) (w : World) (hl : n < 1099511627776)
    (hc : ∀ k, k < n → w.cell? ⟨g, k * 2, none⟩ = some (.int .i64 (X k)) ∧ w.cell? ⟨g, k * 2 + 1, none⟩ = some (.int .i64 (Y k)))
    (hc2 : ∀ k, k < n → w.cell? ⟨g2, k * 2, none⟩ = some (.int .i64 (X k)) ∧ w.cell? ⟨g2, k * 2 + 1, none⟩ = some (.int .i64 (Y k))) :
    Calls Tryd.prog 9 #[.slice (some ⟨g, 0, none⟩) n cap, .slice (some ⟨g2, 0, none⟩) n cap2] w fun e w' => e = .returned (.bool true) ∧ ∃ n, w' = w.drewN n := by
  go_enter Tryd.func9, Tryd.ntmps9
  go_wp2
  go_loopw [5] (fun i wr => ∃ k : Nat, k ≤ n ∧ i = .int .i64 k ∧ ∃ q, wr = w.drewN q) (fun i _ => n - (intOf i).toNat)
  case atStart => exact ⟨0, Nat.zero_le _, rfl, 0, rfl⟩
  case round =>
    obtain ⟨k, hk, rfl, q, rfl⟩ := hrel
    by_cases hlt : k < n
    · have c0 := (hc k (by omega)).1
      have c1 := (hc k (by omega)).2
      have d0 := (hc2 k (by omega)).1
      have d1 := (hc2 k (by omega)).2
      generalize X k = x at c0 d0
      generalize Y k = y at c1 d1
      clear hc hc2
      go_wp2
      go_quiet (fail)
      go_wp2
      go_roundw
      case rel => exact ⟨k + 1, by omega, by go_num, _, rfl⟩
      case measure => simp [intOf]; omega
    · go_wp2
      go_ret
      exact ⟨rfl, q, rfl⟩

set_option maxHeartbeats 1000000 in
theorem same_none (ad ad2 : Option Addr) (cap cap2 : Nat) (w : World) :
    Calls Tryd.prog 9 #[.slice ad 0 cap, .slice ad2 0 cap2] w fun e w' => e = .returned (.bool true) ∧ ∃ n, w' = w.drewN n := by
  go_enter Tryd.func9, Tryd.ntmps9
  go_wp2
  refine wp_loop_rounds 1 ?_
  rw [rounds_succ]
  go_wp2
  go_ret
  exact ⟨rfl, 0, rfl⟩

/-- sameSpans of two slices that hold the same spans. -/
theorem sameSpans_yes {w : World} {base base2 : Nat} {e e2 : TypeId} {v v2 : Value} {l : List (Int × Int)} (hl : l.length < 1099511627776) (h : w.ownsRow base e 2 v l.length (encs l)) (h2 : w.ownsRow base2 e2 2 v2 l.length (encs l)) :
    Calls Tryd.prog 9 #[v, v2] w fun e w' => e = .returned (.bool true) ∧ ∃ n, w' = w.drewN n := by
  rcases ownsRow_view h with ⟨rfl, rfl⟩ | ⟨g, cap, rfl, _, _, _, hc⟩
  · rcases ownsRow_view h2 with ⟨rfl, _⟩ | ⟨g, cap, rfl, _⟩
    · exact same_none _ _ _ _ _
    · exact same_none _ _ _ _ _
  · rcases ownsRow_view h2 with ⟨rfl, rfl⟩ | ⟨g2, cap2, rfl, _, _, _, hc2⟩
    · exact same_none _ _ _ _ _
    · refine same_cells (fun k => (l.getD k (0, 0)).1) (fun k => (l.getD k (0, 0)).2) l.length g g2 cap cap2 w hl ?_ ?_
      · intro k hk
        simpa [List.getD, List.getElem?_eq_getElem hk] using hc k hk
      · intro k hk
        simpa [List.getD, List.getElem?_eq_getElem hk] using hc2 k hk

end Go.Proofs.YtdjajnhiicfcaaaDoor
