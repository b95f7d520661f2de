/- The texts of a text's changes, gone through by a function that is ranged over. -/
import Derived.Test.YtcgdmehdocaooaaGreatDoorRd5
import Derived.RangeFuncNested
import Derived.RangeFuncBound
import Derived.RangeFuncCalls
import Derived.RangeFuncLeaves
import Derived.RangeFuncFrom
import Derived.Shelf.Abstract
import Derived.Shelf.RegionOpen
import Derived.OwnWalkIn
import Derived.TacticsInMore
import Derived.LoopNIn
import Derived.LoopIn
namespace Go.Proofs.YtcgdmehdocaooaaGreatDoor
open Go.RowKit Go.Shelf

attribute [local go_sem] Oper.semAt_some

/-- The texts between a text's pluses. -/
def pieces (s : ByteArray) : List ByteArray := Lib.splitB ⟨#[43]⟩ 0 s.size s
/-- A text that is not too long. -/
abbrev Txt := { x : ByteArray // x.size ≤ 100000 }
def rawT (l : List Txt) : List ByteArray := l.map (·.1)
theorem rawT_snoc (l : List Txt) (x : Txt) : rawT (l ++ [x]) = rawT l ++ [x.1] := by simp [rawT]
theorem rawT_length (l : List Txt) : (rawT l).length = l.length := by simp [rawT]

theorem fact_changes (s : ByteArray) (w : World) : Calls Tryz.prog 13 #[.string s] w fun e w' => e = .returned (.func (.func 26) #[] #[.pointer (some ⟨w.heap.size, 0, none⟩)]) ∧ w' = w.alloc (.cells #[.string s] 9) := by
  go_enter Tryz.func13, Tryz.ntmps13
  go_wp2
  go_ret
  exact ⟨rfl, rfl⟩

/-- How much of a text is left. -/
def leftOf (r m : Value) : Nat := (match r with | .string t => t.size | _ => 0) + (match m with | .bool true => 1 | _ => 0)

/-- Where the going through stands: what has come, what is left. -/
def Going (s : ByteArray) (mx : Int) (J : List Txt → World → Prop) (r m : Value) (x : World) : Prop :=
  x.cell? ⟨0, 0, none⟩ = some (.int .i64 mx) ∧
  ((∃ (pre : List Txt) (t : ByteArray) (k : Nat), m = .bool true ∧ r = .string t ∧ pieces s = rawT pre ++ Lib.splitB ⟨#[43]⟩ 0 k t ∧ t.size ≤ k ∧ t.size ≤ s.size ∧ J pre x) ∨ (m = .bool false ∧ (∃ t, r = .string t) ∧ ∃ pre, rawT pre = pieces s ∧ J pre x))

theorem cut_hit (t : ByteArray) (i : Nat) (w : World) (mx : Int) (ht : t.size ≤ 100000) (hm : w.cell? ⟨0, 0, none⟩ = some (.int .i64 mx)) (h : Lib.indexB t ⟨#[43]⟩ = i) :
    Calls Tryz.prog 27 #[.string t, .string ⟨#[43]⟩] w fun e w' => e = .returned (.tuple #[.string (t.extract 0 i), .string (t.extract (i + 1) t.size), .bool true]) ∧ ∃ n, w' = w.drewN n := by
  obtain ⟨h1, h2, h3⟩ := Lib.cutB_hit t ⟨#[43]⟩ i h
  have := Tryz.strings_Cut t ⟨#[43]⟩ mx w (by omega) hm
  rw [h1, h2, h3] at this
  exact this

theorem cut_miss (t : ByteArray) (w : World) (mx : Int) (ht : t.size ≤ 100000) (hm : w.cell? ⟨0, 0, none⟩ = some (.int .i64 mx)) (h : Lib.indexB t ⟨#[43]⟩ = -1) :
    Calls Tryz.prog 27 #[.string t, .string ⟨#[43]⟩] w fun e w' => e = .returned (.tuple #[.string t, .string ByteArray.empty, .bool false]) ∧ ∃ n, w' = w.drewN n := by
  obtain ⟨h1, h2, h3⟩ := Lib.cutB_miss t ⟨#[43]⟩ h
  have := Tryz.strings_Cut t ⟨#[43]⟩ mx w (by omega) hm
  rw [h1, h2, h3] at this
  exact this

set_option maxRecDepth 100000 in
set_option maxHeartbeats 2000000 in
theorem changes_stops (s : ByteArray) (n Bs n₀ : Nat) (mx : Int) (w : World) (hn : 1 ≤ n) (hs : s.size ≤ 100000) (hc : w.cell? ⟨Bs, 0, none⟩ = some (.string s)) (hm : w.cell? ⟨0, 0, none⟩ = some (.int .i64 mx)) (hg : 0 < n₀) :
    SeqStopsK Fence.wide n Tryz.prog 26 #[.pointer (some ⟨Bs, 0, none⟩)] (fun x : Txt => #[.string x.1]) (Below n₀) (fun xs => rawT xs = pieces s) (fun pre => rawT pre <+: pieces s) (pieces s).length w := fun l J Jx W hW hJ hJx hY h0 => by
  have hfC : Fence.wide.fn 27 := trivial
  have hcW := (hW.cell (lt_of_cell hc)).trans hc
  have hmW := (hW.cell (lt_of_cell hm)).trans hm
  refine callsIn_of_wp Tryz.func26 rfl trivial ?_ rfl
  simp only [Tryz.ntmps26, List.size_toArray, List.length_cons, List.length_nil, Nat.reduceAdd, Nat.reduceSub, Array.replicate_succ, Array.replicate_zero, List.push_toArray, List.append_toArray, List.nil_append, List.cons_append]
  gi_wp2
  gi_loopw [3, 4] (fun r m x => Going s mx J r m x) (fun r m _ => leftOf r m)
  case atStart => exact ⟨hmW, Or.inl ⟨[], s, s.size, rfl, rfl, rfl, Nat.le_refl _, Nat.le_refl _, h0⟩⟩
  case round =>
    obtain ⟨hmx, ⟨pre, t, k, rfl, rfl, hx, hk, hts, hJs⟩ | ⟨rfl, ⟨t, rfl⟩, pre, hpe, hJs⟩⟩ := hrel
    · rcases Lib.indexB_cases t ⟨#[43]⟩ with hi | ⟨i, hi, hroom⟩
      · have ht' : t.size ≤ 100000 := by omega
        have HC := hide (cut_miss t wr mx (by omega) hmx hi)
        have hxx : pieces s = rawT pre ++ [t] := by rw [hx, Lib.splitB_miss _ _ _ _ hi]
        have HXX := hide hxx
        have HJS := hide hJs
        have HMX := hide hmx
        clear hx hxx hJs hi hcW hmW h0 hmx
        have HY := hide hY
        have HJ := hide hJ
        clear hY hJ hJx hW hm hc
        gi_wp2_with (gi_at_call 27; refine (callsIn_wide.2 (unhide HC)).mono ?_; rintro e w2 ⟨rfl, q, rfl⟩; refine Hid.out ?_)
        refine hide ?_
        have hJ2 := unhide HJ pre wr (wr.drewN q) none (unhide HJS) ⟨rfl, rfl, rfl, Nat.le_refl _, fun _ _ _ => rfl⟩ (fun r e => by cases e)
        have hm2 : (wr.drewN q).cell? ⟨0, 0, none⟩ = some (.int .i64 mx) := unhide HMX
        generalize wr.drewN q = w2 at hJ2 hm2 ⊢
        obtain ⟨fn, tmps, assign, body, hy, hR⟩ := unhide HY pre ⟨t, ht'⟩ w2 hJ2 (by rw [unhide HXX]; simp [rawT])
        have HM2 := hide hm2
        clear HC HY HJ HJS hJ2 HMX hm2
        gi_wp2
        refine hR.mono ?_
        rintro e w3 (⟨rfl, hJ3, hk3⟩ | ⟨rfl, hJx3⟩)
        · have hm3 := (hk3.cell (p := ⟨0, 0, none⟩) hg).trans (unhide HM2)
          have H3 := hide (And.intro hm3 hJ3)
          clear hJ3 hk3 hm3 HM2 hR hy
          gi_wp2
          go_roundw
          case rel => exact ⟨(unhide H3).1, Or.inr ⟨rfl, ⟨_, rfl⟩, pre ++ [⟨t, ht'⟩], by rw [unhide HXX, rawT_snoc], (unhide H3).2⟩⟩
          case measure => simp [leftOf]
        · clear hR hy HM2
          gi_wp2
          refine bodyPost_ret (results_none rfl _ _ _) rfl ?_
          exact ⟨⟨_, rfl⟩, .inr ⟨pre ++ [⟨t, ht'⟩], ⟨[], by rw [unhide HXX, rawT_snoc]; simp⟩, hJx3⟩⟩
      · have hi1 : i + 1 ≤ t.size := hroom
        have HC := hide (cut_hit t i wr mx (by omega) hmx hi)
        have hk1 : ∃ k', k = k' + 1 := ⟨k - 1, by omega⟩
        obtain ⟨k', rfl⟩ := hk1
        have hxx : pieces s = rawT pre ++ t.extract 0 i :: Lib.splitB ⟨#[43]⟩ 0 k' (t.extract (i + 1) t.size) := by rw [hx, Lib.splitB_hit _ _ _ _ _ hi]; rfl
        have hz : (t.extract (i + 1) t.size).size = t.size - (i + 1) := by rw [ByteArray.size_extract]; omega
        have hy' : (t.extract 0 i).size ≤ 100000 := by rw [ByteArray.size_extract]; omega
        have HXX := hide hxx
        have HJS := hide hJs
        have HMX := hide hmx
        have HZ := hide hz
        clear hx hxx hJs hi hcW hmW h0 hmx hz hroom
        have HY := hide hY
        have HJ := hide hJ
        clear hY hJ hJx hW hm hc
        generalize t.extract 0 i = y at HC HXX hy'
        generalize t.extract (i + 1) t.size = t' at HC HXX HZ
        gi_wp2_with (gi_at_call 27; refine (callsIn_wide.2 (unhide HC)).mono ?_; rintro e w2 ⟨rfl, q, rfl⟩; refine Hid.out ?_)
        refine hide ?_
        have hJ2 := unhide HJ pre wr (wr.drewN q) none (unhide HJS) ⟨rfl, rfl, rfl, Nat.le_refl _, fun _ _ _ => rfl⟩ (fun r e => by cases e)
        have hm2 : (wr.drewN q).cell? ⟨0, 0, none⟩ = some (.int .i64 mx) := unhide HMX
        generalize wr.drewN q = w2 at hJ2 hm2 ⊢
        obtain ⟨fn, tmps, assign, body, hy, hR⟩ := unhide HY pre ⟨y, hy'⟩ w2 hJ2 (by rw [unhide HXX]; simp [rawT])
        have HM2 := hide hm2
        clear HC HY HJ HJS hJ2 HMX hm2
        gi_wp2
        refine hR.mono ?_
        rintro e w3 (⟨rfl, hJ3, hk3⟩ | ⟨rfl, hJx3⟩)
        · have hm3 := (hk3.cell (p := ⟨0, 0, none⟩) hg).trans (unhide HM2)
          have H3 := hide (And.intro hm3 hJ3)
          clear hJ3 hk3 hm3 HM2 hR hy
          gi_wp2
          go_roundw
          case rel => exact ⟨(unhide H3).1, Or.inl ⟨pre ++ [⟨y, hy'⟩], t', k', rfl, rfl, by rw [unhide HXX, rawT_snoc]; simp, by have := unhide HZ; omega, by have := unhide HZ; omega, (unhide H3).2⟩⟩
          case measure => simp [leftOf]; have := unhide HZ; omega
        · clear hR hy HM2
          gi_wp2
          refine bodyPost_ret (results_none rfl _ _ _) rfl ?_
          exact ⟨⟨_, rfl⟩, .inr ⟨pre ++ [⟨y, hy'⟩], ⟨Lib.splitB ⟨#[43]⟩ 0 k' t', by rw [unhide HXX, rawT_snoc]; simp⟩, hJx3⟩⟩
    · gi_wp2
      go_end0
      exact ⟨⟨_, rfl⟩, .inl ⟨pre, hpe, hJs⟩⟩

end Go.Proofs.YtcgdmehdocaooaaGreatDoor
