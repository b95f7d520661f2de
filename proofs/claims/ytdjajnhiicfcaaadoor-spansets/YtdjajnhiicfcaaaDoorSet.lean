/- Sets of spans in memory: what they hold; parts, Spans, bounded, side. -/
import Derived.Test.YtdjajnhiicfcaaaDoorWhere
namespace Go.Proofs.YtdjajnhiicfcaaaDoor
open Go.RowKit Palim

theorem info58 : (Tryd.prog.info? 54).map (fun i => (i.zero, i.size, i.bytes)) = some (some (.agg #[.int .i64 0, .int .i64 0]), 2, 16) := by kernel_rfl

/-- append of one pair of sides to a slice of such that is the call's own. -/
theorem wpList_app58 (w : World) {ops : Array Oper} {rest : List Oper} {o : Oper} {a : Act} {Q : Exit → Act → World → Prop} (hgd : o.guard = none) (s x : Operand)
    (ho : o.op = .call { callee := .builtin .append, args := #[s, x], argTypes := #[50, 50] })
    (base : Nat) (v : Value) (l : List (Int × Int)) (hs : a.eval s = v) (hown : w.ownsRow base 54 2 v l.length (encs l))
    (b : Nat) (x1 x2 : Int) (hx : a.eval x = .slice (some ⟨b, 0, none⟩) 1 1) (hc0 : w.cell? ⟨b, 0, none⟩ = some (.int .i64 x1)) (hc1 : w.cell? ⟨b, 1, none⟩ = some (.int .i64 x2))
    (hlen : l.length < 1099511627776) (hbase : base ≤ w.heap.size)
    (h : ∀ v' w', w'.ownsRow base 54 2 v' (l ++ [(x1, x2)]).length (encs (l ++ [(x1, x2)])) → w.grownBy w' v.ownBlock → wpList Tryd.prog ops Q rest (a.put o.dst v') w') : wpList Tryd.prog ops Q (o :: rest) a w := by
  obtain ⟨i0, hi0, hz0, hz1, hz2⟩ := info_parts info58
  refine wpList_append_own w hgd s x 50 ho base 54 i0 (.agg #[.int .i64 0, .int .i64 0]) 2 16 Tryd.underlying50 hi0 hz0 hz1 hz2 rfl (by decide) v l.length (encs l) hs hown ⟨b, 0, none⟩ 1 1 [.int .i64 x1, .int .i64 x2] hx rfl ?_ ?_ ?_ ?_ hbase ?_
  · intro j u hj
    match j, hj with
    | 0, hj => simp at hj; subst hj; simpa [Addr.add] using hc0
    | 1, hj => simp at hj; subst hj; simpa [Addr.add] using hc1
  · intro u hu
    simp at hu
    rcases hu with rfl | rfl <;> rfl
  · unfold maxLen; omega
  · omega
  · intro v' w' k1 k2 _
    refine h v' w' ?_ k2
    rw [encs_append]
    simpa [encs] using k1

/-- A set in memory: a box that holds a slice of its spans' sides. -/
def IsSet (w : World) (v : Value) (l : List (Int × Int)) : Prop :=
  ∃ s sv base, v = .pointer (some ⟨s, 0, none⟩) ∧ s < w.heap.size ∧ w.cell? ⟨s, 0, none⟩ = some sv ∧ w.ownsRow base 54 2 sv l.length (encs l)

theorem IsSet.carry {w w' : World} {v : Value} {l : List (Int × Int)} (h : IsSet w v l) (hb : Below w.heap.size w w') : IsSet w' v l := by
  obtain ⟨s, sv, base, h1, h2, h3, h4⟩ := h
  exact ⟨s, sv, base, h1, Nat.lt_of_lt_of_le h2 hb.size, (hb.cell (p := ⟨s, 0, none⟩) h2).trans h3, ownsRow_carry h4 hb⟩

/-- What is returned is a slice of its own that holds these sides. -/
def GivesS (w : World) (l : List (Int × Int)) (e : Ending) (w' : World) : Prop :=
  ∃ v, e = .returned v ∧ w'.ownsRow w.heap.size 54 2 v l.length (encs l) ∧ Below w.heap.size w w'

set_option maxHeartbeats 1000000 in
theorem set_parts_at (s : Nat) (sv : Value) (w : World) (hc : w.cell? ⟨s, 0, none⟩ = some sv) :
    Calls Tryd.prog 31 #[.pointer (some ⟨s, 0, none⟩)] w fun e w' => e = .returned sv ∧ w' = w := by
  go_enter Tryd.func31, Tryd.ntmps31
  go_wp2
  go_ret
  exact ⟨rfl, rfl⟩

theorem set_parts (v : Value) (l : List (Int × Int)) (w : World) (h : IsSet w v l) :
    Calls Tryd.prog 31 #[v] w fun e w' => ∃ sv base, e = .returned sv ∧ w.ownsRow base 54 2 sv l.length (encs l) ∧ w' = w := by
  obtain ⟨s, sv, base, rfl, _, h3, h4⟩ := h
  exact (set_parts_at s sv w h3).mono fun e w' h => ⟨sv, base, h.1, h4, h.2⟩

set_option maxHeartbeats 1000000 in
theorem set_bounded (v : Value) (l : List (Int × Int)) (w : World) (base : Nat) (hown : w.ownsRow base 54 2 v l.length (encs l)) (hl : l.length ≤ 60) :
    Calls Tryd.prog 28 #[v] w fun e w' => ∃ s, e = .returned (.tuple #[s, .nilIface]) ∧ IsSet w' s l ∧ Below w.heap.size w w' := by
  have hv : ∃ ad cap, v = .slice ad l.length cap := by
    rcases hown.2 with ⟨h0, h1⟩ | ⟨g, cap, _, h0, _⟩
    · exact ⟨none, 0, by rw [h0, h1]⟩
    · exact ⟨_, cap, h0⟩
  obtain ⟨ad, cap, rfl⟩ := hv
  have HO := hide hown
  clear hown
  generalize hn : l.length = n at hl
  go_enter Tryd.func28, Tryd.ntmps28
  go_wp2
  go_ret2
  subst hn
  exact ⟨_, rfl, ⟨w.heap.size, _, base, rfl, by simp, by simp, (unhide HO).alloc _⟩, (Below.refl _ _).alloc (Nat.le_refl _) _⟩

set_option maxHeartbeats 1000000 in
theorem set_bounded_no (v : Value) (l : List (Int × Int)) (w : World) (base : Nat) (hown : w.ownsRow base 54 2 v l.length (encs l)) (hl : 60 < l.length) :
    Calls Tryd.prog 28 #[v] w fun e w' => e = .returned (.tuple #[.pointer none, .iface 23 (.int .i64 4)]) ∧ w' = w := by
  have hv : ∃ ad cap, v = .slice ad l.length cap := by
    rcases hown.2 with ⟨h0, h1⟩ | ⟨g, cap, _, h0, _⟩
    · exact ⟨none, 0, by rw [h0, h1]⟩
    · exact ⟨_, cap, h0⟩
  obtain ⟨ad, cap, rfl⟩ := hv
  clear hown
  generalize hn : l.length = n at hl
  go_enter Tryd.func28, Tryd.ntmps28
  go_wp2
  go_ret2
  exact ⟨rfl, rfl⟩

/-- The i-th of all sides; behind the last one the greatest number. -/
def sideAt (l : List (Int × Int)) (i : Nat) : Int := (sides l).getD i 9223372036854775807

set_option maxHeartbeats 1000000 in
theorem side_out (ad : Option Addr) (n cap i : Nat) (w : World) (hn : n < 1099511627776) (hi : 2 * n ≤ i) :
    Calls Tryd.prog 43 #[.slice ad n cap, .int .i64 i] w fun e w' => e = .returned (.int .i64 9223372036854775807) ∧ w' = w := by
  go_enter Tryd.func43, Tryd.ntmps43
  go_wp2
  go_ret
  exact ⟨rfl, rfl⟩

set_option maxHeartbeats 1000000 in
theorem side_in (g n cap i : Nat) (x : Int) (w : World) (hn : n < 1099511627776) (hi : i < 2 * n) (hc : w.cell? ⟨g, i, none⟩ = some (.int .i64 x)) :
    Calls Tryd.prog 43 #[.slice (some ⟨g, 0, none⟩) n cap, .int .i64 i] w fun e w' => e = .returned (.int .i64 x) ∧ w' = w := by
  rw [show i = i / 2 * 2 + i % 2 by omega] at hc
  go_enter Tryd.func43, Tryd.ntmps43
  go_wp2
  go_ret
  exact ⟨rfl, rfl⟩

theorem encs_side (l : List (Int × Int)) (i : Nat) : (encs l)[i]? = ((sides l)[i]?).map (Value.int .i64) := by
  induction l generalizing i with
  | nil => simp [encs, sides]
  | cons x l ih =>
    match i with
    | 0 => simp [encs, sides]
    | 1 => simp [encs, sides]
    | i + 2 => simpa [encs, sides] using ih i

/-- side, of a slice of sides. -/
theorem set_side (v : Value) (l : List (Int × Int)) (i : Nat) (w : World) (base : Nat) (hl : l.length < 1099511627776) (hown : w.ownsRow base 54 2 v l.length (encs l)) :
    Calls Tryd.prog 43 #[v, .int .i64 i] w fun e w' => e = .returned (.int .i64 (sideAt l i)) ∧ w' = w := by
  by_cases hi : i < 2 * l.length
  · rcases hown.2 with ⟨h0, h1⟩ | ⟨g, cap, _, rfl, _⟩
    · omega
    · have hk : i < (sides l).length := by rw [sides_length]; omega
      have hc := (hown.cellAt i (by omega)).trans (encs_side l i)
      rw [List.getElem?_eq_getElem hk] at hc
      have e : sideAt l i = (sides l)[i] := by simp [sideAt, List.getD, List.getElem?_eq_getElem hk]
      rw [e]
      exact side_in g l.length cap i _ w hl hi hc
  · have e : sideAt l i = 9223372036854775807 := by
      have hk : (sides l).length ≤ i := by rw [sides_length]; omega
      simp [sideAt, List.getD, List.getElem?_eq_none hk]
    rw [e]
    have hv : ∃ ad cap, v = .slice ad l.length cap := by
      rcases hown.2 with ⟨h0, h1⟩ | ⟨g, cap, _, h0, _⟩
      · exact ⟨none, 0, by rw [h0, h1]⟩
      · exact ⟨_, cap, h0⟩
    obtain ⟨ad, cap, rfl⟩ := hv
    exact side_out ad l.length cap i w hl (by omega)

theorem spans_step {w wr wn : World} {B : Nat} {v : Value} {l : List (Int × Int)} {x1 x2 : Int} (hB : B ≤ wr.heap.size) (hb : Below B w wr) (hown : wr.ownsRow B 29 2 v l.length (encs l))
    (hg : ((wr.alloc (.cells #[.int .i64 x1, .int .i64 x2] 54)).alloc (.cells #[.int .i64 x1, .int .i64 x2] 29)).grownBy wn v.ownBlock) : Below B w wn :=
  ((hb.alloc hB _).alloc (by simp; omega) _).grown hg (by simp; omega) (fun k hk => (hown.lt k hk).1)

set_option maxHeartbeats 2000000 in
theorem spans_cells (l : List (Int × Int)) (s g cap : Nat) (w : World) (hl : l.length < 1099511627776) (hg : g < w.heap.size) (hs : w.cell? ⟨s, 0, none⟩ = some (.slice (some ⟨g, 0, none⟩) l.length cap))
    (hc : ∀ k, (hk : k < l.length) → w.cell? ⟨g, k * 2, none⟩ = some (.int .i64 l[k].1) ∧ w.cell? ⟨g, k * 2 + 1, none⟩ = some (.int .i64 l[k].2)) :
    Calls Tryd.prog 10 #[.pointer (some ⟨s, 0, none⟩)] w (Gives w l) := by
  have hP := set_parts_at s _ w hs
  go_enter Tryd.func10, Tryd.ntmps10
  go_wp2_with fail
  refine hP.mono ?_
  rintro e w1 ⟨rfl, hw1⟩
  subst hw1
  clear hP hs
  go_wp2
  go_loopw [3, 9] (fun v i wr => ∃ k : Nat, k ≤ l.length ∧ i = .int .i64 k ∧ wr.ownsRow w1.heap.size 29 2 v (l.take k).length (encs (l.take k)) ∧ Below w1.heap.size w1 wr) (fun _ i _ => l.length - (intOf i).toNat)
  case atStart => exact ⟨0, Nat.zero_le _, rfl, World.ownsRow_nil _ _ _ _, Below.refl _ _⟩
  case round =>
    obtain ⟨k, hk, rfl, hown, hb⟩ := hrel
    by_cases hlt : k < l.length
    · have hc0 := (hb.cell (p := ⟨g, k * 2, none⟩) hg).trans (hc k hlt).1
      have hc1 := (hb.cell (p := ⟨g, k * 2 + 1, none⟩) hg).trans (hc k hlt).2
      have htk : l.take (k + 1) = l.take k ++ [l[k]] := List.take_succ_eq_append_getElem hlt
      have HT : Hid (l.take (k + 1) = l.take k ++ [(l[k].1, l[k].2)]) := htk
      clear hc htk
      generalize l[k].1 = x1 at hc0 HT
      generalize l[k].2 = x2 at hc1 HT
      have hz := hb.size
      have hlk : (l.take k).length < 1099511627776 := by simp; omega
      have HO := hide hown
      have HB := hide hb
      clear hown hb
      have hF1 : ∃ F, F = l.take k := ⟨_, rfl⟩
      obtain ⟨F, hF⟩ := hF1
      rw [← hF] at HO HT hlk
      clear hF
      go_wp2_with (at_builtin; refine wpList_app23 _ rfl (.tmp 13) (.tmp 19) rfl w1.heap.size _ F rfl (((unhide HO).alloc _).alloc _) (wr.heap.size + 1) x1 x2 rfl ?d0 ?d1 hlk ?d3 ?_)
      case d0 => simp
      case d1 => simp
      case d3 => simp; omega
      intro v' wn k1 k2
      have HB2 := hide (spans_step hz (unhide HB) (unhide HO) k2)
      have HO2 : Hid (wn.ownsRow w1.heap.size 29 2 v' (l.take (k + 1)).length (encs (l.take (k + 1)))) := by unfold Hid; rw [HT.out]; simpa using k1
      clear k1 k2
      go_wp2
      go_roundw
      case rel => exact ⟨k + 1, by omega, by go_num, HO2.out, unhide HB2⟩
      case measure => simp [intOf]; omega
    · have hkl : l.take k = l := List.take_of_length_le (by omega)
      rw [hkl] at hown
      have HO := hide hown
      have HB := hide hb
      clear hown hb hc hkl
      go_wp2
      go_ret
      exact ⟨_, rfl, unhide HO, unhide HB⟩

set_option maxHeartbeats 1000000 in
theorem spans_none (s : Nat) (ad : Option Addr) (cap : Nat) (w : World) (hs : w.cell? ⟨s, 0, none⟩ = some (.slice ad 0 cap)) :
    Calls Tryd.prog 10 #[.pointer (some ⟨s, 0, none⟩)] w (Gives w []) := by
  have hP := set_parts_at s _ w hs
  go_enter Tryd.func10, Tryd.ntmps10
  go_wp2_with fail
  refine hP.mono ?_
  rintro e w1 ⟨rfl, hw1⟩
  subst hw1
  clear hP hs
  go_wp2
  refine wp_loop_rounds 1 ?_
  rw [rounds_succ]
  go_wp2
  go_ret
  exact ⟨_, rfl, World.ownsRow_nil _ _ _ _, Below.refl _ _⟩

/-- Spans of a set. -/
theorem set_Spans (v : Value) (l : List (Int × Int)) (w : World) (hl : l.length < 1099511627776) (h : IsSet w v l) : Calls Tryd.prog 10 #[v] w (Gives w l) := by
  obtain ⟨s, sv, base, rfl, _, h3, h4⟩ := h
  rcases ownsRow_view h4 with ⟨rfl, rfl⟩ | ⟨g, cap, rfl, hg, _, _, hc⟩
  · exact spans_none s _ _ w h3
  · exact spans_cells l s g cap w hl hg h3 hc

end Go.Proofs.YtdjajnhiicfcaaaDoor
