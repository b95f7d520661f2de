/- Slices of spans that the program makes: what they hold, and what append makes of them. -/
import Derived.Test.YtdjajnhiicfcaaaDoorLeaf
namespace Go.Proofs.YtdjajnhiicfcaaaDoor
open Go.RowKit

/-- The cells of spans. -/
def encs : List (Int × Int) → List Value
  | [] => []
  | x :: l => .int .i64 x.1 :: .int .i64 x.2 :: encs l

theorem encs_length (l : List (Int × Int)) : (encs l).length = l.length * 2 := by
  induction l with
  | nil => rfl
  | cons x l ih => simp [encs, ih]; omega

theorem encs_append (l m : List (Int × Int)) : encs (l ++ m) = encs l ++ encs m := by
  induction l with
  | nil => rfl
  | cons x l ih => simp [encs, ih]

theorem encs_oneCell (l : List (Int × Int)) : ∀ u ∈ encs l, u.oneCell' = true := by
  induction l with
  | nil => intro u hu; simp [encs] at hu
  | cons x l ih =>
    intro u hu
    simp only [encs, List.mem_cons] at hu
    rcases hu with rfl | rfl | hu
    · rfl
    · rfl
    · exact ih u hu

theorem info23 : (Tryd.prog.info? 29).map (fun i => (i.zero, i.size, i.bytes)) = some (some (.agg #[.int .i64 0, .int .i64 0]), 2, 16) := by kernel_rfl

/-- What was owned is owned behind whatever leaves all that there was. -/
theorem ownsRow_carry {w w' : World} {base : Nat} {e : TypeId} {size : Nat} {v : Value} {n : Nat} {xs : List Value} (h : w.ownsRow base e size v n xs) (hb : Below w.heap.size w w') : w'.ownsRow base e size v n xs := by
  obtain ⟨h1, h2⟩ := h
  refine ⟨h1, ?_⟩
  rcases h2 with h2 | ⟨g, cap, cur, hv, hg, hh, r⟩
  · exact .inl h2
  · refine .inr ⟨g, cap, cur, hv, hg, ?_, r⟩
    rw [hb.block g]
    · exact hh
    · rcases Nat.lt_or_ge g w.heap.size with k | k
      · exact k
      · rw [Array.getElem?_eq_none k] at hh; cases hh

theorem ownsRow_rebase {w : World} {base base' : Nat} {e : TypeId} {size : Nat} {v : Value} {n : Nat} {xs : List Value} (h : w.ownsRow base e size v n xs) (hb : base' ≤ base) : w.ownsRow base' e size v n xs := by
  obtain ⟨h1, h2⟩ := h
  refine ⟨h1, ?_⟩
  rcases h2 with h2 | ⟨g, cap, cur, hv, hg, r⟩
  · exact .inl h2
  · exact .inr ⟨g, cap, cur, hv, by omega, r⟩

theorem ownsRow_one (w : World) (base n : Nat) (x1 x2 : Int) (hb : base ≤ w.heap.size) (hn : n = w.heap.size) :
    (w.alloc (.cells #[.int .i64 x1, .int .i64 x2] 29)).ownsRow base 29 2 (.slice (some ⟨n, 0, none⟩) 1 1) 1 (encs [(x1, x2)]) := by
  subst hn
  exact World.ownsRow_lit (base := base) (e := 29) (size := 2) w #[.int .i64 x1, .int .i64 x2] 1 hb (by decide) rfl

/-- What is returned is a slice of its own that holds these spans; nothing that lay before is turned. -/
def Gives (w : World) (l : List (Int × Int)) (e : Ending) (w' : World) : Prop :=
  ∃ v, e = .returned v ∧ w'.ownsRow w.heap.size 29 2 v l.length (encs l) ∧ Below w.heap.size w w'

/-- Nothing old is written where the slice was nil. -/
theorem below_grown_none {w w' : World} (h : w.grownBy w' none) : Below w.heap.size w w' :=
  ⟨h.os, h.tape, h.output, h.size, fun k hk => h.block k hk (by simp)⟩

/-- append of one span to a slice of spans that is the call's own. -/
theorem wpList_app23 (w : World) {ops : Array Oper} {rest : List Oper} {o : Oper} {a : Act} {Q : Exit → Act → World → Prop} (hgd : o.guard = none) (s x : Operand)
    (ho : o.op = .call { callee := .builtin .append, args := #[s, x], argTypes := #[22, 22] })
    (base : Nat) (v : Value) (l : List (Int × Int)) (hs : a.eval s = v) (hown : w.ownsRow base 29 2 v l.length (encs l))
    (b : Nat) (x1 x2 : Int) (hx : a.eval x = .slice (some ⟨b, 0, none⟩) 1 1) (hc0 : w.cell? ⟨b, 0, none⟩ = some (.int .i64 x1)) (hc1 : w.cell? ⟨b, 1, none⟩ = some (.int .i64 x2))
    (hlen : l.length < 1099511627776) (hbase : base ≤ w.heap.size)
    (h : ∀ v' w', w'.ownsRow base 29 2 v' (l ++ [(x1, x2)]).length (encs (l ++ [(x1, x2)])) → w.grownBy w' v.ownBlock → wpList Tryd.prog ops Q rest (a.put o.dst v') w') : wpList Tryd.prog ops Q (o :: rest) a w := by
  obtain ⟨i0, hi0, hz0, hz1, hz2⟩ := info_parts info23
  refine wpList_append_own w hgd s x 22 ho base 29 i0 (.agg #[.int .i64 0, .int .i64 0]) 2 16 Tryd.underlying22 hi0 hz0 hz1 hz2 rfl (by decide) v l.length (encs l) hs hown ⟨b, 0, none⟩ 1 1 [.int .i64 x1, .int .i64 x2] hx rfl ?_ ?_ ?_ ?_ hbase ?_
  · intro j u hj
    match j, hj with
    | 0, hj => simp at hj; subst hj; simpa [Addr.add] using hc0
    | 1, hj => simp at hj; subst hj; simpa [Addr.add] using hc1
  · intro u hu
    simp at hu
    rcases hu with rfl | rfl <;> rfl
  · unfold maxLen; omega
  · omega
  · intro v' w' k1 k2 _
    refine h v' w' ?_ k2
    rw [encs_append]
    simpa [encs] using k1

end Go.Proofs.YtdjajnhiicfcaaaDoor
