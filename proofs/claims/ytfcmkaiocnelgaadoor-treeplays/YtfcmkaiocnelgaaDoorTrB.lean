/- Rows of numbers and rows of spans that are made anew: what may be appended, and what holds meanwhile. -/
import Derived.Test.YtfcmkaiocnelgaaDoorTrS
import Derived.Test.YtfcmkaiocnelgaaDoorTail
import Derived.Deep.AppendLies
import Derived.Laws.OwnMore
namespace Go.Proofs.YtfcmkaiocnelgaaDoor
open Go.RowKit

/-- Numbers that may be appended, wherever they lie. -/
def SrcI (w : World) (v : Value) (l : List Int) : Prop := (v = .slice none 0 0 ∧ l = []) ∨ ∃ b o c, v = .slice (some ⟨b, o, none⟩) l.length c ∧ ∀ j, (h : j < l.length) → w.cell? ⟨b, o + j, none⟩ = some (.int .i64 l[j])

theorem add_at (b o j : Nat) : (⟨b, o, none⟩ : Addr).add j = ⟨b, o + j, none⟩ := by
  unfold Addr.add
  split
  · rename_i e; subst e; rfl
  · rfl

theorem step_appI (w : World) {ops : Array Oper} {o : Oper} {a : Act} {K : Act → World → Prop} {Q : Exit → Act → World → Prop} {E : Prop} (hgd : o.guard = none) (s x : Operand)
    (ho : o.op = .call { callee := .builtin .append, args := #[s, x], argTypes := #[41, 41] })
    (base : Nat) (v u : Value) (l m : List Int) (hs : a.eval s = v) (hown : w.ownsRow base 3 1 v l.length (l.map (Value.int .i64))) (hx : a.eval x = u) (hu : SrcI w u m)
    (hlen : l.length + m.length ≤ 1000000) (hbase : base ≤ w.heap.size)
    (h : ∀ v' w', w'.ownsRow base 3 1 v' (l ++ m).length ((l ++ m).map (Value.int .i64)) → w.grownBy w' v.ownBlock → K (a.put o.dst v') w') :
    if Region.wanted o (yielded ops a.tmps) = true then Oper.wp Tryd.prog o a w K Q else E := by
  have hw : Region.wanted o (yielded ops a.tmps) = true := by simp [Region.wanted, hgd]
  rw [if_pos hw]
  obtain ⟨i0, hi0, hz0, hz1, hz2⟩ := info_parts info_int
  rcases hu with ⟨rfl, rfl⟩ | ⟨b, off, c, rfl, hc⟩
  · have hrun := run_append_owned_none (P := Tryd.prog) (w := w) base 41 o.type 3 i0 1 Tryd.underlying41 hi0 v l.length _ hown
    unfold Oper.wp
    simp [execOp, ho, resolve, invoke, builtin, hs, hx, hrun, Result.andThen]
    refine h _ _ (by simpa using hown) ⟨rfl, rfl, rfl, Nat.le_refl _, fun _ _ _ => rfl⟩
  · refine wp_append_own w s x 41 ho base 3 i0 (.int .i64 0) 1 8 Tryd.underlying41 hi0 hz0 hz1 hz2 rfl (by decide) v l.length (l.map (Value.int .i64)) hs hown ⟨b, off, none⟩ m.length c (m.map (Value.int .i64)) hx (by simp) ?_ ?_ ?_ ?_ hbase ?_
    · intro j y hj
      rw [List.getElem?_map] at hj
      cases e : m[j]? with
      | none => rw [e] at hj; cases hj
      | some p =>
        rw [e] at hj
        obtain rfl := Option.some.inj hj
        obtain ⟨hjl, rfl⟩ := List.getElem?_eq_some_iff.1 e
        rw [add_at]
        exact hc j hjl
    · intro y hy
      obtain ⟨z, _, rfl⟩ := List.mem_map.1 hy
      rfl
    · unfold maxLen; omega
    · omega
    · intro v' w' k1 k2 _
      refine h v' w' ?_ k2
      simpa using k1

/-- The cells of spans. -/
def spanC (l : List Ent) : List Value := l.flatMap fun e => [.int .i64 e.lo, .int .i64 e.hi]
theorem spanC_length : ∀ (l : List Ent), (spanC l).length = l.length * 2
  | [] => rfl
  | e :: l => by
    have := spanC_length l
    simp only [spanC, List.flatMap_cons, List.length_append, List.length_cons, List.length_nil] at this ⊢
    omega
theorem spanC_at : ∀ (l : List Ent) (j : Nat) (h : j < l.length), (spanC l)[j * 2]? = some (.int .i64 l[j].lo) ∧ (spanC l)[j * 2 + 1]? = some (.int .i64 l[j].hi)
  | e :: l, 0, _ => ⟨rfl, rfl⟩
  | e :: l, j + 1, h => by
    have := spanC_at l j (by simpa using h)
    have e1 : (j + 1) * 2 = j * 2 + 1 + 1 := by omega
    rw [e1]
    exact this
theorem spanC_app (l m : List Ent) : spanC (l ++ m) = spanC l ++ spanC m := by simp [spanC]

def SrcE (w : World) (v : Value) (l : List Ent) : Prop := (v = .slice none 0 0 ∧ l = []) ∨ ∃ b o c, v = .slice (some ⟨b, o, none⟩) l.length c ∧ ∀ j, (h : j < l.length) → w.cell? ⟨b, o + j * 2, none⟩ = some (.int .i64 l[j].lo) ∧ w.cell? ⟨b, o + (j * 2 + 1), none⟩ = some (.int .i64 l[j].hi)

theorem info_span : (Tryd.prog.info? 29).map (fun i => (i.zero, i.size, i.bytes)) = some (some (.agg #[.int .i64 0, .int .i64 0]), 2, 16) := by kernel_rfl

theorem step_appE (w : World) {ops : Array Oper} {o : Oper} {a : Act} {K : Act → World → Prop} {Q : Exit → Act → World → Prop} {E : Prop} (hgd : o.guard = none) (s x : Operand)
    (ho : o.op = .call { callee := .builtin .append, args := #[s, x], argTypes := #[22, 22] })
    (base : Nat) (v u : Value) (l m : List Ent) (hs : a.eval s = v) (hown : w.ownsRow base 29 2 v l.length (spanC l)) (hx : a.eval x = u) (hu : SrcE w u m)
    (hlen : l.length + m.length ≤ 1000000) (hbase : base ≤ w.heap.size)
    (h : ∀ v' w', w'.ownsRow base 29 2 v' (l ++ m).length (spanC (l ++ m)) → w.grownBy w' v.ownBlock → K (a.put o.dst v') w') :
    if Region.wanted o (yielded ops a.tmps) = true then Oper.wp Tryd.prog o a w K Q else E := by
  have hw : Region.wanted o (yielded ops a.tmps) = true := by simp [Region.wanted, hgd]
  rw [if_pos hw]
  obtain ⟨i0, hi0, hz0, hz1, hz2⟩ := info_parts info_span
  rcases hu with ⟨rfl, rfl⟩ | ⟨b, off, c, rfl, hc⟩
  · have hrun := run_append_owned_none (P := Tryd.prog) (w := w) base 22 o.type 29 i0 2 Tryd.underlying22 hi0 v l.length _ hown
    unfold Oper.wp
    simp [execOp, ho, resolve, invoke, builtin, hs, hx, hrun, Result.andThen]
    refine h _ _ (by simpa using hown) ⟨rfl, rfl, rfl, Nat.le_refl _, fun _ _ _ => rfl⟩
  · refine wp_append_own w s x 22 ho base 29 i0 (.agg #[.int .i64 0, .int .i64 0]) 2 16 Tryd.underlying22 hi0 hz0 hz1 hz2 rfl (by decide) v l.length (spanC l) hs hown ⟨b, off, none⟩ m.length c (spanC m) hx (spanC_length m) ?_ ?_ ?_ ?_ hbase ?_
    · intro j y hj
      have hjl : j < m.length * 2 := by
        rw [← spanC_length]
        exact (List.getElem?_eq_some_iff.1 hj).1
      obtain ⟨q, rfl | rfl⟩ : ∃ q, j = q * 2 ∨ j = q * 2 + 1 := ⟨j / 2, by omega⟩
      · have hq : q < m.length := by omega
        rw [(spanC_at m q hq).1] at hj
        rw [add_at, ← Option.some.inj hj]
        exact (hc q hq).1
      · have hq : q < m.length := by omega
        rw [(spanC_at m q hq).2] at hj
        rw [add_at, ← Option.some.inj hj]
        exact (hc q hq).2
    · intro y hy
      obtain ⟨e, _, he⟩ := List.mem_flatMap.1 hy
      simp at he
      rcases he with rfl | rfl <;> rfl
    · unfold maxLen; omega
    · omega
    · intro v' w' k1 k2 _
      refine h v' w' ?_ k2
      rw [spanC_app]
      simpa using k1

/-- What holds while a new row is made: a field of the tree is as it was, and all that was there is. -/
def SA (B f : Nat) (v : Value) (W x : World) : Prop := x.cell? ⟨B, f, none⟩ = some v ∧ Below W.heap.size W x

theorem SA.carry {B f : Nat} {v : Value} {W x y : World} (h : SA B f v W x) (hb : Below x.heap.size x y) : SA B f v W y :=
  ⟨(hb.cell (p := ⟨B, f, none⟩) (lt_of_cell h.1)).trans h.1, h.2.trans (hb.mono h.2.size)⟩

theorem SA.grown {B f : Nat} {v : Value} {row : Option Nat} {W x y : World} (h : SA B f v W x) (hB : B < W.heap.size) (hW : ∀ j, row = some j → W.heap.size ≤ j) (hg : x.grownBy y row) : SA B f v W y :=
  ⟨(hg.cell_far ⟨B, f, none⟩ (lt_of_cell h.1) (fun e => by have h1 := hW _ e.symm; have h2 : W.heap.size ≤ B := h1; omega)).trans h.1, h.2.grown hg h.2.size hW⟩

theorem SA.two {B f : Nat} {v : Value} {W x : World} (h : SA B f v W x) : Below W.heap.size W x := h.2

theorem own_nil (w : World) (base b : Nat) (e : TypeId) (size : Nat) (hb : base ≤ b) (h : w.heap[b]? = some (.cells #[] e (0, 0))) : w.ownsRow base e size (.slice (some ⟨b, 0, none⟩) 0 0) 0 [] :=
  ⟨by simp, .inr ⟨b, 0, #[], rfl, hb, h, Nat.le_refl _, Nat.zero_le _, by simp, by simp⟩⟩

theorem src_take {W x : World} {bi ci k : Nat} {l : List Int} (hc : ∀ j, (h : j < l.length) → W.cell? ⟨bi, j, none⟩ = some (.int .i64 l[j])) (hbi : bi < W.heap.size) (hk : k ≤ l.length) (hb : Below W.heap.size W x) : SrcI x (.slice (some ⟨bi, 0, none⟩) k ci) (l.take k) := by
  refine .inr ⟨bi, 0, ci, by simp [Nat.min_eq_left hk], fun j hj => ?_⟩
  have hj' : j < l.length := by simp at hj; omega
  rw [Nat.zero_add, hb.cell (p := ⟨bi, j, none⟩) hbi, hc j hj']
  simp

theorem src_drop {W x : World} {bi ci k n : Nat} {l : List Int} (hn : l.length = n) (hc : ∀ j, (h : j < l.length) → W.cell? ⟨bi, j, none⟩ = some (.int .i64 l[j])) (hbi : bi < W.heap.size) (hk : k ≤ n) (hci : n ≤ ci) (hb : Below W.heap.size W x) :
    SrcI x (.slice (if ci = k then some ⟨bi, 0, none⟩ else some ⟨bi, k, none⟩) (n - k) (ci - k)) (l.drop k) := by
  have hl : (l.drop k).length = n - k := by simp [hn]
  by_cases he : ci = k
  · rw [if_pos he]
    refine .inr ⟨bi, 0, _, by rw [hl], fun j hj => ?_⟩
    rw [hl] at hj
    omega
  · rw [if_neg he]
    refine .inr ⟨bi, k, _, by rw [hl], fun j hj => ?_⟩
    have hj' : k + j < l.length := by rw [hl] at hj; omega
    rw [hb.cell (p := ⟨bi, k + j, none⟩) hbi, hc (k + j) hj']
    simp

theorem src_one {x : World} {c : Nat} {y : Int} (h : x.cell? ⟨c, 0, none⟩ = some (.int .i64 y)) : SrcI x (.slice (some ⟨c, 0, none⟩) 1 1) [y] := by
  refine .inr ⟨c, 0, 1, rfl, fun j hj => ?_⟩
  have : j = 0 := by simp at hj; omega
  subst this
  simpa using h

theorem src_takeE {W x : World} {bs cs k : Nat} {l : List Ent} (hc : ∀ j, (h : j < l.length) → W.cell? ⟨bs, j * 2, none⟩ = some (.int .i64 l[j].lo) ∧ W.cell? ⟨bs, j * 2 + 1, none⟩ = some (.int .i64 l[j].hi)) (hbs : bs < W.heap.size) (hk : k ≤ l.length) (hb : Below W.heap.size W x) : SrcE x (.slice (some ⟨bs, 0, none⟩) k cs) (l.take k) := by
  refine .inr ⟨bs, 0, cs, by simp [Nat.min_eq_left hk], fun j hj => ?_⟩
  have hj' : j < l.length := by simp at hj; omega
  rw [Nat.zero_add, Nat.zero_add, hb.cell (p := ⟨bs, j * 2, none⟩) hbs, hb.cell (p := ⟨bs, j * 2 + 1, none⟩) hbs, (hc j hj').1, (hc j hj').2]
  simp

theorem src_dropE {W x : World} {bs cs k n : Nat} {l : List Ent} (hn : l.length = n) (hc : ∀ j, (h : j < l.length) → W.cell? ⟨bs, j * 2, none⟩ = some (.int .i64 l[j].lo) ∧ W.cell? ⟨bs, j * 2 + 1, none⟩ = some (.int .i64 l[j].hi)) (hbs : bs < W.heap.size) (hk : k ≤ n) (hcs : n ≤ cs) (hb : Below W.heap.size W x) :
    SrcE x (.slice (if cs = k then some ⟨bs, 0, none⟩ else some ⟨bs, k * 2, none⟩) (n - k) (cs - k)) (l.drop k) := by
  have hl : (l.drop k).length = n - k := by simp [hn]
  by_cases he : cs = k
  · rw [if_pos he]
    refine .inr ⟨bs, 0, _, by rw [hl], fun j hj => ?_⟩
    rw [hl] at hj
    omega
  · rw [if_neg he]
    refine .inr ⟨bs, k * 2, _, by rw [hl], fun j hj => ?_⟩
    have hj' : k + j < l.length := by rw [hl] at hj; omega
    have e1 : k * 2 + j * 2 = (k + j) * 2 := by omega
    have e2 : k * 2 + (j * 2 + 1) = (k + j) * 2 + 1 := by omega
    rw [e1, e2, hb.cell (p := ⟨bs, (k + j) * 2, none⟩) hbs, hb.cell (p := ⟨bs, (k + j) * 2 + 1, none⟩) hbs, (hc (k + j) hj').1, (hc (k + j) hj').2]
    simp

theorem src_oneE {x : World} {c : Nat} {e : Ent} (h0 : x.cell? ⟨c, 0, none⟩ = some (.int .i64 e.lo)) (h1 : x.cell? ⟨c, 1, none⟩ = some (.int .i64 e.hi)) : SrcE x (.slice (some ⟨c, 0, none⟩) 1 1) [e] := by
  refine .inr ⟨c, 0, 1, rfl, fun j hj => ?_⟩
  have : j = 0 := by simp at hj; omega
  subst this
  exact ⟨by simpa using h0, by simpa using h1⟩

/-- A row of one's own, read. -/
theorem own_rowI {w : World} {base : Nat} {v : Value} {l : List Int} (h : w.ownsRow base 3 1 v l.length (l.map (Value.int .i64))) (hl : l ≠ [] ∨ v ≠ .slice none 0 0) : ∃ g, base ≤ g ∧ RowI w v g l := by
  obtain ⟨_, h2⟩ := h
  rcases h2 with ⟨h2, h3⟩ | ⟨g, cap, cur, hv, hg, hh, h3, h4, h5, h6⟩
  · rcases hl with hl | hl
    · exact absurd (List.length_eq_zero_iff.1 h3) hl
    · exact absurd h2 hl
  · have hgl : g < w.heap.size := by
      rcases Nat.lt_or_ge g w.heap.size with k | k
      · exact k
      · rw [Array.getElem?_eq_none k] at hh; cases hh
    refine ⟨g, hg, .inr ⟨cap, hv, h3, hgl, fun j hj => ?_⟩⟩
    have hc : cur.toList[j]? = some (.int .i64 l[j]) := by
      rw [← List.getElem?_take_of_lt (show j < l.length * 1 by omega), h6, List.getElem?_map, List.getElem?_eq_getElem hj]; rfl
    unfold World.cell?
    simp only [hh]
    rw [← Array.getElem?_toList]
    exact hc

theorem own_rowS {w : World} {base : Nat} {v : Value} {l : List Ent} (h : w.ownsRow base 29 2 v l.length (spanC l)) (hl : l ≠ [] ∨ v ≠ .slice none 0 0) : ∃ g, base ≤ g ∧ RowS w v g l := by
  obtain ⟨_, h2⟩ := h
  rcases h2 with ⟨h2, h3⟩ | ⟨g, cap, cur, hv, hg, hh, h3, h4, h5, h6⟩
  · rcases hl with hl | hl
    · exact absurd (List.length_eq_zero_iff.1 h3) hl
    · exact absurd h2 hl
  · have hgl : g < w.heap.size := by
      rcases Nat.lt_or_ge g w.heap.size with k | k
      · exact k
      · rw [Array.getElem?_eq_none k] at hh; cases hh
    refine ⟨g, hg, .inr ⟨cap, hv, h3, hgl, fun j hj => ?_⟩⟩
    have hc0 : cur.toList[j * 2]? = some (.int .i64 l[j].lo) := by
      rw [← List.getElem?_take_of_lt (show j * 2 < l.length * 2 by omega), h6]; exact (spanC_at l j hj).1
    have hc1 : cur.toList[j * 2 + 1]? = some (.int .i64 l[j].hi) := by
      rw [← List.getElem?_take_of_lt (show j * 2 + 1 < l.length * 2 by omega), h6]; exact (spanC_at l j hj).2
    unfold World.cell?
    simp only [hh]
    rw [← Array.getElem?_toList, ← Array.getElem?_toList]
    exact ⟨hc0, hc1⟩

end Go.Proofs.YtfcmkaiocnelgaaDoor
