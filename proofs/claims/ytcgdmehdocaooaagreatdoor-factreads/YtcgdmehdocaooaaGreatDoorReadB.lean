/- Reading changes: what holds while a text is gone through. -/
import Derived.Test.YtcgdmehdocaooaaGreatDoorReadM
namespace Go.Proofs.YtcgdmehdocaooaaGreatDoor
open Go.RowKit Go.Shelf

/-- What the list's box holds while changes come. -/
def RdBox (w : World) (pre : List Txt) (W : World) : Prop :=
  ∃ (L : List Fop) (v : Value), Boxed W (w.heap.size + 1 + 1) 22 v ∧ W.ownsRow w.heap.size 44 7 v L.length (cellsL L) ∧ L.length = pre.length ∧ L.length ≤ 8 ∧ (∀ x, x ∈ L → Small x) ∧ Told pre L

theorem rdBox_own (w : World) : Own (fun pre W => RdBox w pre W) := by
  rintro pre X Y row ⟨L, v, hv, hr, hG⟩ hg hrow
  obtain ⟨u, hu, hur, hux⟩ := holdsRow_own (β := Unit) w.heap.size (w.heap.size + 1 + 1) 22 44 7 (fun _ => L.length) (fun _ => cellsL L) (fun _ u => u = v) () X Y row ⟨v, hv, hr, rfl⟩ hg hrow
  exact ⟨L, u, hu, hur, hG⟩

/-- What holds while changes come. -/
def RdI (w : World) (pre : List Txt) (W : World) : Prop :=
  (Boxed W w.heap.size 22 (.slice none 0 0) ∧ Boxed W (w.heap.size + 1) 27 .nilIface ∧ RdBox w pre W) ∧ Below w.heap.size w W
/-- What holds when it is seen that they are none. -/
def RdX (w : World) (c : Code) (pre : List Txt) (W : World) : Prop :=
  (c = .ret ∧ Boxed W w.heap.size 22 (.slice none 0 0) ∧ Boxed W (w.heap.size + 1) 27 (.iface 23 (.int .i64 3)) ∧ NoneOf pre) ∧ Below w.heap.size w W

theorem boxed_own {W W' : World} {row : Option Nat} {B : Nat} {t : TypeId} {v : Value} (h : Boxed W B t v) (hg : W.grownBy W' row) (hr : ∀ r, row = some r → ∃ o : Obj, W.heap[r]? = some o ∧ o.isCells = false) : Boxed W' B t v := by
  refine h.kept hg (fun e => ?_)
  obtain ⟨o, ho, hc⟩ := hr B e.symm
  rw [show W.heap[B]? = _ from h] at ho
  cases ho
  cases hc

theorem rdI_own (w : World) (B : Nat) (hB : w.heap.size ≤ B) : OwnFrom B (fun pre W => RdI w pre W) :=
  OwnFrom.and (Own.from (fun s A A' row hs hg hr => ⟨boxed_own hs.1 hg hr, boxed_own hs.2.1 hg hr, rdBox_own w s A A' row hs.2.2 hg hr⟩) _) (ownFrom_below (Nat.le_refl _) hB)
theorem rdX_own (w : World) (B : Nat) (hB : w.heap.size ≤ B) (c : Code) : OwnFrom B (fun pre W => RdX w c pre W) :=
  OwnFrom.and (Own.from (fun _ _ _ _ hs hg hr => ⟨hs.1, boxed_own hs.2.1 hg hr, boxed_own hs.2.2.1 hg hr, hs.2.2.2⟩) _) (ownFrom_below (Nat.le_refl _) hB)

theorem Boxed.carry {W W' : World} {B : Nat} {t : TypeId} {v : Value} (h : Boxed W B t v) (hb : Below W.heap.size W W') : Boxed W' B t v := (hb.block B h.lt).trans h

theorem RdI.carry {w : World} {pre : List Txt} {W W' : World} (h : RdI w pre W) (hb : Below W.heap.size W W') : RdI w pre W' := by
  obtain ⟨⟨h0, h1, L, v, hv, hr, hG⟩, hB⟩ := h
  exact ⟨⟨Boxed.carry h0 hb, Boxed.carry h1 hb, L, v, Boxed.carry hv hb, ownsRow_carry hr hb, hG⟩, hB.trans (hb.mono hB.size)⟩

/-- A list's value, written out. -/
theorem row_slice {W : World} {base : Nat} {e : TypeId} {size : Nat} {v : Value} {k : Nat} {xs : List Value} (h : W.ownsRow base e size v k xs) : ∃ ad cap, v = .slice ad k cap := by
  rcases h.2 with ⟨h1, h0⟩ | ⟨g, cap, _, h1, _⟩
  · exact ⟨none, 0, by rw [h1, h0]⟩
  · exact ⟨_, _, h1⟩

/-- It is seen that they are none. -/
theorem RdI.stop {w : World} {pre pre' : List Txt} {W : World} (h : RdI w pre W) (hn : NoneOf pre') :
    RdX w .ret pre' ((W.setCell ⟨w.heap.size, 0, none⟩ (.slice none 0 0)).setCell ⟨w.heap.size + 1, 0, none⟩ (.iface 23 (.int .i64 3))) := by
  obtain ⟨⟨h0, h1, _⟩, hB⟩ := h
  refine ⟨⟨rfl, ?_, ?_, hn⟩, (hB.setCell (p := ⟨w.heap.size, 0, none⟩) (Nat.le_refl _) _).setCell (p := ⟨w.heap.size + 1, 0, none⟩) (by simp) _⟩
  · exact (Boxed.set _ h0).kept (grownBy_setCell' _ _ _) (by simp)
  · exact Boxed.set _ (h1.kept (grownBy_setCell' _ _ _) (by simp))

theorem info_op : (Tryz.prog.info? 44).map (fun i => (i.zero, i.size, i.bytes)) = some (some (opV zeroOp), 7, 72) := by kernel_rfl

/-- append of one change to the call's own list of changes. -/
theorem wpListIn_appO {F : Fence} {n : Nat} (w : World) {ops : Array Oper} {rest : List Oper} {o : Oper} {a : Act} {Q : Exit → Act → World → Prop} (hgd : o.guard = none) (s x : Operand)
    (ho : o.op = .call { callee := .builtin .append, args := #[s, x], argTypes := #[22, 22] })
    (base : Nat) (v : Value) (L : List Fop) (hs : a.eval s = v) (hown : w.ownsRow base 44 7 v L.length (cellsL L))
    (b : Nat) (y : Fop) (hx : a.eval x = .slice (some ⟨b, 0, none⟩) 1 1) (hc0 : ∀ j u, (opCells y)[j]? = some u → w.cell? ⟨b, j, none⟩ = some u)
    (hlen : L.length ≤ 1000) (hbase : base ≤ w.heap.size)
    (h : ∀ v' w', w'.ownsRow base 44 7 v' (L ++ [y]).length (cellsL (L ++ [y])) → w.grownBy w' v.ownBlock → wpListIn F n Tryz.prog ops Q rest (a.put o.dst v') w') : wpListIn F n Tryz.prog ops Q (o :: rest) a w := by
  obtain ⟨i0, hi0, hz0, hz1, hz2⟩ := info_parts info_op
  refine wpListIn_append_own w hgd s x 22 ho base 44 i0 (opV zeroOp) 7 72 Tryz.underlying22 hi0 hz0 hz1 hz2 rfl (by decide) v L.length (cellsL L) hs hown ⟨b, 0, none⟩ 1 1 (opCells y) hx rfl ?_ ?_ ?_ ?_ hbase ?_
  · intro j u hj
    have := hc0 j u hj
    unfold Addr.add
    split
    · rename_i e; rw [e] at this; exact this
    · simpa using this
  · intro u hu
    simp [opCells] at hu
    rcases hu with rfl | rfl | rfl | rfl | rfl | rfl | rfl <;> rfl
  · unfold maxLen; omega
  · omega
  · intro v' w' k1 k2 _
    refine h v' w' ?_ k2
    rw [cellsL_snoc]
    simpa using k1

end Go.Proofs.YtcgdmehdocaooaaGreatDoor
