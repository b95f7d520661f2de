/- What the document's tree is asked: walked. -/
import Derived.Test.YtfcmkaiocnelgaaTrM
import Derived.Test.YtfcmkaiocnelgaaRights
import Derived.Laws.AppendOwn
namespace Go.Proofs.Ytfcmkaiocnelgaa
open Go.RowKit

theorem info_int : (Try.prog.info? 3).map (fun i => (i.zero, i.size, i.bytes)) = some (some (.int .i64 0), 1, 8) := by kernel_rfl

/-- append of one number to a slice of numbers that is the call's own. -/
theorem wpList_appI (w : World) {ops : Array Oper} {rest : List Oper} {o : Oper} {a : Act} {Q : Exit → Act → World → Prop} (hgd : o.guard = none) (s x : Operand)
    (ho : o.op = .call { callee := .builtin .append, args := #[s, x], argTypes := #[28, 28] })
    (base : Nat) (v : Value) (l : List Int) (hs : a.eval s = v) (hown : w.ownsRow base 3 1 v l.length (l.map (Value.int .i64)))
    (b : Nat) (y : Int) (hx : a.eval x = .slice (some ⟨b, 0, none⟩) 1 1) (hc0 : w.cell? ⟨b, 0, none⟩ = some (.int .i64 y))
    (hlen : l.length < 1099511627776) (hbase : base ≤ w.heap.size)
    (h : ∀ v' w', w'.ownsRow base 3 1 v' (l ++ [y]).length ((l ++ [y]).map (Value.int .i64)) → w.grownBy w' v.ownBlock → wpList Try.prog ops Q rest (a.put o.dst v') w') : wpList Try.prog ops Q (o :: rest) a w := by
  obtain ⟨i0, hi0, hz0, hz1, hz2⟩ := info_parts info_int
  refine wpList_append_own w hgd s x 28 ho base 3 i0 (.int .i64 0) 1 8 Try.underlying28 hi0 hz0 hz1 hz2 rfl (by decide) v l.length (l.map (Value.int .i64)) hs hown ⟨b, 0, none⟩ 1 1 [.int .i64 y] hx rfl ?_ ?_ ?_ ?_ hbase ?_
  · intro j u hj
    match j, hj with
    | 0, hj => simp at hj; subst hj; simpa [Addr.add] using hc0
  · intro u hu
    simp at hu
    subst hu; rfl
  · unfold maxLen; omega
  · omega
  · intro v' w' k1 k2 _
    refine h v' w' ?_ k2
    simpa using k1

theorem append_stepI {w wr w2 wn : World} {B n : Nat} {v : Value} {l : List Int} {y : Int} {t : TypeId} (hB : B ≤ wr.heap.size) (hb : Below B w wr) (b2 : Below n wr w2) (hn : B ≤ n) (hown : wr.ownsRow B 3 1 v l.length (l.map (Value.int .i64)))
    (hg : (w2.alloc (.cells #[.int .i64 y] t)).grownBy wn v.ownBlock) : Below B w wn :=
  ((hb.trans (b2.mono hn)).alloc (Nat.le_trans hB b2.size) _).grown hg (by have := b2.size; simp; omega) (fun k hk => (hown.lt k hk).1)

/-- Numbers that a call hands back in a row of its own. -/
def GivesI (l : List Int) (w : World) (e : Ending) (w' : World) : Prop := ∃ v, e = .returned v ∧ w'.ownsRow w.heap.size 3 1 v l.length (l.map (Value.int .i64)) ∧ Below w.heap.size w w'

end Go.Proofs.Ytfcmkaiocnelgaa
