/- Texts of one proof, one behind the other. -/
import Derived.Test.YtfoojmflbifkpaaGreatDoorBk
import Derived.Test.YtfoojmflbifkpaaGreatDoorShelfE
import Derived.Test.YtfoojmflbifkpaaGreatDoorBh
import Derived.Test.YtfoojmflbifkpaaGreatDoorBf
import Derived.Sort.OwnSorted

/- All that was said of a key behind a count: walked. -/
namespace Go.Proofs.YtfoojmflbifkpaaGreatDoor
open Go.RowKit Go.Maps
structure Canon (ps : List (Int × Int × ByteArray)) : Prop where
  right : ∀ p, p ∈ ps → rightB p.1 p.2.1 = true ∧ p.2.2 ≠ ByteArray.empty
  rise : ps.Pairwise (fun a b => a.2.1 ≤ b.1)
  parted : ∀ i, (h : i + 1 < ps.length) → ¬ (ps[i].2.1 = ps[i + 1].1 ∧ ps[i].2.2 = ps[i + 1].2.2)
theorem canon_snoc {M : List (Int × Int × ByteArray)} {x : Int × Int × ByteArray} (h : Canon M) (hx : rightB x.1 x.2.1 = true ∧ x.2.2 ≠ ByteArray.empty) (hr : ∀ p, p ∈ M → p.2.1 ≤ x.1) (hp : ∀ p, M.getLast? = some p → ¬ (p.2.1 = x.1 ∧ p.2.2 = x.2.2)) : Canon (M ++ [x]) := by
  refine ⟨fun p hpm => ?_, ?_, fun i hi => ?_⟩
  · rcases List.mem_append.1 hpm with q | q
    · exact h.right p q
    · rw [List.mem_singleton] at q
      subst q
      exact hx
  · rw [List.pairwise_append]
    refine ⟨h.rise, by simp, fun a ha b hb => ?_⟩
    rw [List.mem_singleton] at hb
    subst hb
    exact hr a ha
  · simp only [List.length_append, List.length_cons, List.length_nil] at hi
    by_cases q : i + 1 < M.length
    · rw [List.getElem_append_left (by omega), List.getElem_append_left q]
      exact h.parted i q
    · have e : i + 1 = M.length := by omega
      rw [List.getElem_append_left (show i < M.length by omega), List.getElem_append_right (by omega)]
      simp only [e, Nat.sub_self, List.getElem_cons_zero]
      refine hp _ ?_
      rw [List.getLast?_eq_getElem?, show M.length - 1 = i by omega, List.getElem?_eq_getElem (by omega)]
end Go.Proofs.YtfoojmflbifkpaaGreatDoor

/- All that was said of a key behind a count: the program's Pieces, walked. -/
namespace Go.Proofs.YtfoojmflbifkpaaGreatDoor
open Go.RowKit Go.Maps
end Go.Proofs.YtfoojmflbifkpaaGreatDoor

/- Texts sorted, each once. -/
namespace Go.Proofs.YtfoojmflbifkpaaGreatDoor
open Go.RowKit Go.Maps
end Go.Proofs.YtfoojmflbifkpaaGreatDoor

/- What a key ever said between two counts: the program's Ever, walked. -/
namespace Go.Proofs.YtfoojmflbifkpaaGreatDoor
open Go.RowKit Go.Maps
def RowS (y : World) (base : Nat) (v : Value) (l : List ByteArray) : Prop := y.ownsRow base 9 1 v l.length (l.map Value.string)
theorem RowS.carry {w w' : World} {base : Nat} {v : Value} {l : List ByteArray} (h : RowS w base v l) (hb : Below w.heap.size w w') : RowS w' base v l := ownsRow_carry h hb
end Go.Proofs.YtfoojmflbifkpaaGreatDoor

/- Small calls of the statements on the past: keys by number, the count, a row of values. -/
namespace Go.Proofs.YtfoojmflbifkpaaGreatDoor
open Go.RowKit Go.Maps
end Go.Proofs.YtfoojmflbifkpaaGreatDoor

/- Pieces that may not be told otherwise: there is one list of them. -/
namespace Go.Proofs.YtfoojmflbifkpaaGreatDoor
end Go.Proofs.YtfoojmflbifkpaaGreatDoor
