/- sort.Ints of a slice of numbers that is the call's own, and Ends, whatever lists of spans it is told. -/
import Derived.Test.YtdjajnhiicfcaaaDoorShelf
import Derived.Test.YtdjajnhiicfcaaaDoorEnds
import Derived.Sort.OwnSortedInts
namespace Go.Proofs.YtdjajnhiicfcaaaDoor
open Go.RowKit

def sorted (zs : List Int) : List Int := zs.mergeSort fun x y => decide (x ≤ y)

theorem sorted_length (zs : List Int) : (sorted zs).length = zs.length := List.length_mergeSort zs

theorem sort_Ints (zs : List Int) (v : Value) (w : World) (base : Nat) (hlen : zs.length < 1099511627776) (hown : w.ownsRow base 3 1 v zs.length (zs.map (Value.int .i64))) :
    Calls Tryd.prog 21 #[v] w fun e w' => e = .returned (.tuple #[]) ∧ w'.ownsRow base 3 1 v (sorted zs).length ((sorted zs).map (Value.int .i64)) ∧ w.grownBy w' v.ownBlock := by
  rcases hown.2 with ⟨rfl, h0⟩ | ⟨g, cap, cur, rfl, hbg, hg, hnc, hcm, hcs, htake⟩
  · have hz : zs = [] := List.eq_nil_of_length_eq_zero h0
    subst hz
    have hcon := Any.sort_Ints_none Tryd.lays191 none 0 w
    change Calls Tryd.prog 21 _ _ _ at hcon
    refine hcon.mono ?_
    rintro e w' ⟨rfl, rfl⟩
    exact ⟨rfl, by simpa [sorted] using hown, ⟨rfl, rfl, rfl, Nat.le_refl _, fun _ _ _ => rfl⟩⟩
  · have hH : Go.Sort.Holds (Value.int .i64) w g 0 zs.toArray := holds_of_blockI hg (by simpa using htake)
    have hcon := Any.sort_Ints Tryd.lays191 g 0 cap zs w hH (Array.getElem?_eq_some_iff.1 hg).1 (by omega)
    change Calls Tryd.prog 21 _ _ _ at hcon
    refine hcon.mono ?_
    rintro e w' ⟨rfl, n, os, rfl⟩
    refine ⟨rfl, ?_, grownBy_sortedI _⟩
    have := ownsRow_sortedI (n := n) (os := os) (ts := sorted zs) (sorted_length zs) hbg hg hnc hcm hcs
    rw [sorted_length]
    exact this

/-- What Ends returns. -/
theorem ref_Ends (L : List (List (Int × Int))) (V : Nat → Value) (bo co base : Nat) (w : World) (hbo : bo < w.heap.size) (hL : L.length < 1099511627776) (hlen : (allSides L).length < 1099511627776)
    (hcell : ∀ i, i < L.length → w.cell? ⟨bo, i, none⟩ = some (V i)) (hV : ∀ i, (hi : i < L.length) → w.ownsRow base 29 2 (V i) L[i].length (encs L[i])) :
    Calls Tryd.prog 13 #[.slice (some ⟨bo, 0, none⟩) L.length co] w fun e w' =>
      ∃ v, e = .returned v ∧ w'.ownsRow w.heap.size 3 1 v (sorted (allSides L)).length ((sorted (allSides L)).map (Value.int .i64)) ∧ Below w.heap.size w w' := by
  refine ends_gather L V bo co base w hbo hL hlen hcell hV _ ?_
  intro v wr hown hb
  refine (sort_Ints _ v wr _ hlen hown).mono ?_
  rintro e w' ⟨rfl, ho, hg⟩
  exact ⟨rfl, v, rfl, ho, hb.grown hg hb.size (fun k hk => (hown.lt k hk).1)⟩

end Go.Proofs.YtdjajnhiicfcaaaDoor
