/- Texts of one proof, one behind the other. -/
import Derived.Test.YtfoojmflbifkpaaGreatDoorShelfN
import Derived.Test.YtfoojmflbifkpaaGreatDoorBi
import Derived.Test.YtfoojmflbifkpaaGreatDoorBl
import Derived.Test.YtfoojmflbifkpaaGreatDoorBy
import Derived.Test.YtfoojmflbifkpaaGreatDoorBx
import Derived.Sort.OwnSortedInts

/- The document's Ends: all ends of lists of spans, sorted: walked; sort.Ints, sort.Strings of a row of one's own. -/
namespace Go.Proofs.YtfoojmflbifkpaaGreatDoor
open Go.RowKit
def sides : List (Int × Int) → List Int
  | [] => []
  | x :: l => x.1 :: x.2 :: sides l
def sorted (zs : List Int) : List Int := zs.mergeSort fun x y => decide (x ≤ y)
theorem sorted_length (zs : List Int) : (sorted zs).length = zs.length := List.length_mergeSort zs
theorem sort_Ints (zs : List Int) (v : Value) (w : World) (base : Nat) (hlen : zs.length < 1099511627776) (hown : w.ownsRow base 3 1 v zs.length (zs.map (Value.int .i64))) :
    Calls Tryz.prog 70 #[v] w fun e w' => e = .returned (.tuple #[]) ∧ w'.ownsRow base 3 1 v (sorted zs).length ((sorted zs).map (Value.int .i64)) ∧ w.grownBy w' v.ownBlock := by
  rcases hown.2 with ⟨rfl, h0⟩ | ⟨g, cap, cur, rfl, hbg, hg, hnc, hcm, hcs, htake⟩
  · have hz : zs = [] := List.eq_nil_of_length_eq_zero h0
    subst hz
    have hcon := Any.sort_Ints_none Tryz.lays191 none 0 w
    change Calls Tryz.prog 70 _ _ _ at hcon
    refine hcon.mono ?_
    rintro e w' ⟨rfl, rfl⟩
    exact ⟨rfl, by simpa [sorted] using hown, ⟨rfl, rfl, rfl, Nat.le_refl _, fun _ _ _ => rfl⟩⟩
  · have hH : Go.Sort.Holds (Value.int .i64) w g 0 zs.toArray := holds_of_blockI hg (by simpa using htake)
    have hcon := Any.sort_Ints Tryz.lays191 g 0 cap zs w hH (Array.getElem?_eq_some_iff.1 hg).1 (by omega)
    change Calls Tryz.prog 70 _ _ _ at hcon
    refine hcon.mono ?_
    rintro e w' ⟨rfl, n, os, rfl⟩
    refine ⟨rfl, ?_, grownBy_sortedI _⟩
    have := ownsRow_sortedI (n := n) (os := os) (ts := sorted zs) (sorted_length zs) hbg hg hnc hcm hcs
    rw [sorted_length]
    exact this
end Go.Proofs.YtfoojmflbifkpaaGreatDoor

/- The document's Past: all ends of what is said of a key: walked. -/
namespace Go.Proofs.YtfoojmflbifkpaaGreatDoor
open Go.RowKit Go.Maps
def TxsIn (w : World) (ad : Option Addr) (txs : List (List Fop)) : Prop :=
  ∀ j, (hj : j < txs.length) → ∃ b o g f cap, ad = some ⟨b, o, none⟩ ∧ w.cell? ⟨b, o + j, none⟩ = some (.slice (some ⟨g, f, none⟩) (txs[j]).length cap) ∧ OpsAt w g f txs[j] ∧ txs[j].length ≤ 8
theorem TxsIn.carry {w w' : World} {ad : Option Addr} {txs : List (List Fop)} (h : TxsIn w ad txs) (hb : Below w.heap.size w w') : TxsIn w' ad txs := fun j hj => by
  obtain ⟨b, o, g, f, cap, h0, h1, h2, h3⟩ := h j hj
  exact ⟨b, o, g, f, cap, h0, there_yet h1 hb, h2.carry hb, h3⟩
theorem RefP.txs {w : World} {R : Nat} {txs : List (List Fop)} {known : Int} (h : RefP w R txs known) : ∃ ad cap, w.cell? ⟨R, 0, none⟩ = some (.slice ad txs.length cap) ∧ TxsIn w ad txs := by
  rcases h.c0 with ⟨rfl, c⟩ | ⟨b, o, cap, c, _, ht⟩
  · exact ⟨_, _, c, fun j hj => absurd hj (Nat.not_lt_zero _)⟩
  · refine ⟨_, _, c, fun j hj => ?_⟩
    obtain ⟨g, f, cp, h1, h2, h3⟩ := ht j hj
    exact ⟨b, o, g, f, cp, rfl, h1, h2, h3⟩
theorem not_same {o : Fop} {k : Ky} (h : ¬ kyO o = k) : sameK (kyO o) k = false := by
  cases e : sameK (kyO o) k with
  | false => rfl
  | true => exact absurd (sameK_iff.1 e) h
def RowE (y : World) (base : Nat) (v : Value) (l : List (Int × Int)) : Prop := y.ownsRow base 34 2 v l.length (encs l)
theorem RowE.carry {w w' : World} {base : Nat} {v : Value} {l : List (Int × Int)} (h : RowE w base v l) (hb : Below w.heap.size w w') : RowE w' base v l := ownsRow_carry h hb
end Go.Proofs.YtfoojmflbifkpaaGreatDoor

/- The document's Pieces: walked. -/
namespace Go.Proofs.YtfoojmflbifkpaaGreatDoor
open Go.RowKit Go.Maps
end Go.Proofs.YtfoojmflbifkpaaGreatDoor

/- The document's Pieces, where it tells: walked. -/
namespace Go.Proofs.YtfoojmflbifkpaaGreatDoor
open Go.RowKit Go.Maps
theorem toList_ne {a b : ByteArray} (h : a ≠ b) : (a.toList == b.toList) = false := by
  rw [beq_eq_false_iff_ne]
  intro e
  rw [ByteArray.toList_eq, ByteArray.toList_eq] at e
  exact h (ByteArray.ext (Array.toList_inj.1 e))
end Go.Proofs.YtfoojmflbifkpaaGreatDoor
