/- Texts of one proof, one behind the other. -/
import Derived.Test.YtfoojmflbifkpaaGreatDoorShelfN
import Derived.Test.YtfoojmflbifkpaaGreatDoorEi
import Derived.Test.YtfoojmflbifkpaaGreatDoorEl
import Derived.Test.YtfoojmflbifkpaaGreatDoorEy
import Derived.Test.YtfoojmflbifkpaaGreatDoorEx
import Derived.Sort.OwnSortedInts
import Derived.LoopN
set_option maxRecDepth 100000
set_option maxHeartbeats 16000000
namespace Go.Proofs.YtfoojmflbifkpaaGreatDoor
open Go.RowKit
theorem spans_view {w : World} {base : Nat} {e : TypeId} {v : Value} {l : List (Int × Int)} (h : w.ownsRow base e 2 v l.length (encs l)) :
  (v = .slice none 0 0 /\ l = []) \/ ∃ g cap, v = .slice (some ⟨g, 0, none⟩) l.length cap /\ g < w.heap.size /\ l.length <= cap /\ cap <= maxLen /\
   (∀ k, (hk : k < l.length) -> w.cell? ⟨g, k * 2, none⟩ = some (.int .i64 l[k].1) /\ w.cell? ⟨g, k * 2 + 1, none⟩ = some (.int .i64 l[k].2)) := by
 rcases h.2 with ⟨h1, h2⟩ | ⟨g, cap, cur, hv, hb, hg, hn, hm, hc, ht⟩
 ·exact .inl ⟨h1, List.eq_nil_of_length_eq_zero h2⟩
 ·refine .inr ⟨g, cap, hv, ?_, hn, hm, ?_⟩
  ·rcases Nat.lt_or_ge g w.heap.size with k | k
   ·exact k
   ·rw [Array.getElem?_eq_none k] at hg; cases hg
  ·have hen : ∀ (m : List (Int × Int)) k, (hk : k < m.length) -> (encs m)[k * 2]? = some (.int .i64 m[k].1) /\ (encs m)[k * 2 + 1]? = some (.int .i64 m[k].2) := by
    intro m
    induction m with
    | nil => intro k hk; simp at hk
    | cons x m ih =>
     intro k hk
     cases k with
     | zero => simp [encs]
     | succ k =>
      have := ih k (by simpa using hk)
      rw [show (k + 1) * 2 = k * 2 + 2 by omega]
      simpa [encs] using this
   intro k hk
   subst hv
   have e := hen l k hk
   exact ⟨(h.cellAt (k * 2) (by omega)).trans e.1, (h.cellAt (k * 2 + 1) (by omega)).trans e.2⟩
def sides : List (Int × Int) -> List Int
 | [] => []
 | x :: l => x.1 :: x.2 :: sides l
def allSides : List (List (Int × Int)) -> List Int
 | [] => []
 | l :: L => sides l ++ allSides L
theorem sides_append (l m : List (Int × Int)) : sides (l ++ m) = sides l ++ sides m := by
 induction l with
 | nil => rfl
 | cons x l ih => simp [sides, ih]
theorem sides_length (l : List (Int × Int)) : (sides l).length = l.length * 2 := by
 induction l with
 | nil => rfl
 | cons x l ih => simp [sides, ih]; omega
theorem allSides_append (L M : List (List (Int × Int))) : allSides (L ++ M) = allSides L ++ allSides M := by
 induction L with
 | nil => rfl
 | cons x L ih => simp [allSides, ih]
theorem allSides_take (L : List (List (Int × Int))) (k : Nat) (h : k < L.length) : allSides (L.take (k + 1)) = allSides (L.take k) ++ sides L[k] := by
 rw [List.take_succ_eq_append_getElem h, allSides_append]
 simp [allSides]
theorem sides_take (l : List (Int × Int)) (k : Nat) (h : k < l.length) : sides (l.take (k + 1)) = sides (l.take k) ++ [l[k].1, l[k].2] := by
 rw [List.take_succ_eq_append_getElem h, sides_append]
 simp [sides]
theorem allSides_le (L : List (List (Int × Int))) (k : Nat) : (allSides (L.take k)).length <= (allSides L).length := by
 have : allSides L = allSides (L.take k) ++ allSides (L.drop k) := by rw [<- allSides_append, List.take_append_drop]
 rw [this]; simp
theorem info3 : (Tryz.prog.info? 3).map (fun i => (i.zero, i.size, i.bytes)) = some (some (.int .i64 0), 1, 8) := by kernel_rfl
theorem wpList_app3 (w : World) {ops : Array Oper} {rest : List Oper} {o : Oper} {a : Act} {Q : Exit -> Act -> World -> Prop} (hgd : o.guard = none) (s x : Operand)
  (ho : o.op = .call { callee := .builtin .append, args := #[s, x], argTypes := #[68, 68] })
  (base : Nat) (v : Value) (l : List Int) (hs : a.eval s = v) (hown : w.ownsRow base 3 1 v l.length (l.map (Value.int .i64)))
  (b : Nat) (x1 x2 : Int) (hx : a.eval x = .slice (some ⟨b, 0, none⟩) 2 2) (hc0 : w.cell? ⟨b, 0, none⟩ = some (.int .i64 x1)) (hc1 : w.cell? ⟨b, 1, none⟩ = some (.int .i64 x2))
  (hlen : l.length < 1099511627776) (hbase : base <= w.heap.size)
  (h : ∀ v' w', w'.ownsRow base 3 1 v' (l ++ [x1, x2]).length ((l ++ [x1, x2]).map (Value.int .i64)) -> w.grownBy w' v.ownBlock -> wpList Tryz.prog ops Q rest (a.put o.dst v') w') : wpList Tryz.prog ops Q (o :: rest) a w := by
 obtain ⟨i0, hi0, hz0, hz1, hz2⟩ := info_parts info3
 refine wpList_append_own w hgd s x 68 ho base 3 i0 (.int .i64 0) 1 8 Tryz.underlying68 hi0 hz0 hz1 hz2 rfl (by decide) v l.length (l.map (Value.int .i64)) hs hown ⟨b, 0, none⟩ 2 2 [.int .i64 x1, .int .i64 x2] hx rfl ?_ ?_ ?_ ?_ hbase ?_
 ·intro j u hj
  match j, hj with
  | 0, hj => simp at hj; subst hj; simpa [Addr.add] using hc0
  | 1, hj => simp at hj; subst hj; simpa [Addr.add] using hc1
 ·intro u hu
  simp at hu
  rcases hu with rfl | rfl <;> rfl
 ·unfold maxLen; omega
 ·omega
 ·intro v' w' k1 k2 _
  refine h v' w' ?_ k2
  simpa using k1
theorem ends_step {w wr wn : World} {B : Nat} {v : Value} {l : List Int} {x1 x2 : Int} (hB : B <= wr.heap.size) (hb : Below B w wr) (hown : wr.ownsRow B 3 1 v l.length (l.map (Value.int .i64)))
  (hg : ((wr.alloc (.cells #[.int .i64 x1, .int .i64 x2] 34)).alloc (.cells #[.int .i64 x1, .int .i64 x2] 3)).grownBy wn v.ownBlock) : Below B w wn :=
 ((hb.alloc hB _).alloc (by simp; omega) _).grown hg (by simp; omega) (fun k hk => (hown.lt k hk).1)
theorem ends_gather (L : List (List (Int × Int))) (V : Nat -> Value) (bo co base : Nat) (w : World) (hbo : bo < w.heap.size) (hL : L.length < 1099511627776) (hlen : (allSides L).length < 1099511627776)
  (hcell : ∀ i, i < L.length -> w.cell? ⟨bo, i, none⟩ = some (V i)) (hV : ∀ i, (hi : i < L.length) -> w.ownsRow base 34 2 (V i) L[i].length (encs L[i]))
  (post : Ending -> World -> Prop)
  (hS : ∀ v wr, wr.ownsRow w.heap.size 3 1 v (allSides L).length ((allSides L).map (Value.int .i64)) -> Below w.heap.size w wr -> Calls Tryz.prog 70 #[v] wr fun e w' => e = .returned (.tuple #[]) /\ post (.returned v) w') :
  Calls Tryz.prog 146 #[.slice (some ⟨bo, 0, none⟩) L.length co] w post := by
 generalize hm : L.length = m at hL
 go_enter Tryz.func146, Tryz.ntmps146
 go_wp2
 go_loopw [3, 10] (fun v i wr => ∃ k : Nat, k <= m /\ i = .int .i64 k /\ wr.ownsRow w.heap.size 3 1 v (allSides (L.take k)).length ((allSides (L.take k)).map (Value.int .i64)) /\ Below w.heap.size w wr) (fun _ i _ => m - (intOf i).toNat)
 case atStart => exact ⟨0, Nat.zero_le _, rfl, World.ownsRow_nil _ _ _ _, Below.refl _ _⟩
 case round =>
  obtain ⟨k, hk, rfl, hown, hb⟩ := hrel
  by_cases hlt : k < m
  ·have hkL : k < L.length := by omega
   have hcx : wr.cell? ⟨bo, k, none⟩ = some (V k) := (hb.cell (p := ⟨bo, k, none⟩) hbo).trans (hcell k hkL)
   have hVk := hV k hkL
   have hz := hb.size
   have hall := allSides_take L k hkL
   have hle := allSides_le L (k + 1)
   rw [hall, List.length_append, sides_length] at hle
   have HALL : Hid (allSides (L.take (k + 1)) = allSides (L.take k) ++ sides L[k]) := hall
   clear hall
   generalize L[k] = l at hVk hle HALL
   generalize allSides (L.take k) = G at hown hle HALL
   rcases spans_view hVk with ⟨hv, hl⟩ | ⟨g, cap, hv, hg, _, _, hc⟩
   ·rw [hv] at hcx
    subst hl
    have HO : Hid (wr.ownsRow w.heap.size 3 1 u3 G.length (G.map (Value.int .i64))) := hown
    have HB : Hid (Below w.heap.size w wr) := hb
    clear hown hb hv hVk hcell hV
    go_wp2
    refine wp_loop_rounds 1 ?_
    rw [rounds_succ]
    go_wp2
    go_roundw
    case rel => exact ⟨k + 1, by omega, by go_num, by rw [HALL.out]; simpa [sides] using HO.out, HB.out⟩
    case measure => simp [intOf]; omega
   ·rw [hv] at hcx
    have HO : Hid (wr.ownsRow w.heap.size 3 1 u3 G.length (G.map (Value.int .i64))) := hown
    have HB : Hid (Below w.heap.size w wr) := hb
    clear hown hb hv hVk hcell hV
    go_wp2
    go_loopw [3, 16] (fun v i wx => ∃ j : Nat, j <= l.length /\ i = .int .i64 j /\ wx.ownsRow w.heap.size 3 1 v (G ++ sides (l.take j)).length ((G ++ sides (l.take j)).map (Value.int .i64)) /\ Below w.heap.size w wx) (fun _ i _ => l.length - (intOf i).toNat)
    case atStart => exact ⟨0, Nat.zero_le _, rfl, by simpa [sides] using HO.out, HB.out⟩
    case round =>
     obtain ⟨j, hj, rfl, hownj, hbj⟩ := hrel
     by_cases hjl : j < l.length
     ·have hc0 := (hbj.cell (p := ⟨g, j * 2, none⟩) hg).trans (hc j hjl).1
      have hc1 := (hbj.cell (p := ⟨g, j * 2 + 1, none⟩) hg).trans (hc j hjl).2
      have hst := sides_take l j hjl
      have hsl : (sides (l.take j)).length <= l.length * 2 := by rw [sides_length]; simp; omega
      have HST : Hid (sides (l.take (j + 1)) = sides (l.take j) ++ [l[j].1, l[j].2]) := hst
      clear hst hc
      generalize l[j].1 = x1 at hc0 HST
      generalize l[j].2 = x2 at hc1 HST
      have hzj := hbj.size
      have HOJ : Hid (wr.ownsRow w.heap.size 3 1 u3 (G ++ sides (l.take j)).length ((G ++ sides (l.take j)).map (Value.int .i64))) := hownj
      have HBJ : Hid (Below w.heap.size w wr) := hbj
      clear hownj hbj
      have hgl : (G ++ sides (l.take j)).length < 1099511627776 := by simp only [List.length_append]; omega
      have hF1 : ∃ F, F = G ++ sides (l.take j) := ⟨_, rfl⟩
      obtain ⟨F, hF⟩ := hF1
      have HJJ : Hid (G ++ sides (l.take (j + 1)) = F ++ [x1, x2]) := by rw [HST.out, hF, List.append_assoc]; rfl
      rw [<- hF] at HOJ hgl
      clear hF
      go_wp2_with (at_builtin; refine wpList_app3 _ rfl (.tmp 20) (.tmp 25) rfl w.heap.size _ F rfl ((HOJ.out.alloc _).alloc _) (wr.heap.size + 1) x1 x2 rfl ?d0 ?d1 hgl ?d3 ?_)
      case d0 => simp
      case d1 => simp
      case d3 => simp; omega
      intro v' wn k1 k2
      have HBN : Hid (Below w.heap.size w wn) := ends_step hzj HBJ.out HOJ.out k2
      have HON : Hid (wn.ownsRow w.heap.size 3 1 v' (F ++ [x1, x2]).length ((F ++ [x1, x2]).map (Value.int .i64))) := by unfold Hid; simpa using k1
      clear k1 k2
      go_wp2
      refine ⟨⟨j + 1, by omega, by go_num, ?_, HBN.out⟩, by simp [intOf]; omega⟩
      rw [HJJ.out]; exact HON.out
     ·have hjl2 : j = l.length := by omega
      have HO2 : Hid (wr.ownsRow w.heap.size 3 1 u3 (G ++ sides l).length ((G ++ sides l).map (Value.int .i64))) := by
       subst hjl2; unfold Hid; simpa using hownj
      have HB2 : Hid (Below w.heap.size w wr) := hbj
      clear hownj hbj hjl2 hc
      go_wp2
      go_roundw
      case rel => exact ⟨k + 1, by omega, by go_num, by rw [HALL.out]; exact HO2.out, HB2.out⟩
      case measure => simp [intOf]; omega
  ·have hkm : L.take k = L := List.take_of_length_le (by omega)
   rw [hkm] at hown
   have hS2 := hS u3 wr hown hb
   clear hS hcell hV hkm hown hb
   go_wp2_with fail
   refine hS2.mono ?_
   rintro e w' ⟨rfl, hp⟩
   go_wp2
   exact hp
def sorted (zs : List Int) : List Int := zs.mergeSort fun x y => decide (x <= y)
theorem sorted_length (zs : List Int) : (sorted zs).length = zs.length := List.length_mergeSort zs
theorem sort_Ints (zs : List Int) (v : Value) (w : World) (base : Nat) (hlen : zs.length < 1099511627776) (hown : w.ownsRow base 3 1 v zs.length (zs.map (Value.int .i64))) :
  Calls Tryz.prog 70 #[v] w fun e w' => e = .returned (.tuple #[]) /\ w'.ownsRow base 3 1 v (sorted zs).length ((sorted zs).map (Value.int .i64)) /\ w.grownBy w' v.ownBlock := by
 rcases hown.2 with ⟨rfl, h0⟩ | ⟨g, cap, cur, rfl, hbg, hg, hnc, hcm, hcs, htake⟩
 ·have hz : zs = [] := List.eq_nil_of_length_eq_zero h0
  subst hz
  have hcon := Any.sort_Ints_none Tryz.lays191 none 0 w
  change Calls Tryz.prog 70 _ _ _ at hcon
  refine hcon.mono ?_
  rintro e w' ⟨rfl, rfl⟩
  exact ⟨rfl, by simpa [sorted] using hown, ⟨rfl, rfl, rfl, Nat.le_refl _, fun _ _ _ => rfl⟩⟩
 ·have hH : Go.Sort.Holds (Value.int .i64) w g 0 zs.toArray := holds_of_blockI hg (by simpa using htake)
  have hcon := Any.sort_Ints Tryz.lays191 g 0 cap zs w hH (Array.getElem?_eq_some_iff.1 hg).1 (by omega)
  change Calls Tryz.prog 70 _ _ _ at hcon
  refine hcon.mono ?_
  rintro e w' ⟨rfl, n, os, rfl⟩
  refine ⟨rfl, ?_, grownBy_sortedI _⟩
  have := ownsRow_sortedI (n := n) (os := os) (ts := sorted zs) (sorted_length zs) hbg hg hnc hcm hcs
  rw [sorted_length]
  exact this
theorem ref_Ends (L : List (List (Int × Int))) (V : Nat -> Value) (bo co base : Nat) (w : World) (hbo : bo < w.heap.size) (hL : L.length < 1099511627776) (hlen : (allSides L).length < 1099511627776)
  (hcell : ∀ i, i < L.length -> w.cell? ⟨bo, i, none⟩ = some (V i)) (hV : ∀ i, (hi : i < L.length) -> w.ownsRow base 34 2 (V i) L[i].length (encs L[i])) :
  Calls Tryz.prog 146 #[.slice (some ⟨bo, 0, none⟩) L.length co] w fun e w' =>
   ∃ v, e = .returned v /\ w'.ownsRow w.heap.size 3 1 v (sorted (allSides L)).length ((sorted (allSides L)).map (Value.int .i64)) /\ Below w.heap.size w w' := by
 refine ends_gather L V bo co base w hbo hL hlen hcell hV _ ?_
 intro v wr hown hb
 refine (sort_Ints _ v wr _ hlen hown).mono ?_
 rintro e w' ⟨rfl, ho, hg⟩
 exact ⟨rfl, v, rfl, ho, hb.grown hg hb.size (fun k hk => (hown.lt k hk).1)⟩
theorem sort_Strings (l : List ByteArray) (v : Value) (w : World) (base : Nat) (hlen : l.length < 1099511627776) (hown : w.ownsRow base 9 1 v l.length (l.map Value.string)) :
  Calls Tryz.prog 111 #[v] w fun e w' => e = .returned (.tuple #[]) /\ w'.ownsRow base 9 1 v (srt (strs l)).length ((srt (strs l)).map encStr) /\ w.grownBy w' v.ownBlock := by
 rcases hown.2 with ⟨rfl, h0⟩ | ⟨g, cap, cur, rfl, hbg, hg, hnc, hcm, hcs, htake⟩
 ·have hz : l = [] := List.eq_nil_of_length_eq_zero h0
  subst hz
  have hcon := Any.sort_Strings_none Tryz.lays192 none 0 w
  change Calls Tryz.prog 111 _ _ _ at hcon
  refine hcon.mono ?_
  rintro e w' ⟨rfl, rfl⟩
  exact ⟨rfl, by simpa [srt, strs] using hown, ⟨rfl, rfl, rfl, Nat.le_refl _, fun _ _ _ => rfl⟩⟩
 ·have hH : Go.Sort.Holds encStr w g 0 (strs l).toArray := holds_of_block hg (by rw [strs_enc, strs_length]; simpa using htake)
  have hcon := Any.sort_Strings Tryz.lays192 g 0 cap (strs l) w hH (Array.getElem?_eq_some_iff.1 hg).1 (by rw [strs_length]; omega)
  change Calls Tryz.prog 111 _ _ _ at hcon
  rw [strs_length] at hcon
  refine hcon.mono ?_
  rintro e w' ⟨rfl, n, os, rfl⟩
  refine ⟨rfl, ?_, grownBy_sorted _⟩
  have := ownsRow_sorted (n := n) (os := os) (ss := strs l) (ts := srt (strs l)) (srt_length _) hbg hg (by rw [strs_length]; exact hnc) hcm hcs
  rw [srt_length, strs_length] at *
  exact this
end Go.Proofs.YtfoojmflbifkpaaGreatDoor

namespace Go.Proofs.YtfoojmflbifkpaaGreatDoor
open Go.RowKit Go.Maps
def TxsIn (w : World) (ad : Option Addr) (txs : List (List Fop)) : Prop :=
 ∀ j, (hj : j < txs.length) -> ∃ b o g f cap, ad = some ⟨b, o, none⟩ /\ w.cell? ⟨b, o + j, none⟩ = some (.slice (some ⟨g, f, none⟩) (txs[j]).length cap) /\ OpsAt w g f txs[j] /\ txs[j].length <= 8
theorem TxsIn.carry {w w' : World} {ad : Option Addr} {txs : List (List Fop)} (h : TxsIn w ad txs) (hb : Below w.heap.size w w') : TxsIn w' ad txs := fun j hj => by
 obtain ⟨b, o, g, f, cap, h0, h1, h2, h3⟩ := h j hj
 exact ⟨b, o, g, f, cap, h0, there_yet h1 hb, h2.carry hb, h3⟩
theorem RefP.txs {w : World} {R : Nat} {txs : List (List Fop)} {known : Int} (h : RefP w R txs known) : ∃ ad cap, w.cell? ⟨R, 0, none⟩ = some (.slice ad txs.length cap) /\ TxsIn w ad txs := by
 rcases h.c0 with ⟨rfl, c⟩ | ⟨b, o, cap, c, _, ht⟩
 ·exact ⟨_, _, c, fun j hj => absurd hj (Nat.not_lt_zero _)⟩
 ·refine ⟨_, _, c, fun j hj => ?_⟩
  obtain ⟨g, f, cp, h1, h2, h3⟩ := ht j hj
  exact ⟨b, o, g, f, cp, rfl, h1, h2, h3⟩
def spansK (k : Ky) (l : List Fop) : List (Int × Int) := (l.filter fun o => sameK (kyO o) k).map fun o => (o.lo, o.hi)
def spansT (k : Ky) (txs : List (List Fop)) : List (Int × Int) := txs.flatMap (spansK k)
def endsK (txs : List (List Fop)) (k : Ky) : List Int := sorted (allSides [spansT k txs])
theorem spansK_snoc (k : Ky) (l : List Fop) (o : Fop) : spansK k (l ++ [o]) = spansK k l ++ (if sameK (kyO o) k then [(o.lo, o.hi)] else []) := by
 unfold spansK
 rw [List.filter_append, List.map_append]
 congr 1
 cases h : sameK (kyO o) k <;> simp [h]
theorem spansT_take (k : Ky) (txs : List (List Fop)) (j : Nat) (h : j < txs.length) : spansT k (txs.take (j + 1)) = spansT k (txs.take j) ++ spansK k txs[j] := by
 unfold spansT
 rw [List.take_succ_eq_append_getElem h, List.flatMap_append]
 simp only [List.flatMap_cons, List.flatMap_nil, List.append_nil]
theorem spansK_length (k : Ky) (l : List Fop) : (spansK k l).length <= l.length := by
 unfold spansK
 rw [List.length_map]
 exact List.length_filter_le _ _
theorem spansT_length (k : Ky) (txs : List (List Fop)) (h : ∀ l, l ∈ txs -> l.length <= 8) : (spansT k txs).length <= txs.length * 8 := by
 unfold spansT
 induction txs with
 | nil => simp
 | cons l txs ih =>
  have h1 := ih (fun m hm => h m (List.mem_cons_of_mem _ hm))
  have h2 := spansK_length k l
  have h3 := h l List.mem_cons_self
  simp only [List.flatMap_cons, List.length_append, List.length_cons]
  omega
theorem not_same {o : Fop} {k : Ky} (h : ¬ kyO o = k) : sameK (kyO o) k = false := by
 cases e : sameK (kyO o) k with
 | false => rfl
 | true => exact absurd (sameK_iff.1 e) h
def RowE (y : World) (base : Nat) (v : Value) (l : List (Int × Int)) : Prop := y.ownsRow base 34 2 v l.length (encs l)
theorem RowE.carry {w w' : World} {base : Nat} {v : Value} {l : List (Int × Int)} (h : RowE w base v l) (hb : Below w.heap.size w w') : RowE w' base v l := ownsRow_carry h hb
theorem rp_ends {w : World} {R : Nat} {txs : List (List Fop)} {known : Int} (h : RefP w R txs known) (k : Ky) :
  Calls Tryz.prog 104 #[.pointer (some ⟨R, 0, none⟩), .agg #[.int .i64 k.kind, .int .i64 k.a, .string k.word, .int .i64 k.b]] w fun e w' => ∃ v, e = .returned v /\ w'.ownsRow w.heap.size 3 1 v (endsK txs k).length ((endsK txs k).map (Value.int .i64)) /\ Below w.heap.size w w' := by
 have HB := zh (below_box w (.cells #[.int .i64 k.kind, .int .i64 k.a, .string k.word, .int .i64 k.b] 32))
 have HK := zh (boxK_new w k)
 obtain ⟨ad, cap, c0, hT⟩ := h.txs
 have hm := h.most
 have HL8 : Hid (∀ l, l ∈ txs -> l.length <= 8) := fun l hl => by
  obtain ⟨i, hi, rfl⟩ := List.getElem_of_mem hl
  obtain ⟨_, _, _, _, _, _, _, _, q⟩ := hT i hi
  exact q
 have d0 := there_yet c0 (uh HB)
 have HT := zh (hT.carry (uh HB))
 have HLen := zh (spansT_length k txs (uh HL8))
 clear hT c0 h
 obtain ⟨n, hn⟩ : ∃ n, n = txs.length := ⟨_, rfl⟩
 have HN := zh hn
 rw [<- hn] at d0 hm
 clear hn
 go_enter Tryz.func104, Tryz.ntmps104
 go_wp2_with fail
 generalize w.alloc (.cells #[.int .i64 k.kind, .int .i64 k.a, .string k.word, .int .i64 k.b] 32) = W0 at *
 go_loopw [5, 15] (fun v i y => ∃ j : Nat, j <= n /\ i = .int .i64 j /\ RowE y W0.heap.size v (spansT k (txs.take j)) /\ Below W0.heap.size W0 y) (fun _ i _ => n - (intOf i).toNat)
 case atStart => exact ⟨0, by omega, rfl, World.ownsRow_nil _ _ _ _, Below.refl _ _⟩
 case round =>
  revert wr
  intro wo hrel
  obtain ⟨j, hj, rfl, hown, hb⟩ := hrel
  have HB1 := zh hb
  have HO := zh hown
  clear hb hown
  by_cases hlt : j < n
  ·have hlt' : (j : Int) < (n : Int) := by omega
   have hj0 : (0 : Int) <= (j : Int) := by omega
   have hjt : j < txs.length := by have := uh HN; omega
   have HSj := zh (spansT_take k txs j hjt)
   obtain ⟨b, o, g, f, cp, rfl, r0, r1, r2⟩ := uh HT j hjt
   have HG8 : Hid ((spansT k (txs.take j)).length <= 1200) := by
    have h1 := spansT_length k (txs.take j) (fun l hl => uh HL8 l (List.mem_of_mem_take hl))
    rw [List.length_take] at h1
    show _ <= _
    omega
   obtain ⟨l, hl⟩ : ∃ l, l = txs[j] := ⟨_, rfl⟩
   rw [<- hl] at r0 r1 r2 HSj
   have q0 := there_yet r0 (uh HB1)
   have HAt := zh r1
   obtain ⟨G, hG⟩ : ∃ G, G = spansT k (txs.take j) := ⟨_, rfl⟩
   rw [<- hG] at HSj HO HG8
   clear r0 r1 hl hjt hG
   go_upto_region 5 with fail
   go_wp2_with fail
   go_loopw [5, 21] (fun v i y => ∃ m : Nat, m <= l.length /\ i = .int .i64 m /\ RowE y W0.heap.size v (G ++ spansK k (l.take m)) /\ Below W0.heap.size W0 y) (fun _ i _ => l.length - (intOf i).toNat)
   case atStart => exact ⟨0, by omega, rfl, by simpa [spansK] using uh HO, uh HB1⟩
   case round =>
    obtain ⟨m, hm', rfl, hown, hb⟩ := hrel
    have HBm := zh hb
    have HOm := zh hown
    clear hb hown q0 HO
    by_cases hml : m < l.length
    ·have hml' : (m : Int) < (l.length : Int) := by omega
     have hm0 : (0 : Int) <= (m : Int) := by omega
     obtain ⟨a0, a1, a2, a3, a4, a5, a6⟩ := (uh HAt).2 m hml
     have HSn : Hid (spansK k (l.take (m + 1)) = spansK k (l.take m) ++ (if sameK (kyO l[m]) k then [(l[m].lo, l[m].hi)] else [])) := by
      unfold Hid
      rw [List.take_succ_eq_append_getElem hml, spansK_snoc]
     have HF8 : Hid ((G ++ spansK k (l.take m)).length < 1099511627776) := by
      have h1 := spansK_length k (l.take m)
      rw [List.length_take] at h1
      have h2 := uh HG8
      show _ < _
      rw [List.length_append]
      omega
     obtain ⟨o, ho⟩ : ∃ o, o = l[m] := ⟨_, rfl⟩
     rw [<- ho] at a0 a1 a2 a3 a4 a5 a6 HSn
     have z0 := there_yet a0 (uh HBm)
     have z1 := there_yet a1 (uh HBm)
     have z2 := there_yet a2 (uh HBm)
     have z3 := there_yet a3 (uh HBm)
     have z4 := there_yet a4 (uh HBm)
     have z5 := there_yet a5 (uh HBm)
     have z6 := there_yet a6 (uh HBm)
     have HB8 := zh (below_box wr (.cells #[.int .i64 o.kind, .int .i64 o.a, .string o.word, .int .i64 o.b, .int .i64 o.lo, .int .i64 o.hi, .string o.value] 36))
     have k0 := there_yet (uh HK).c0 (uh HBm)
     have k1 := there_yet (uh HK).c1 (uh HBm)
     have k2 := there_yet (uh HK).c2 (uh HBm)
     have k3 := there_yet (uh HK).c3 (uh HBm)
     obtain ⟨F, hF⟩ : ∃ F, F = G ++ spansK k (l.take m) := ⟨_, rfl⟩
     rw [<- hF] at HOm HF8
     have HFn : Hid (G ++ spansK k (l.take (m + 1)) = F ++ (if sameK (kyO o) k then [(o.lo, o.hi)] else [])) := by
      unfold Hid
      rw [uh HSn, hF, List.append_assoc]
     clear a0 a1 a2 a3 a4 a5 a6 ho hF HSn
     go_upto_region 8 with fail
     have y0 : (wr.alloc (.cells #[.int .i64 o.kind, .int .i64 o.a, .string o.word, .int .i64 o.b, .int .i64 o.lo, .int .i64 o.hi, .string o.value] 36)).cell? ⟨wr.heap.size, 0, none⟩ = some (.int .i64 o.kind) := by simp
     have y1 : (wr.alloc (.cells #[.int .i64 o.kind, .int .i64 o.a, .string o.word, .int .i64 o.b, .int .i64 o.lo, .int .i64 o.hi, .string o.value] 36)).cell? ⟨wr.heap.size, 1, none⟩ = some (.int .i64 o.a) := by simp
     have y2 : (wr.alloc (.cells #[.int .i64 o.kind, .int .i64 o.a, .string o.word, .int .i64 o.b, .int .i64 o.lo, .int .i64 o.hi, .string o.value] 36)).cell? ⟨wr.heap.size, 2, none⟩ = some (.string o.word) := by simp
     have y3 : (wr.alloc (.cells #[.int .i64 o.kind, .int .i64 o.a, .string o.word, .int .i64 o.b, .int .i64 o.lo, .int .i64 o.hi, .string o.value] 36)).cell? ⟨wr.heap.size, 3, none⟩ = some (.int .i64 o.b) := by simp
     have y4 : (wr.alloc (.cells #[.int .i64 o.kind, .int .i64 o.a, .string o.word, .int .i64 o.b, .int .i64 o.lo, .int .i64 o.hi, .string o.value] 36)).cell? ⟨wr.heap.size, 4, none⟩ = some (.int .i64 o.lo) := by simp
     have y5 : (wr.alloc (.cells #[.int .i64 o.kind, .int .i64 o.a, .string o.word, .int .i64 o.b, .int .i64 o.lo, .int .i64 o.hi, .string o.value] 36)).cell? ⟨wr.heap.size, 5, none⟩ = some (.int .i64 o.hi) := by simp
     have k0' := there_yet k0 (uh HB8)
     have k1' := there_yet k1 (uh HB8)
     have k2' := there_yet k2 (uh HB8)
     have k3' := there_yet k3 (uh HB8)
     have HB9 : Hid (Below W0.heap.size W0 (wr.alloc (.cells #[.int .i64 o.kind, .int .i64 o.a, .string o.word, .int .i64 o.b, .int .i64 o.lo, .int .i64 o.hi, .string o.value] 36))) := (uh HBm).trans ((uh HB8).mono (uh HBm).size)
     have HO9 := zh ((uh HOm).carry (uh HB8))
     clear z0 z1 z2 z3 z4 z5 z6 k0 k1 k2 k3 HB8 HBm HOm
     generalize wr.alloc (.cells #[.int .i64 o.kind, .int .i64 o.a, .string o.word, .int .i64 o.b, .int .i64 o.lo, .int .i64 o.hi, .string o.value] 36) = W9 at *
     generalize wr.heap.size = gb at *
     by_cases hsk : kyO o = k
     ·have HFv : Hid (G ++ spansK k (l.take (m + 1)) = F ++ [(o.lo, o.hi)]) := by
       unfold Hid
       rw [uh HFn, if_pos (sameK_iff.2 hsk)]
      have hk0 : k.kind = o.kind := by rw [<- hsk]; rfl
      have hk1 : k.a = o.a := by rw [<- hsk]; rfl
      have hk2 : k.word = o.word := by rw [<- hsk]; rfl
      have hk3 : k.b = o.b := by rw [<- hsk]; rfl
      rw [hk0] at k0'
      rw [hk1] at k1'
      rw [hk2] at k2'
      rw [hk3] at k3'
      have hzj := (uh HB9).size
      clear hsk hk0 hk1 hk2 hk3
      go_wp2_with (at_builtin; refine wpList_appSp _ rfl (.tmp 29) (.tmp 32) rfl W0.heap.size _ F rfl ((uh HO9).alloc _) W9.heap.size o.lo o.hi rfl ?d0 ?d1 (uh HF8) ?d3 ?_)
      case d0 => simp
      case d1 => simp
      case d3 => simp; omega
      intro v' wn e1 e2
      have HBN : Hid (Below W0.heap.size W0 wn) := ((uh HB9).alloc hzj _).grown e2 (by simp; omega) (fun i hi => ((uh HO9).lt i hi).1)
      have HON : Hid (RowE wn W0.heap.size v' (F ++ [(o.lo, o.hi)])) := by
       unfold Hid RowE
       rw [List.length_append]
       exact e1
      obtain ⟨ad2, cap2, rfl⟩ := row_slice (show World.ownsRow _ _ _ _ _ _ _ from e1)
      clear e1 e2
      go_wp2
      go_roundw
      case rel => exact ⟨m + 1, by omega, by go_num, by rw [uh HFv]; exact uh HON, uh HBN⟩
      case measure => simp [intOf]; omega
     ·have HFv : Hid (G ++ spansK k (l.take (m + 1)) = F) := by
       unfold Hid
       rw [uh HFn, if_neg (by rw [not_same hsk]; decide), List.append_nil]
      go_upto_region 9 with fail
      all_goals (try (exfalso; exact hsk (key_of (by assumption) (by assumption) (by assumption) (by assumption))))
      all_goals
       go_wp2
       go_roundw
       case rel => exact ⟨m + 1, by omega, by go_num, by rw [uh HFv]; exact uh HO9, uh HB9⟩
       case measure => simp [intOf]; omega
    ·obtain rfl : m = l.length := by omega
     have hlt3 : ¬ (l.length : Int) < (l.length : Int) := by omega
     rw [List.take_length] at HOm
     go_wp2
     go_roundw
     case rel => exact ⟨j + 1, by omega, by go_num, by rw [uh HSj]; exact uh HOm, uh HBm⟩
     case measure => simp [intOf]; omega
  ·have HA : Hid (txs.take j = txs) := by
    have := uh HN
    exact List.take_of_length_le (by omega)
   rw [uh HA] at HO
   have hlt' : ¬ (j : Int) < (n : Int) := by omega
   have HBo := zh (below_box wo (.cells #[u5] 228))
   have hc := ref_Ends [spansT k txs] (fun _ => u5) wo.heap.size 1 W0.heap.size (wo.alloc (.cells #[u5] 228)) (by simp) (by simp) (by
     have := uh HLen
     have hn' := uh HN
     simp only [allSides, List.append_nil, sides_length]
     omega) (fun i hi => by
     obtain rfl : i = 0 := by simpa using hi
     simp) (fun i hi => by
     obtain rfl : i = 0 := by simpa using hi
     exact (uh HO).carry (uh HBo))
   have HC := zh hc
   have HB2 := zh (((uh HB).trans ((uh HB1).mono (uh HB).size)).trans ((uh HBo).mono (by
    have h1 := (uh HB).size
    have h2 := (uh HB1).size
    omega)))
   obtain ⟨ad2, cap2, rfl⟩ := row_slice (show World.ownsRow _ _ _ _ _ _ _ from uh HO)
   clear hc HO
   go_wp2_with fail
   refine (uh HC).mono ?_
   rintro e w' ⟨v, rfl, hv, hb⟩
   have hsz := (uh HB2).size
   have HR : Hid (w'.ownsRow w.heap.size 3 1 v (endsK txs k).length ((endsK txs k).map (Value.int .i64)) /\ Below w.heap.size w w') := ⟨ownsRow_rebase hv hsz, (uh HB2).trans (hb.mono hsz)⟩
   obtain ⟨ad3, cap3, rfl⟩ := row_slice hv
   clear hv hb
   go_wp2
   go_ret
   exact ⟨_, rfl, uh HR⟩
theorem rp_pieces_count {w : World} {R : Nat} {txs : List (List Fop)} {known : Int} (h : RefP w R txs known) (k : Ky) (at_ e : Int) (he : countErr txs.length known at_ = e) (hne : e ≠ 0) :
  Calls Tryz.prog 50 #[.pointer (some ⟨R, 0, none⟩), .agg #[.int .i64 k.kind, .int .i64 k.a, .string k.word, .int .i64 k.b], .int .i64 at_] w fun r w' => r = .returned (.tuple #[.slice none 0 0, .int .i64 e]) /\ Below w.heap.size w w' := by
 have HB := zh (below_box w (.cells #[.int .i64 k.kind, .int .i64 k.a, .string k.word, .int .i64 k.b] 32))
 have HP := zh (h.carry (uh HB))
 obtain ⟨ad, cap, c0⟩ := (uh HP).len
 have HA := zh (rp_Ask c0 (uh HP).c1 at_)
 rw [he] at HA
 clear h c0 he
 go_enter Tryz.func50, Tryz.ntmps50
 go_wp2_with fail
 generalize w.alloc (.cells #[.int .i64 k.kind, .int .i64 k.a, .string k.word, .int .i64 k.b] 32) = W0 at *
 refine (uh HA).mono ?_
 rintro e W1 ⟨rfl, rfl⟩
 go_wp2
 go_ret2
 exact ⟨rfl, uh HB⟩
theorem rp_pieces_key {w : World} {R : Nat} {txs : List (List Fop)} {known : Int} (h : RefP w R txs known) (k : Ky) (hk : KyOk k) (hkb : keyB k.kind k.a k.word k.b = false) (at_ : Int) (he : countErr txs.length known at_ = 0) :
  Calls Tryz.prog 50 #[.pointer (some ⟨R, 0, none⟩), .agg #[.int .i64 k.kind, .int .i64 k.a, .string k.word, .int .i64 k.b], .int .i64 at_] w fun r w' => r = .returned (.tuple #[.slice none 0 0, .int .i64 1]) /\ Below w.heap.size w w' := by
 have HB := zh (below_box w (.cells #[.int .i64 k.kind, .int .i64 k.a, .string k.word, .int .i64 k.b] 32))
 have HP := zh (h.carry (uh HB))
 have HK := zh (boxK_new w k)
 obtain ⟨ad, cap, c0⟩ := (uh HP).len
 have HA := zh (rp_Ask c0 (uh HP).c1 at_)
 rw [he] at HA
 have HKy := zh (fun W => ref_Key k.kind k.a k.word k.b W hk.word)
 rw [hkb] at HKy
 have k0 := (uh HK).c0
 have k1 := (uh HK).c1
 have k2 := (uh HK).c2
 have k3 := (uh HK).c3
 clear h c0 he hkb
 go_enter Tryz.func50, Tryz.ntmps50
 go_wp2_with fail
 generalize w.alloc (.cells #[.int .i64 k.kind, .int .i64 k.a, .string k.word, .int .i64 k.b] 32) = W0 at *
 refine (uh HA).mono ?_
 rintro e W1 ⟨rfl, rfl⟩
 go_wp2_with fail
 refine (uh HKy _).mono ?_
 rintro e W2 ⟨rfl, hW2⟩
 have b2 : Below W1.heap.size W1 W2 := by rw [hW2]; exact below_box _ _
 have HB2 := zh ((uh HB).trans (b2.mono (uh HB).size))
 clear hW2 b2 HK HB k0 k1 k2 k3 HA HKy HP
 go_wp2
 go_ret2
 exact ⟨rfl, uh HB2⟩
theorem piecesR_snoc (f : Int -> ByteArray) (E : List Int) (t : Int) : piecesR f (E ++ [t]) = pieceStep f (piecesR f E) t := by simp [piecesR]
theorem piecesR_open (f : Int -> ByteArray) (E : List Int) : (piecesR f E).2 ≠ ByteArray.empty -> (piecesR f E).1 ≠ [] := by
 have step : ∀ (st : List (Int × Int × ByteArray) × ByteArray) (t : Int), (st.2 ≠ ByteArray.empty -> st.1 ≠ []) -> (pieceStep f st t).2 ≠ ByteArray.empty -> (pieceStep f st t).1 ≠ [] := fun st t h => by
  unfold pieceStep
  by_cases hv : f t = st.2
  ·rw [if_pos hv]; exact h
  ·rw [if_neg hv]
   dsimp only
   intro hn
   rw [if_neg hn]
   simp
 have all : ∀ (E : List Int) (st : List (Int × Int × ByteArray) × ByteArray), (st.2 ≠ ByteArray.empty -> st.1 ≠ []) -> (E.foldl (pieceStep f) st).2 ≠ ByteArray.empty -> (E.foldl (pieceStep f) st).1 ≠ [] := fun E => by
  induction E with
  | nil => exact fun st h => h
  | cons t E ih => exact fun st h => ih _ (step st t h)
 exact all E _ (fun h => absurd rfl h)
theorem piecesR_length (f : Int -> ByteArray) (E : List Int) : (piecesR f E).1.length <= E.length := by
 have step : ∀ (st : List (Int × Int × ByteArray) × ByteArray) (t : Int), (st.2 ≠ ByteArray.empty -> st.1 ≠ []) -> (pieceStep f st t).1.length <= st.1.length + 1 := fun st t h => by
  unfold pieceStep
  by_cases hv : f t = st.2
  ·rw [if_pos hv]; omega
  ·rw [if_neg hv]
   dsimp only
   have hc : (if st.2 = ByteArray.empty then st.1 else closeL st.1 t).length = st.1.length := by
    by_cases he : st.2 = ByteArray.empty
    ·rw [if_pos he]
    ·rw [if_neg he]
     rcases List.eq_nil_or_concat st.1 with q | ⟨d, p, q⟩
     ·exact absurd q (h he)
     ·rw [q, List.concat_eq_append]
      obtain ⟨a, b, c⟩ := p
      rw [closeL_snoc]
      simp
   split
   ·omega
   ·rw [List.length_append, hc]
    simp
 have all : ∀ (E D : List Int), (piecesR f (D ++ E)).1.length <= (piecesR f D).1.length + E.length := fun E => by
  induction E with
  | nil => intro D; simp
  | cons t E ih =>
   intro D
   have h1 := ih (D ++ [t])
   rw [List.append_assoc, List.singleton_append] at h1
   have h2 := step (piecesR f D) t (piecesR_open f D)
   rw [<- piecesR_snoc] at h2
   simp only [List.length_cons]
   omega
 have := all E []
 simpa [piecesR] using this
theorem toList_ne {a b : ByteArray} (h : a ≠ b) : (a.toList == b.toList) = false := by
 rw [beq_eq_false_iff_ne]
 intro e
 rw [ByteArray.toList_eq, ByteArray.toList_eq] at e
 exact h (ByteArray.ext (Array.toList_inj.1 e))
theorem own_ints {w : World} {base : Nat} {v : Value} {l : List Int} (h : w.ownsRow base 3 1 v l.length (l.map (Value.int .i64))) : ∃ g ad c, v = .slice ad l.length c /\ ∀ j, (hj : j < l.length) -> ad = some ⟨g, 0, none⟩ /\ w.cell? ⟨g, j, none⟩ = some (.int .i64 l[j]) := by
 obtain ⟨g, ad, c, e, hc⟩ := own1_at h
 refine ⟨g, ad, c, e, fun j hj => ?_⟩
 obtain ⟨h1, h2⟩ := hc j hj
 refine ⟨h1, h2.trans ?_⟩
 simp [hj]
theorem rowP_shut {W : World} {base g cap : Nat} {M : List (Int × Int × ByteArray)} {a b c : Int} {s : ByteArray} (h : RowP W base (.slice (some ⟨g, 0, none⟩) (M.length + 1) cap) (M ++ [(a, b, s)])) : RowP (W.setCell ⟨g, M.length * 3 + 1, none⟩ (.int .i64 c)) base (.slice (some ⟨g, 0, none⟩) (M.length + 1) cap) (M ++ [(a, c, s)]) /\ W.grownBy (W.setCell ⟨g, M.length * 3 + 1, none⟩ (.int .i64 c)) (some g) := by
 have h' : W.ownsRow base 177 3 (.slice (some ⟨g, 0, none⟩) (M.length + 1) cap) (M.length + 1) (encP (M ++ [(a, b, s)])) := by
  have := h
  unfold RowP at this
  simpa using this
 obtain ⟨ro, gr⟩ := World.ownsRow.stored h' (M.length * 3 + 1) (.int .i64 c)
 rw [encP_set] at ro
 refine ⟨?_, gr⟩
 unfold RowP
 simpa using ro
theorem rp_pieces_ok {w : World} {R : Nat} {txs : List (List Fop)} {known : Int} (h : RefP w R txs known) (k : Ky) (hk : KyOk k) (hkb : keyB k.kind k.a k.word k.b = true) (c : Nat) (hcn : c <= txs.length) (he : countErr txs.length known c = 0) (hE : (endsK txs k).length <= 100000) :
  Calls Tryz.prog 50 #[.pointer (some ⟨R, 0, none⟩), .agg #[.int .i64 k.kind, .int .i64 k.a, .string k.word, .int .i64 k.b], .int .i64 c] w fun r w' => ∃ v, r = .returned (.tuple #[v, .int .i64 0]) /\ RowP w' w.heap.size v (piecesR (refS txs k c) (endsK txs k)).1 /\ Below w.heap.size w w' := by
 have HB := zh (below_box w (.cells #[.int .i64 k.kind, .int .i64 k.a, .string k.word, .int .i64 k.b] 32))
 have HP := zh (h.carry (uh HB))
 have HK := zh (boxK_new w k)
 obtain ⟨ad, cap, c0⟩ := (uh HP).len
 have HA := zh (rp_Ask c0 (uh HP).c1 c)
 rw [he] at HA
 have HKy := zh (fun W => ref_Key k.kind k.a k.word k.b W hk.word)
 rw [hkb] at HKy
 have k0 := (uh HK).c0
 have k1 := (uh HK).c1
 have k2 := (uh HK).c2
 have k3 := (uh HK).c3
 clear h c0 he hkb hk
 obtain ⟨E, hEk⟩ : ∃ E, E = endsK txs k := ⟨_, rfl⟩
 have HEk := zh hEk
 obtain ⟨f, hf⟩ : ∃ f, f = refS txs k c := ⟨_, rfl⟩
 have HFf := zh hf
 obtain ⟨n, hn⟩ : ∃ n, n = E.length := ⟨_, rfl⟩
 have HN := zh hn
 rw [<- hEk, <- hn] at hE
 rw [<- hEk, <- hf]
 clear hEk hf hn
 go_enter Tryz.func50, Tryz.ntmps50
 go_wp2_with fail
 generalize w.alloc (.cells #[.int .i64 k.kind, .int .i64 k.a, .string k.word, .int .i64 k.b] 32) = W0 at *
 refine (uh HA).mono ?_
 rintro e W1 ⟨rfl, hW1⟩
 obtain rfl : W0 = W1 := hW1.symm
 clear hW1 HA
 go_wp2_with fail
 refine (uh HKy _).mono ?_
 rintro e W2 ⟨rfl, hW2⟩
 have b2 : Below W0.heap.size W0 W2 := by rw [hW2]; exact below_box _ _
 have HB2 := zh ((uh HB).trans (b2.mono (uh HB).size))
 have HP2 := zh ((uh HP).carry b2)
 have HK2 := zh ((uh HK).below b2)
 clear hW2 b2 HK HB k0 k1 k2 k3 HKy HP
 have k0 := (uh HK2).c0
 have k1 := (uh HK2).c1
 have k2 := (uh HK2).c2
 have k3 := (uh HK2).c3
 go_wp2_with fail
 refine (rp_ends (uh HP2) k).mono ?_
 rintro e W3 ⟨v, rfl, hv, b3⟩
 have HB3 := zh ((uh HB2).trans (b3.mono (uh HB2).size))
 have HP3 := zh ((uh HP2).carry b3)
 have HK3 := zh ((uh HK2).below b3)
 rw [<- uh HEk] at hv
 obtain ⟨g, ae, ce, rfl, hcE⟩ := own_ints hv
 have HCE := zh hcE
 clear hv b3 k0 k1 k2 k3 HB2 HP2 HK2 hcE
 rw [<- uh HN]
 go_wp2_with fail
 go_loopw [9, 10, 27] (fun out last i y => ∃ j : Nat, j <= n /\ i = .int .i64 j /\ last = .string (piecesR f (E.take j)).2 /\ RowP y W3.heap.size out (piecesR f (E.take j)).1 /\ Below W3.heap.size W3 y) (fun _ _ i _ => n - (intOf i).toNat)
 case atStart => exact ⟨0, by omega, rfl, rfl, World.ownsRow_nil _ _ _ _, Below.refl _ _⟩
 case round =>
  obtain ⟨j, hj, rfl, rfl, hO, hB⟩ := hrel
  have HO := zh hO
  have HBj := zh hB
  clear hO hB
  by_cases hlt : j < n
  ·have hlt' : (j : Int) < (n : Int) := by omega
   have hj0 : (0 : Int) <= (j : Int) := by omega
   have hjE : j < E.length := by have := uh HN; omega
   obtain ⟨rfl, q0⟩ := uh HCE j hjE
   have z0 := there_yet q0 (uh HBj)
   have HSt : Hid (piecesR f (E.take (j + 1)) = pieceStep f (piecesR f (E.take j)) E[j]) := by
    unfold Hid
    rw [List.take_succ_eq_append_getElem hjE, piecesR_snoc]
   have HOp := zh (piecesR_open f (E.take j))
   have HLn : Hid ((piecesR f (E.take j)).1.length <= 100000) := by
    have := piecesR_length f (E.take j)
    rw [List.length_take] at this
    show _ <= _
    omega
   obtain ⟨t, ht⟩ : ∃ t, t = E[j] := ⟨_, rfl⟩
   rw [<- ht] at z0 HSt
   generalize piecesR f (E.take j) = st at *
   obtain ⟨L, lv⟩ := st
   dsimp only at HO HLn HOp ⊢
   have HPj := zh ((uh HP3).carry (uh HBj))
   have HKj := zh ((uh HK3).below (uh HBj))
   have k0 := (uh HKj).c0
   have k1 := (uh HKj).c1
   have k2 := (uh HKj).c2
   have k3 := (uh HKj).c3
   have hS := rp_said (uh HPj) k c hcn t
   rw [<- uh HFf] at hS
   have HSd := zh hS
   clear hS ht q0 hjE
   go_wp2_with fail
   refine (uh HSd).mono ?_
   rintro e W5 ⟨rfl, b5⟩
   have HB5 := zh ((uh HBj).trans (b5.mono (uh HBj).size))
   have HO5 := zh ((uh HO).carry b5)
   clear b5 z0 k0 k1 k2 k3 HSd HO HBj HPj HKj
   obtain ⟨fv, hfv⟩ : ∃ fv, fv = f t := ⟨_, rfl⟩
   have HFv := zh hfv
   rw [<- hfv]
   clear hfv
   by_cases hvl : fv = lv
   ·have HSt2 : Hid (piecesR f (E.take (j + 1)) = (L, lv)) := by
     unfold Hid
     rw [uh HSt]
     unfold pieceStep
     rw [if_pos (by rw [<- uh HFv]; exact hvl)]
    subst hvl
    go_wp2
    go_roundw
    case rel => exact ⟨j + 1, by omega, by go_num, by rw [uh HSt2], by rw [uh HSt2]; exact uh HO5, uh HB5⟩
    case measure => simp [intOf]; omega
   ·have hnl := toList_ne hvl
    by_cases hle : lv = ByteArray.empty
    ·
     subst hle
     have hvn := not_empty hvl
     have HSt2 : Hid (piecesR f (E.take (j + 1)) = (L ++ [(t, 0, fv)], fv)) := by
      unfold Hid
      rw [uh HSt]
      unfold pieceStep
      dsimp only
      rw [<- uh HFv, if_neg hvl, if_pos rfl, if_neg hvl]
     have hz5 := (uh HB5).size
     obtain ⟨hvn1, hvn2⟩ := hvn
     go_wp2_with (at_builtin; refine wpList_appP _ rfl (.tmp 51) (.tmp 56) rfl W3.heap.size _ L rfl ((uh HO5).carry (below_box _ _)) W5.heap.size t 0 fv rfl ?d0 ?d1 ?d2 ?d3 ?d4 ?_)
     case d0 => simp
     case d1 => simp
     case d2 => simp
     case d3 => have := uh HLn; omega
     case d4 => simp; omega
     intro v2 w2 p1 p2
     have HP1 : Hid (RowP w2 W3.heap.size v2 (L ++ [(t, 0, fv)])) := by
      unfold Hid RowP
      rw [List.length_append]
      exact p1
     have HP2 : Hid (Below W3.heap.size W3 w2) := ((uh HB5).alloc hz5 _).grown p2 (by simp; omega) (fun i hi => (World.ownsRow.lt (uh HO5) i hi).1)
     obtain ⟨ad3, cap3, rfl⟩ := row_slice (show World.ownsRow _ _ _ _ _ _ _ from p1)
     clear p1 p2
     go_wp2
     go_roundw
     case rel => exact ⟨j + 1, by omega, by go_num, by rw [uh HSt2], by rw [uh HSt2]; exact uh HP1, uh HP2⟩
     case measure => simp [intOf]; omega
    ·have hln := not_empty hle
     obtain ⟨hln1, hln2⟩ := hln
     obtain ⟨M, p, rfl⟩ : ∃ M p, L = M ++ [p] := by
      rcases List.eq_nil_or_concat L with q | ⟨M, p, q⟩
      ·exact absurd q (uh HOp hle)
      ·exact ⟨M, p, by rw [q, List.concat_eq_append]⟩
     obtain ⟨y0, y1, y2⟩ := p
     obtain ⟨g2, ad2, cap2, hu, hc⟩ := own_pieces (show World.ownsRow _ _ _ _ _ _ _ from uh HO5)
     have hlm : M.length < (M ++ [(y0, y1, y2)]).length := by simp
     obtain ⟨had2, hg2, r0, r1, r2⟩ := hc M.length hlm
     subst had2
     rw [List.getElem_concat_length (by rfl)] at r1
     have hu2 : u9 = .slice (some ⟨g2, 0, none⟩) (M.length + 1) cap2 := by rw [hu]; simp
     clear hu
     subst hu2
     have HSh := zh (rowP_shut (c := t) (uh HO5))
     have hzr : W5.ownsRow W3.heap.size 177 3 (.slice (some ⟨g2, 0, none⟩) (M.length + 1) cap2) (M.length + 1) (encP (M ++ [(y0, y1, y2)])) := by
      have := uh HO5
      unfold RowP at this
      simpa using this
     have f1 := hzr.frozenAt (M.length * 3 + 1)
     obtain ⟨m, hm⟩ : ∃ m : Nat, m = M.length := ⟨_, rfl⟩
     have HMM := zh hm
     have hm4 : (m : Int) <= 100000 := by
      have := uh HLn
      rw [List.length_append] at this
      simp only [List.length_cons, List.length_nil] at this
      omega
     have hm0 : (0 : Int) <= (m : Int) := by omega
     rw [<- hm] at r1 f1 HSh ⊢
     have hgb : W3.heap.size <= g2 := hg2
     have HB6 : Hid (Below W3.heap.size W3 (W5.setCell ⟨g2, m * 3 + 1, none⟩ (.int .i64 t))) := (uh HB5).grown (uh HSh).2 (uh HB5).size (fun i hi => by cases hi; exact hgb)
     have hw1 : IntKind.i64.wrap ((m : Int) + 1 - 1) = (m : Int) := by
      rw [<- wrap64_is]
      unfold wrap64
      omega
     clear hc hlm r0 r2 hzr hm hg2 HO5 HB5
     by_cases hve : fv = ByteArray.empty
     ·subst hve
      have HSt2 : Hid (piecesR f (E.take (j + 1)) = (M ++ [(y0, t, y2)], ByteArray.empty)) := by
       unfold Hid
       rw [uh HSt]
       unfold pieceStep
       dsimp only
       rw [<- uh HFv, if_neg hvl, if_neg hle, if_pos rfl, closeL_snoc]
      go_wp2
      go_roundw
      case rel => exact ⟨j + 1, by omega, by go_num, by rw [uh HSt2], by rw [uh HSt2]; exact (uh HSh).1, uh HB6⟩
      case measure => simp [intOf]; omega
     ·have hvn := not_empty hve
      obtain ⟨hvn1, hvn2⟩ := hvn
      have HSt2 : Hid (piecesR f (E.take (j + 1)) = (M ++ [(y0, t, y2)] ++ [(t, 0, fv)], fv)) := by
       unfold Hid
       rw [uh HSt]
       unfold pieceStep
       dsimp only
       rw [<- uh HFv, if_neg hvl, if_neg hle, if_neg hve, closeL_snoc]
      have hz6 := (uh HB6).size
      have HL6 : Hid ((M ++ [(y0, t, y2)]).length < 1099511627776) := by
       have := uh HLn
       show _ < _
       rw [List.length_append] at this ⊢
       simp only [List.length_cons, List.length_nil] at this ⊢
       omega
      go_upto_region 15 with fail
      generalize W5.setCell ⟨g2, m * 3 + 1, none⟩ (.int .i64 t) = W6 at *
      have HO6 := zh (uh HSh).1
      generalize M ++ [(y0, t, y2)] = L2 at *
      clear HSh f1 r1
      go_wp2_with (at_builtin; refine wpList_appP _ rfl (.tmp 51) (.tmp 56) rfl W3.heap.size _ L2 rfl ((uh HO6).carry (below_box _ _)) W6.heap.size t 0 fv rfl ?d0 ?d1 ?d2 (uh HL6) ?d4 ?_)
      case d0 => simp
      case d1 => simp
      case d2 => simp
      case d4 => simp; omega
      intro v2 w2 p1 p2
      have HP1 : Hid (RowP w2 W3.heap.size v2 (L2 ++ [(t, 0, fv)])) := by
       unfold Hid RowP
       rw [List.length_append]
       exact p1
      have HP2 : Hid (Below W3.heap.size W3 w2) := ((uh HB6).alloc hz6 _).grown p2 (by simp; omega) (fun i hi => (World.ownsRow.lt (uh HO6) i hi).1)
      obtain ⟨ad3, cap3, rfl⟩ := row_slice (show World.ownsRow _ _ _ _ _ _ _ from p1)
      clear p1 p2
      go_wp2
      go_roundw
      case rel => exact ⟨j + 1, by omega, by go_num, by rw [uh HSt2], by rw [uh HSt2]; exact uh HP1, uh HP2⟩
      case measure => simp [intOf]; omega
  ·have HA : Hid (E.take j = E) := by
    have := uh HN
    exact List.take_of_length_le (by omega)
   rw [uh HA] at HO
   have hlt' : ¬ (j : Int) < (n : Int) := by omega
   have hsz := (uh HB3).size
   have HR : Hid (RowP wr w.heap.size u9 (piecesR f E).1 /\ Below w.heap.size w wr) := ⟨ownsRow_rebase (uh HO) hsz, (uh HB3).trans ((uh HBj).mono hsz)⟩
   clear HO
   go_wp2
   go_ret2
   exact ⟨_, rfl, uh HR⟩
theorem rp_ever_from {w : World} {R : Nat} {txs : List (List Fop)} {known : Int} (h : RefP w R txs known) (k : Ky) (a b lo hi : Int) (e : Int) (he : countErr txs.length known a = e) (hne : e ≠ 0) :
  Calls Tryz.prog 53 #[.pointer (some ⟨R, 0, none⟩), .agg #[.int .i64 k.kind, .int .i64 k.a, .string k.word, .int .i64 k.b], .int .i64 a, .int .i64 b, .agg #[.int .i64 lo, .int .i64 hi]] w fun r w' => r = .returned (.tuple #[.slice none 0 0, .int .i64 e]) /\ Below w.heap.size w w' := by
 have HB : Hid (Below w.heap.size w (((w.alloc (.cells #[.int .i64 k.kind, .int .i64 k.a, .string k.word, .int .i64 k.b] 32)).alloc (.cells #[.int .i64 lo, .int .i64 hi] 34)).alloc (.cells #[.int .i64 a, .int .i64 b] 3))) := (((Below.refl _ _).alloc zr _).alloc (by simp) _).alloc (by simp; omega) _
 have HP := zh (h.carry (uh HB))
 have HK : Hid (BoxK w.heap.size k (((w.alloc (.cells #[.int .i64 k.kind, .int .i64 k.a, .string k.word, .int .i64 k.b] 32)).alloc (.cells #[.int .i64 lo, .int .i64 hi] 34)).alloc (.cells #[.int .i64 a, .int .i64 b] 3))) := ((boxK_new w k).below (below_box _ _)).below (below_box _ _)
 have s0 : (((w.alloc (.cells #[.int .i64 k.kind, .int .i64 k.a, .string k.word, .int .i64 k.b] 32)).alloc (.cells #[.int .i64 lo, .int .i64 hi] 34)).alloc (.cells #[.int .i64 a, .int .i64 b] 3)).cell? ⟨w.heap.size + 1, 0, none⟩ = some (.int .i64 lo) := by
  rw [World.cell?_alloc_past _ _ _ (by simp)]
  simp
 have s1 : (((w.alloc (.cells #[.int .i64 k.kind, .int .i64 k.a, .string k.word, .int .i64 k.b] 32)).alloc (.cells #[.int .i64 lo, .int .i64 hi] 34)).alloc (.cells #[.int .i64 a, .int .i64 b] 3)).cell? ⟨w.heap.size + 1, 1, none⟩ = some (.int .i64 hi) := by
  rw [World.cell?_alloc_past _ _ _ (by simp)]
  simp
 have t0 : (((w.alloc (.cells #[.int .i64 k.kind, .int .i64 k.a, .string k.word, .int .i64 k.b] 32)).alloc (.cells #[.int .i64 lo, .int .i64 hi] 34)).alloc (.cells #[.int .i64 a, .int .i64 b] 3)).cell? ⟨w.heap.size + 2, 0, none⟩ = some (.int .i64 a) := by
  rw [World.cell?_alloc_at _ _ _ _ (by simp)]
  rfl
 have t1 : (((w.alloc (.cells #[.int .i64 k.kind, .int .i64 k.a, .string k.word, .int .i64 k.b] 32)).alloc (.cells #[.int .i64 lo, .int .i64 hi] 34)).alloc (.cells #[.int .i64 a, .int .i64 b] 3)).cell? ⟨w.heap.size + 2, 1, none⟩ = some (.int .i64 b) := by
  rw [World.cell?_alloc_at _ _ _ _ (by simp)]
  rfl
 obtain ⟨ad, cap, c0⟩ := (uh HP).len
 have HA := zh (rp_Ask c0 (uh HP).c1 a)
 have HA2 := zh (rp_Ask c0 (uh HP).c1 b)
 have k0 := (uh HK).c0
 have k1 := (uh HK).c1
 have k2 := (uh HK).c2
 have k3 := (uh HK).c3
 rw [he] at HA
 clear h c0 he
 go_enter Tryz.func53, Tryz.ntmps53
 go_wp2_with fail
 generalize ((w.alloc (.cells #[.int .i64 k.kind, .int .i64 k.a, .string k.word, .int .i64 k.b] 32)).alloc (.cells #[.int .i64 lo, .int .i64 hi] 34)).alloc (.cells #[.int .i64 a, .int .i64 b] 3) = W0 at *
 refine wp_loop_rounds 3 ?_
 rw [rounds_succ]
 go_wp2_with fail
 refine (uh HA).mono ?_
 rintro r W1 ⟨rfl, hW1⟩
 obtain rfl : W0 = W1 := hW1.symm
 clear hW1 HA
 go_wp2
 go_ret2
 exact ⟨rfl, uh HB⟩
theorem rp_ever_to {w : World} {R : Nat} {txs : List (List Fop)} {known : Int} (h : RefP w R txs known) (k : Ky) (a b lo hi : Int) (ha : countErr txs.length known a = 0) (e : Int) (he : countErr txs.length known b = e) (hne : e ≠ 0) :
  Calls Tryz.prog 53 #[.pointer (some ⟨R, 0, none⟩), .agg #[.int .i64 k.kind, .int .i64 k.a, .string k.word, .int .i64 k.b], .int .i64 a, .int .i64 b, .agg #[.int .i64 lo, .int .i64 hi]] w fun r w' => r = .returned (.tuple #[.slice none 0 0, .int .i64 e]) /\ Below w.heap.size w w' := by
 have HB : Hid (Below w.heap.size w (((w.alloc (.cells #[.int .i64 k.kind, .int .i64 k.a, .string k.word, .int .i64 k.b] 32)).alloc (.cells #[.int .i64 lo, .int .i64 hi] 34)).alloc (.cells #[.int .i64 a, .int .i64 b] 3))) := (((Below.refl _ _).alloc zr _).alloc (by simp) _).alloc (by simp; omega) _
 have HP := zh (h.carry (uh HB))
 have HK : Hid (BoxK w.heap.size k (((w.alloc (.cells #[.int .i64 k.kind, .int .i64 k.a, .string k.word, .int .i64 k.b] 32)).alloc (.cells #[.int .i64 lo, .int .i64 hi] 34)).alloc (.cells #[.int .i64 a, .int .i64 b] 3))) := ((boxK_new w k).below (below_box _ _)).below (below_box _ _)
 have s0 : (((w.alloc (.cells #[.int .i64 k.kind, .int .i64 k.a, .string k.word, .int .i64 k.b] 32)).alloc (.cells #[.int .i64 lo, .int .i64 hi] 34)).alloc (.cells #[.int .i64 a, .int .i64 b] 3)).cell? ⟨w.heap.size + 1, 0, none⟩ = some (.int .i64 lo) := by
  rw [World.cell?_alloc_past _ _ _ (by simp)]
  simp
 have s1 : (((w.alloc (.cells #[.int .i64 k.kind, .int .i64 k.a, .string k.word, .int .i64 k.b] 32)).alloc (.cells #[.int .i64 lo, .int .i64 hi] 34)).alloc (.cells #[.int .i64 a, .int .i64 b] 3)).cell? ⟨w.heap.size + 1, 1, none⟩ = some (.int .i64 hi) := by
  rw [World.cell?_alloc_past _ _ _ (by simp)]
  simp
 have t0 : (((w.alloc (.cells #[.int .i64 k.kind, .int .i64 k.a, .string k.word, .int .i64 k.b] 32)).alloc (.cells #[.int .i64 lo, .int .i64 hi] 34)).alloc (.cells #[.int .i64 a, .int .i64 b] 3)).cell? ⟨w.heap.size + 2, 0, none⟩ = some (.int .i64 a) := by
  rw [World.cell?_alloc_at _ _ _ _ (by simp)]
  rfl
 have t1 : (((w.alloc (.cells #[.int .i64 k.kind, .int .i64 k.a, .string k.word, .int .i64 k.b] 32)).alloc (.cells #[.int .i64 lo, .int .i64 hi] 34)).alloc (.cells #[.int .i64 a, .int .i64 b] 3)).cell? ⟨w.heap.size + 2, 1, none⟩ = some (.int .i64 b) := by
  rw [World.cell?_alloc_at _ _ _ _ (by simp)]
  rfl
 obtain ⟨ad, cap, c0⟩ := (uh HP).len
 have HA := zh (rp_Ask c0 (uh HP).c1 a)
 have HA2 := zh (rp_Ask c0 (uh HP).c1 b)
 have k0 := (uh HK).c0
 have k1 := (uh HK).c1
 have k2 := (uh HK).c2
 have k3 := (uh HK).c3
 rw [ha] at HA
 rw [he] at HA2
 clear h c0 he ha
 go_enter Tryz.func53, Tryz.ntmps53
 go_wp2_with fail
 generalize ((w.alloc (.cells #[.int .i64 k.kind, .int .i64 k.a, .string k.word, .int .i64 k.b] 32)).alloc (.cells #[.int .i64 lo, .int .i64 hi] 34)).alloc (.cells #[.int .i64 a, .int .i64 b] 3) = W0 at *
 refine wp_loop_rounds 3 ?_
 rw [rounds_succ]
 go_wp2_with fail
 refine (uh HA).mono ?_
 rintro r W1 ⟨rfl, hW1⟩
 obtain rfl : W0 = W1 := hW1.symm
 clear hW1 HA
 go_wp2_with fail
 rw [rounds_succ]
 go_wp2_with fail
 refine (uh HA2).mono ?_
 rintro r W1 ⟨rfl, hW1⟩
 obtain rfl : W0 = W1 := hW1.symm
 clear hW1 HA2
 go_wp2
 go_ret2
 exact ⟨rfl, uh HB⟩
theorem rp_ever_order {w : World} {R : Nat} {txs : List (List Fop)} {known : Int} (h : RefP w R txs known) (k : Ky) (a b lo hi : Int) (ha : countErr txs.length known a = 0) (hb : countErr txs.length known b = 0) (ho : b < a) :
  Calls Tryz.prog 53 #[.pointer (some ⟨R, 0, none⟩), .agg #[.int .i64 k.kind, .int .i64 k.a, .string k.word, .int .i64 k.b], .int .i64 a, .int .i64 b, .agg #[.int .i64 lo, .int .i64 hi]] w fun r w' => r = .returned (.tuple #[.slice none 0 0, .int .i64 10]) /\ Below w.heap.size w w' := by
 have HB : Hid (Below w.heap.size w (((w.alloc (.cells #[.int .i64 k.kind, .int .i64 k.a, .string k.word, .int .i64 k.b] 32)).alloc (.cells #[.int .i64 lo, .int .i64 hi] 34)).alloc (.cells #[.int .i64 a, .int .i64 b] 3))) := (((Below.refl _ _).alloc zr _).alloc (by simp) _).alloc (by simp; omega) _
 have HP := zh (h.carry (uh HB))
 have HK : Hid (BoxK w.heap.size k (((w.alloc (.cells #[.int .i64 k.kind, .int .i64 k.a, .string k.word, .int .i64 k.b] 32)).alloc (.cells #[.int .i64 lo, .int .i64 hi] 34)).alloc (.cells #[.int .i64 a, .int .i64 b] 3))) := ((boxK_new w k).below (below_box _ _)).below (below_box _ _)
 have s0 : (((w.alloc (.cells #[.int .i64 k.kind, .int .i64 k.a, .string k.word, .int .i64 k.b] 32)).alloc (.cells #[.int .i64 lo, .int .i64 hi] 34)).alloc (.cells #[.int .i64 a, .int .i64 b] 3)).cell? ⟨w.heap.size + 1, 0, none⟩ = some (.int .i64 lo) := by
  rw [World.cell?_alloc_past _ _ _ (by simp)]
  simp
 have s1 : (((w.alloc (.cells #[.int .i64 k.kind, .int .i64 k.a, .string k.word, .int .i64 k.b] 32)).alloc (.cells #[.int .i64 lo, .int .i64 hi] 34)).alloc (.cells #[.int .i64 a, .int .i64 b] 3)).cell? ⟨w.heap.size + 1, 1, none⟩ = some (.int .i64 hi) := by
  rw [World.cell?_alloc_past _ _ _ (by simp)]
  simp
 have t0 : (((w.alloc (.cells #[.int .i64 k.kind, .int .i64 k.a, .string k.word, .int .i64 k.b] 32)).alloc (.cells #[.int .i64 lo, .int .i64 hi] 34)).alloc (.cells #[.int .i64 a, .int .i64 b] 3)).cell? ⟨w.heap.size + 2, 0, none⟩ = some (.int .i64 a) := by
  rw [World.cell?_alloc_at _ _ _ _ (by simp)]
  rfl
 have t1 : (((w.alloc (.cells #[.int .i64 k.kind, .int .i64 k.a, .string k.word, .int .i64 k.b] 32)).alloc (.cells #[.int .i64 lo, .int .i64 hi] 34)).alloc (.cells #[.int .i64 a, .int .i64 b] 3)).cell? ⟨w.heap.size + 2, 1, none⟩ = some (.int .i64 b) := by
  rw [World.cell?_alloc_at _ _ _ _ (by simp)]
  rfl
 obtain ⟨ad, cap, c0⟩ := (uh HP).len
 have HA := zh (rp_Ask c0 (uh HP).c1 a)
 have HA2 := zh (rp_Ask c0 (uh HP).c1 b)
 have k0 := (uh HK).c0
 have k1 := (uh HK).c1
 have k2 := (uh HK).c2
 have k3 := (uh HK).c3
 rw [ha] at HA
 rw [hb] at HA2
 clear h c0 hb ha
 go_enter Tryz.func53, Tryz.ntmps53
 go_wp2_with fail
 generalize ((w.alloc (.cells #[.int .i64 k.kind, .int .i64 k.a, .string k.word, .int .i64 k.b] 32)).alloc (.cells #[.int .i64 lo, .int .i64 hi] 34)).alloc (.cells #[.int .i64 a, .int .i64 b] 3) = W0 at *
 refine wp_loop_rounds 3 ?_
 rw [rounds_succ]
 go_wp2_with fail
 refine (uh HA).mono ?_
 rintro r W1 ⟨rfl, hW1⟩
 obtain rfl : W0 = W1 := hW1.symm
 clear hW1 HA
 go_wp2_with fail
 rw [rounds_succ]
 go_wp2_with fail
 refine (uh HA2).mono ?_
 rintro r W1 ⟨rfl, hW1⟩
 obtain rfl : W0 = W1 := hW1.symm
 clear hW1 HA2
 go_wp2_with fail
 rw [rounds_succ]
 go_wp2
 go_ret2
 exact ⟨rfl, uh HB⟩
theorem rp_ever_key {w : World} {R : Nat} {txs : List (List Fop)} {known : Int} (h : RefP w R txs known) (k : Ky) (a b lo hi : Int) (hk : KyOk k) (hkb : keyB k.kind k.a k.word k.b = false) (ha : countErr txs.length known a = 0) (hb : countErr txs.length known b = 0) (ho : ¬ b < a) :
  Calls Tryz.prog 53 #[.pointer (some ⟨R, 0, none⟩), .agg #[.int .i64 k.kind, .int .i64 k.a, .string k.word, .int .i64 k.b], .int .i64 a, .int .i64 b, .agg #[.int .i64 lo, .int .i64 hi]] w fun r w' => r = .returned (.tuple #[.slice none 0 0, .int .i64 1]) /\ Below w.heap.size w w' := by
 have HB : Hid (Below w.heap.size w (((w.alloc (.cells #[.int .i64 k.kind, .int .i64 k.a, .string k.word, .int .i64 k.b] 32)).alloc (.cells #[.int .i64 lo, .int .i64 hi] 34)).alloc (.cells #[.int .i64 a, .int .i64 b] 3))) := (((Below.refl _ _).alloc zr _).alloc (by simp) _).alloc (by simp; omega) _
 have HP := zh (h.carry (uh HB))
 have HK : Hid (BoxK w.heap.size k (((w.alloc (.cells #[.int .i64 k.kind, .int .i64 k.a, .string k.word, .int .i64 k.b] 32)).alloc (.cells #[.int .i64 lo, .int .i64 hi] 34)).alloc (.cells #[.int .i64 a, .int .i64 b] 3))) := ((boxK_new w k).below (below_box _ _)).below (below_box _ _)
 have s0 : (((w.alloc (.cells #[.int .i64 k.kind, .int .i64 k.a, .string k.word, .int .i64 k.b] 32)).alloc (.cells #[.int .i64 lo, .int .i64 hi] 34)).alloc (.cells #[.int .i64 a, .int .i64 b] 3)).cell? ⟨w.heap.size + 1, 0, none⟩ = some (.int .i64 lo) := by
  rw [World.cell?_alloc_past _ _ _ (by simp)]
  simp
 have s1 : (((w.alloc (.cells #[.int .i64 k.kind, .int .i64 k.a, .string k.word, .int .i64 k.b] 32)).alloc (.cells #[.int .i64 lo, .int .i64 hi] 34)).alloc (.cells #[.int .i64 a, .int .i64 b] 3)).cell? ⟨w.heap.size + 1, 1, none⟩ = some (.int .i64 hi) := by
  rw [World.cell?_alloc_past _ _ _ (by simp)]
  simp
 have t0 : (((w.alloc (.cells #[.int .i64 k.kind, .int .i64 k.a, .string k.word, .int .i64 k.b] 32)).alloc (.cells #[.int .i64 lo, .int .i64 hi] 34)).alloc (.cells #[.int .i64 a, .int .i64 b] 3)).cell? ⟨w.heap.size + 2, 0, none⟩ = some (.int .i64 a) := by
  rw [World.cell?_alloc_at _ _ _ _ (by simp)]
  rfl
 have t1 : (((w.alloc (.cells #[.int .i64 k.kind, .int .i64 k.a, .string k.word, .int .i64 k.b] 32)).alloc (.cells #[.int .i64 lo, .int .i64 hi] 34)).alloc (.cells #[.int .i64 a, .int .i64 b] 3)).cell? ⟨w.heap.size + 2, 1, none⟩ = some (.int .i64 b) := by
  rw [World.cell?_alloc_at _ _ _ _ (by simp)]
  rfl
 obtain ⟨ad, cap, c0⟩ := (uh HP).len
 have HA := zh (rp_Ask c0 (uh HP).c1 a)
 have HA2 := zh (rp_Ask c0 (uh HP).c1 b)
 have k0 := (uh HK).c0
 have k1 := (uh HK).c1
 have k2 := (uh HK).c2
 have k3 := (uh HK).c3
 rw [ha] at HA
 rw [hb] at HA2
 have HKy := zh (fun W => ref_Key k.kind k.a k.word k.b W hk.word)
 rw [hkb] at HKy
 clear h c0 hb ha hkb hk
 go_enter Tryz.func53, Tryz.ntmps53
 go_wp2_with fail
 generalize ((w.alloc (.cells #[.int .i64 k.kind, .int .i64 k.a, .string k.word, .int .i64 k.b] 32)).alloc (.cells #[.int .i64 lo, .int .i64 hi] 34)).alloc (.cells #[.int .i64 a, .int .i64 b] 3) = W0 at *
 refine wp_loop_rounds 3 ?_
 rw [rounds_succ]
 go_wp2_with fail
 refine (uh HA).mono ?_
 rintro r W1 ⟨rfl, hW1⟩
 obtain rfl : W0 = W1 := hW1.symm
 clear hW1 HA
 go_wp2_with fail
 rw [rounds_succ]
 go_wp2_with fail
 refine (uh HA2).mono ?_
 rintro r W1 ⟨rfl, hW1⟩
 obtain rfl : W0 = W1 := hW1.symm
 clear hW1 HA2
 go_wp2_with fail
 rw [rounds_succ]
 go_wp2_with fail
 refine (uh HKy _).mono ?_
 rintro e W2 ⟨rfl, hW2⟩
 have b2 : Below W0.heap.size W0 W2 := by rw [hW2]; exact below_box _ _
 have HB2 := zh ((uh HB).trans (b2.mono (uh HB).size))
 clear hW2 b2
 go_wp2
 go_ret2
 exact ⟨rfl, uh HB2⟩
theorem rp_ever_span {w : World} {R : Nat} {txs : List (List Fop)} {known : Int} (h : RefP w R txs known) (k : Ky) (a b lo hi : Int) (hk : KyOk k) (hkb : keyB k.kind k.a k.word k.b = true) (ha : countErr txs.length known a = 0) (hb : countErr txs.length known b = 0) (ho : ¬ b < a) (hr : rightB lo hi = false) :
  Calls Tryz.prog 53 #[.pointer (some ⟨R, 0, none⟩), .agg #[.int .i64 k.kind, .int .i64 k.a, .string k.word, .int .i64 k.b], .int .i64 a, .int .i64 b, .agg #[.int .i64 lo, .int .i64 hi]] w fun r w' => r = .returned (.tuple #[.slice none 0 0, .int .i64 1]) /\ Below w.heap.size w w' := by
 have HB : Hid (Below w.heap.size w (((w.alloc (.cells #[.int .i64 k.kind, .int .i64 k.a, .string k.word, .int .i64 k.b] 32)).alloc (.cells #[.int .i64 lo, .int .i64 hi] 34)).alloc (.cells #[.int .i64 a, .int .i64 b] 3))) := (((Below.refl _ _).alloc zr _).alloc (by simp) _).alloc (by simp; omega) _
 have HP := zh (h.carry (uh HB))
 have HK : Hid (BoxK w.heap.size k (((w.alloc (.cells #[.int .i64 k.kind, .int .i64 k.a, .string k.word, .int .i64 k.b] 32)).alloc (.cells #[.int .i64 lo, .int .i64 hi] 34)).alloc (.cells #[.int .i64 a, .int .i64 b] 3))) := ((boxK_new w k).below (below_box _ _)).below (below_box _ _)
 have s0 : (((w.alloc (.cells #[.int .i64 k.kind, .int .i64 k.a, .string k.word, .int .i64 k.b] 32)).alloc (.cells #[.int .i64 lo, .int .i64 hi] 34)).alloc (.cells #[.int .i64 a, .int .i64 b] 3)).cell? ⟨w.heap.size + 1, 0, none⟩ = some (.int .i64 lo) := by
  rw [World.cell?_alloc_past _ _ _ (by simp)]
  simp
 have s1 : (((w.alloc (.cells #[.int .i64 k.kind, .int .i64 k.a, .string k.word, .int .i64 k.b] 32)).alloc (.cells #[.int .i64 lo, .int .i64 hi] 34)).alloc (.cells #[.int .i64 a, .int .i64 b] 3)).cell? ⟨w.heap.size + 1, 1, none⟩ = some (.int .i64 hi) := by
  rw [World.cell?_alloc_past _ _ _ (by simp)]
  simp
 have t0 : (((w.alloc (.cells #[.int .i64 k.kind, .int .i64 k.a, .string k.word, .int .i64 k.b] 32)).alloc (.cells #[.int .i64 lo, .int .i64 hi] 34)).alloc (.cells #[.int .i64 a, .int .i64 b] 3)).cell? ⟨w.heap.size + 2, 0, none⟩ = some (.int .i64 a) := by
  rw [World.cell?_alloc_at _ _ _ _ (by simp)]
  rfl
 have t1 : (((w.alloc (.cells #[.int .i64 k.kind, .int .i64 k.a, .string k.word, .int .i64 k.b] 32)).alloc (.cells #[.int .i64 lo, .int .i64 hi] 34)).alloc (.cells #[.int .i64 a, .int .i64 b] 3)).cell? ⟨w.heap.size + 2, 1, none⟩ = some (.int .i64 b) := by
  rw [World.cell?_alloc_at _ _ _ _ (by simp)]
  rfl
 obtain ⟨ad, cap, c0⟩ := (uh HP).len
 have HA := zh (rp_Ask c0 (uh HP).c1 a)
 have HA2 := zh (rp_Ask c0 (uh HP).c1 b)
 have k0 := (uh HK).c0
 have k1 := (uh HK).c1
 have k2 := (uh HK).c2
 have k3 := (uh HK).c3
 rw [ha] at HA
 rw [hb] at HA2
 have HKy := zh (fun W => ref_Key k.kind k.a k.word k.b W hk.word)
 rw [hkb] at HKy
 have HRt := zh (fun W => ref_Right lo hi W)
 rw [hr] at HRt
 clear h c0 hb ha hkb hk hr
 go_enter Tryz.func53, Tryz.ntmps53
 go_wp2_with fail
 generalize ((w.alloc (.cells #[.int .i64 k.kind, .int .i64 k.a, .string k.word, .int .i64 k.b] 32)).alloc (.cells #[.int .i64 lo, .int .i64 hi] 34)).alloc (.cells #[.int .i64 a, .int .i64 b] 3) = W0 at *
 refine wp_loop_rounds 3 ?_
 rw [rounds_succ]
 go_wp2_with fail
 refine (uh HA).mono ?_
 rintro r W1 ⟨rfl, hW1⟩
 obtain rfl : W0 = W1 := hW1.symm
 clear hW1 HA
 go_wp2_with fail
 rw [rounds_succ]
 go_wp2_with fail
 refine (uh HA2).mono ?_
 rintro r W1 ⟨rfl, hW1⟩
 obtain rfl : W0 = W1 := hW1.symm
 clear hW1 HA2
 go_wp2_with fail
 rw [rounds_succ]
 go_wp2_with fail
 refine (uh HKy _).mono ?_
 rintro e W2 ⟨rfl, hW2⟩
 have b2 : Below W0.heap.size W0 W2 := by rw [hW2]; exact below_box _ _
 have HB2 := zh ((uh HB).trans (b2.mono (uh HB).size))
 have s0' := there_yet s0 b2
 have s1' := there_yet s1 b2
 clear hW2 b2 s0 s1 k0 k1 k2 k3
 go_wp2_with fail
 refine (uh HRt _).mono ?_
 rintro e W3 ⟨rfl, hW3⟩
 have b3 : Below W2.heap.size W2 W3 := by rw [hW3]; exact below_box _ _
 have HB3 := zh ((uh HB2).trans (b3.mono (uh HB2).size))
 clear b3 hW3
 go_wp2
 go_ret2
 exact ⟨rfl, uh HB3⟩
end Go.Proofs.YtfoojmflbifkpaaGreatDoor
