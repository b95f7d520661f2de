/- Texts of one proof, one behind the other. -/
import Derived.Test.YtfoojmflbifkpaaGreatDoorEu
import Derived.Test.YtfoojmflbifkpaaGreatDoorFg
import Derived.Shelf.GgSortFunc.SmallK
set_option maxRecDepth 100000
set_option maxHeartbeats 16000000
namespace Go.Proofs.YtfoojmflbifkpaaGreatDoor
open Go.RowKit
def lessB (k a : Int) (s : ByteArray) (b k' a' : Int) (s' : ByteArray) (b' : Int) : Bool :=
 if k = k' then (if a = a' then (if s.toList = s'.toList then decide (b < b') else Op.bytesLess s.toList s'.toList) else decide (a < a')) else decide (k < k')
def sameKey (k a : Int) (s : ByteArray) (b k' a' : Int) (s' : ByteArray) (b' : Int) : Bool := decide (k = k') && (decide (a = a') && (decide (s.toList = s'.toList) && decide (b = b')))
theorem compareS_eq (s t : ByteArray) : compareS s t = 0 ↔ s.toList = t.toList := by
 unfold compareS
 by_cases h : s.toList = t.toList
 ·have hl : ∀ l : List UInt8, Op.bytesLess l l = false := by
   intro l
   induction l with
   | nil => rfl
   | cons x l ih => simp [Op.bytesLess, ih]
  simp [h, hl]
 ·cases Op.bytesLess s.toList t.toList <;> simp [h]
theorem keyCmp_is (k a : Int) (s : ByteArray) (b k' a' : Int) (s' : ByteArray) (b' : Int) :
  keyCmp k a s b k' a' s' b' = if lessB k a s b k' a' s' b' = true then -1 else if sameKey k a s b k' a' s' b' = true then 0 else 1 := by
 unfold keyCmp lessB sameKey
 simp only [orL, Lib.compareInt]
 by_cases h1 : k = k'
 ·subst h1
  simp only [Int.lt_irrefl, if_false, if_true, decide_true, Bool.true_and, gt_iff_lt]
  by_cases h2 : a = a'
  ·subst h2
   simp only [Int.lt_irrefl, if_false, if_true, decide_true, Bool.true_and]
   by_cases h3 : s.toList = s'.toList
   ·have := (compareS_eq s s').2 h3
    rw [this]
    simp only [if_true, h3, decide_true, Bool.true_and]
    by_cases h4 : b < b'
    ·simp [h4]
    ·by_cases h5 : b = b'
     ·subst h5; simp
     ·have : b' < b := by omega
      simp [h4, h5, this]
   ·have hn : compareS s s' ≠ 0 := fun e => h3 ((compareS_eq s s').1 e)
    simp only [hn, if_false, h3, decide_false, Bool.false_and]
    unfold compareS
    cases Op.bytesLess s.toList s'.toList <;> simp [h3]
  ·by_cases h4 : a < a'
   ·simp [h2, h4]
   ·have : a' < a := by omega
    simp [h2, h4, this]
 ·by_cases h4 : k < k'
  ·simp [h1, h4]
  ·have : k' < k := by omega
   simp [h1, h4, this]
end Go.Proofs.YtfoojmflbifkpaaGreatDoor

namespace Go.Proofs.YtfoojmflbifkpaaGreatDoor
open Go.RowKit Go.Sort Go.Shelf Go.Lib Go.Maps
theorem ltKey_is (x y : Ky) : ltOf cfY x y = lessB x.kind x.a x.word x.b y.kind y.a y.word y.b := by
 rw [ltKey]
 unfold cfY
 rw [keyCmp_is]
 cases lessB x.kind x.a x.word x.b y.kind y.a y.word y.b with
 | true => rfl
 | false =>
  cases sameKey x.kind x.a x.word x.b y.kind y.a y.word y.b <;> rfl
theorem ref_LessG (k a : Int) (s : ByteArray) (b k' a' : Int) (s' : ByteArray) (b' : Int) (w : World) :
  Calls Tryz.prog 116 #[.agg #[.int .i64 k, .int .i64 a, .string s, .int .i64 b], .agg #[.int .i64 k', .int .i64 a', .string s', .int .i64 b']] w fun e w' =>
   e = .returned (.bool (lessB k a s b k' a' s' b')) /\ Gd w w' := by
 have HB : Hid (Gd w ((w.alloc (.cells #[.int .i64 k, .int .i64 a, .string s, .int .i64 b] 32)).alloc (.cells #[.int .i64 k', .int .i64 a', .string s', .int .i64 b'] 32))) :=
  ((Gd.refl _).alloc _).alloc _
 unfold lessB
 by_cases h1 : k = k'
 ·rw [if_pos h1]
  have h1' : (k == k') = true := by simp [h1]
  by_cases h2 : a = a'
  ·rw [if_pos h2]
   have h2' : (a == a') = true := by simp [h2]
   by_cases h3 : s.toList = s'.toList
   ·rw [if_pos h3]
    have h3' : (s.toList == s'.toList) = true := by simp [h3]
    clear h1 h2 h3
    go_enter Tryz.func116, Tryz.ntmps116
    go_wp2
    go_ret
    exact ⟨rfl, uh HB⟩
   ·rw [if_neg h3]
    have h3' : (s.toList == s'.toList) = false := by simp [h3]
    clear h1 h2 h3
    go_enter Tryz.func116, Tryz.ntmps116
    go_wp2
    go_ret
    exact ⟨rfl, uh HB⟩
  ·rw [if_neg h2]
   have h2' : (a == a') = false := by simp [h2]
   clear h1 h2
   go_enter Tryz.func116, Tryz.ntmps116
   go_wp2
   go_ret
   exact ⟨rfl, uh HB⟩
 ·rw [if_neg h1]
  have h1' : (k == k') = false := by simp [h1]
  clear h1
  go_enter Tryz.func116, Tryz.ntmps116
  go_wp2
  go_ret
  exact ⟨rfl, uh HB⟩
theorem SWK.gd {α : Type} [Inhabited α] {enc : α -> List Value} {k : Nat} {w0 W W' : World} {blk off : Nat} {dk : Array α} (h : SWK enc k w0 blk off dk W) (hg : Gd W W') : SWK enc k w0 blk off dk W' := by
 obtain ⟨q, os, rfl⟩ := hg
 obtain ⟨n, os', e⟩ := h.drewN q
 rw [e]
 exact ⟨n, os' ++ os, by unfold sortWorldK; rw [grow_grow]⟩
def TwoG (Bs blk n cap i j : Nat) (x y : Ky) (w0 w : World) : Prop :=
 (w.cell? ⟨Bs, 0, none⟩ = some (.slice (some ⟨blk, 0, none⟩) n cap) /\ w.cell? ⟨blk, i * 4, none⟩ = some (.int .i64 x.kind) /\ w.cell? ⟨blk, i * 4 + 1, none⟩ = some (.int .i64 x.a) /\ w.cell? ⟨blk, i * 4 + 2, none⟩ = some (.string x.word) /\ w.cell? ⟨blk, i * 4 + 3, none⟩ = some (.int .i64 x.b)) /\
 w.cell? ⟨blk, j * 4, none⟩ = some (.int .i64 y.kind) /\ w.cell? ⟨blk, j * 4 + 1, none⟩ = some (.int .i64 y.a) /\ w.cell? ⟨blk, j * 4 + 2, none⟩ = some (.string y.word) /\ w.cell? ⟨blk, j * 4 + 3, none⟩ = some (.int .i64 y.b) /\ Gd w0 w
theorem TwoG.carry {Bs blk n cap i j : Nat} {x y : Ky} {w0 w w' : World} (h : TwoG Bs blk n cap i j x y w0 w) (hb : Gd w w') : TwoG Bs blk n cap i j x y w0 w' := by
 have t : ∀ {p : Addr} {v : Value}, w.cell? p = some v -> w'.cell? p = some v := fun {p v} e => (hb.below.cell (p := p) (lt_of_cell e)).trans e
 obtain ⟨⟨h1, h2, h3, h4, h5⟩, h6, h7, h8, h9, h10⟩ := h
 exact ⟨⟨t h1, t h2, t h3, t h4, t h5⟩, t h6, t h7, t h8, t h9, h10.trans hb⟩
theorem keys_less (Bs blk n cap i j : Nat) (x y : Ky) (w : World) (h : TwoG Bs blk n cap i j x y w w) (hi : i < n) (hj : j < n) :
  Calls Tryz.prog 115 #[.int .i64 i, .int .i64 j, .pointer (some ⟨Bs, 0, none⟩)] w fun e w' => e = .returned (.bool (ltOf cfY x y)) /\ Gd w w' := by
 rw [ltKey_is]
 have HT := zh h
 clear h
 go_enter Tryz.func115, Tryz.ntmps115
 go_wp2
 go_region_held3 (fun z => (z.cell? ⟨Bs, 0, none⟩ = some (.slice (some ⟨blk, 0, none⟩) n cap) /\ z.cell? ⟨blk, i * 4, none⟩ = some (.int .i64 x.kind) /\ z.cell? ⟨blk, i * 4 + 1, none⟩ = some (.int .i64 x.a) /\ z.cell? ⟨blk, i * 4 + 2, none⟩ = some (.string x.word) /\ z.cell? ⟨blk, i * 4 + 3, none⟩ = some (.int .i64 x.b)) /\
   z.cell? ⟨blk, j * 4, none⟩ = some (.int .i64 y.kind) /\ z.cell? ⟨blk, j * 4 + 1, none⟩ = some (.int .i64 y.a) /\ z.cell? ⟨blk, j * 4 + 2, none⟩ = some (.string y.word) /\ z.cell? ⟨blk, j * 4 + 3, none⟩ = some (.int .i64 y.b) /\ Gd w z)
  (first | exact TwoG.carry (uh HT) (Gd.refl _).drew | assumption)
  (first | (go_at_call 116; refine (ref_LessG _ _ _ _ _ _ _ _ _).mono ?_; rintro e w1 ⟨rfl, hg⟩; have hh1 := TwoG.carry (by assumption) hg))
 rename_i hh
 have HB := zh hh.2.2.2.2.2
 clear hh hg hh1
 go_wp2
 go_ret
 exact ⟨rfl, uh HB⟩
theorem info_keys : ∃ i ie : TypeInfo, Tryz.prog.info? 78 = some i /\ i.desc = .slice 32 /\ Tryz.prog.info? 32 = some ie /\ ie.hasPointers = true /\ ie.bytes = 40 /\ ie.size = 4 :=
 ⟨(Tryz.prog.info? 78).get (by kernel_rfl), (Tryz.prog.info? 32).get (by kernel_rfl), by kernel_rfl, by kernel_rfl, by kernel_rfl, by kernel_rfl, by kernel_rfl, by kernel_rfl⟩
theorem swapperKy {ie : TypeInfo} (a : ie.hasPointers = true) (b : ie.bytes = 40) (n : Nat) : Lib.swapperK n ie 25 = if n = 0 then 1 else if n = 1 then 2 else 9 := by
 by_cases h0 : n = 0
 ·simp [Lib.swapperK, h0]
 ·by_cases h1 : n = 1
  ·simp [Lib.swapperK, h1]
  ·simp [Lib.swapperK, a, b, h0, h1]
theorem keys_lays [Inhabited Ky] {w0 : World} {Bs blk cap size : Nat} {d0 : Array Ky} (hH : HoldsK encY 4 w0 blk 0 d0) (h0 : d0.size = size) (hlt : blk < w0.heap.size) (hB : w0.cell? ⟨Bs, 0, none⟩ = some (.slice (some ⟨blk, 0, none⟩) size cap)) (hne : Bs ≠ blk) :
  LessLays 115 #[.pointer (some ⟨Bs, 0, none⟩)] encY 4 (ltOf cfY) blk 0 size w0 := by
 intro W dk hS hs i j hi hj
 have hH' := hS.holds hlt hH (by rw [hs, h0])
 have hB' : W.cell? ⟨Bs, 0, none⟩ = some (.slice (some ⟨blk, 0, none⟩) size cap) := by
  obtain ⟨n, os, rfl⟩ := hS
  exact ((keeps_sortWorldK encY 4 w0 blk 0 n dk os).cell (p := ⟨Bs, 0, none⟩) (lt_of_cell hB) hne).trans hB
 have hc : ∀ t, t < size -> ∀ c, c < 4 -> W.cell? ⟨blk, t * 4 + c, none⟩ = some ((encY dk[t]!)[c]!) := fun t ht c hc => by
  have := (hH'.cell (i := t) (c := c) (by omega) hc).1
  rwa [Nat.zero_add] at this
 have hT : TwoG Bs blk size cap i j dk[i]! dk[j]! W W := by
  refine ⟨⟨hB', hc i hi 0 (by omega), hc i hi 1 (by omega), hc i hi 2 (by omega), hc i hi 3 (by omega)⟩, hc j hj 0 (by omega), hc j hj 1 (by omega), hc j hj 2 (by omega), hc j hj 3 (by omega), Gd.refl _⟩
 refine (keys_less Bs blk size cap i j dk[i]! dk[j]! W hT hi hj).mono ?_
 rintro e w' ⟨rfl, hg⟩
 exact ⟨rfl, SWK.gd hS hg, hg.below⟩
theorem slice_keys (l : List Ky) (v : Value) (w : World) (base Bs : Nat) (hlen : l.length < 1099511627776) (hown : w.ownsRow base 32 4 v l.length (encYs l)) (hB : w.cell? ⟨Bs, 0, none⟩ = some v) (hne : ∀ g, v.ownBlock = some g -> Bs ≠ g) :
  Calls Tryz.prog 114 #[.iface 78 v, .func (.func 115) #[] #[.pointer (some ⟨Bs, 0, none⟩)]] w fun e w' => e = .returned (.tuple #[]) /\ ∃ l', l'.Perm l /\ l'.Pairwise (fun a b => cfY a b <= 0) /\ w'.ownsRow base 32 4 v l'.length (encYs l') /\ w.grownBy w' v.ownBlock := by
 have hI : Inhabited Ky := ⟨noKy⟩
 obtain ⟨infoKs, infoKy, q1, q2, q3, q4, q5, q6⟩ := info_keys
 have hke : ∀ w, (Extern.Rtype.kind 32).run Tryz.prog w = .ok 25 w := fun _ => by kernel_rfl
 by_cases h2 : 2 <= l.length
 ·rcases hown.2 with ⟨rfl, h0⟩ | ⟨g, cap, cur, rfl, hbg, hg, hnc, hcm, hcs, htake⟩
  ·omega
  have hgl : g < w.heap.size := (Array.getElem?_eq_some_iff.1 hg).1
  have hH : HoldsK encY 4 w g 0 l.toArray := by
   intro j hj
   have hj' : j < l.length * 4 := by simpa using hj
   refine ⟨?_, ?_⟩
   ·rw [Nat.zero_add, hown.cellAt j hj', encYs_get l j hj', get_flatK encY 4 l.toArray j (by simpa using hj'), get_bangY l (j / 4) (by omega)]
    rfl
   ·exact hown.frozenAt (0 + j)
  have hK : Lib.swapperK l.length infoKy 25 = 9 := by rw [swapperKy q4 q5, if_neg (by omega), if_neg (by omega)]
  have hf : Tryz.prog.funcs.findIdx? (·.name == "internal/reflectlite" ++ ".Swapper$" ++ toString (Lib.swapperK l.length infoKy 25)) = some 216 := by rw [hK]; kernel_rfl
  have hBd : sliceBound Tryz.prog 32 infoKy 25 (some ⟨g, 0, none⟩) l.length cap = #[.slice (some ⟨g, 0, none⟩) l.length cap, typeHandle Tryz.prog 32] := by
   unfold sliceBound
   rw [if_neg (swapperK_gt _ _ _ h2)]
  obtain ⟨os0, hW⟩ : ∃ os0, sliceWorld Tryz.prog Tryz.laysSlice_ren 78 (some ⟨g, 0, none⟩) l.length cap w = grow w os0 := ⟨_, by unfold sliceWorld; rw [alloc_eq_grow, alloc_eq_grow, grow_grow]⟩
  have hH0 : HoldsK encY 4 (grow w os0) g 0 l.toArray := holdsK_grow encY 4 w _ g 0 _ hgl hH
  have hg0 : g < (grow w os0).heap.size := by rw [size_grow]; omega
  have hB0 : (grow w os0).cell? ⟨Bs, 0, none⟩ = some (.slice (some ⟨g, 0, none⟩) l.length cap) := (cell?_grow _ _ _ (lt_of_cell hB)).trans hB
  have hF : Fam 115 216 #[.pointer (some ⟨Bs, 0, none⟩)] #[.slice (some ⟨g, 0, none⟩) l.length cap, typeHandle Tryz.prog 32] encY 4 (ltOf cfY) g 0 l.length (grow w os0) l.toArray :=
   {hk := fun _ => rfl
    eg := enters_of Tryz.func115 (by kernel_rfl) rfl
    less := keys_lays hH0 (by simp) hg0 hB0 (hne g rfl)
    swap := swapSwapsK_of_literal false 216 (fun args W => run_callFunc_extern Tryz.func216 (by kernel_rfl) (by kernel_rfl) (by kernel_rfl) (e := Extern.ReflectliteSwapper.swap false) (by kernel_rfl) args W) 32 infoKy q3 encY 4 (fun _ => rfl) q6 (fun _ => by kernel_rfl) (fun x v hv => by simp [encY] at hv; rcases hv with rfl | rfl | rfl | rfl <;> rfl) g 0 l.length cap
    holds := hH0
    size0 := by simp
    lt0 := hg0
    sz := by omega }
  have hlim : Lib.bitLen l.length < 4611686018427387904 := Nat.lt_of_le_of_lt (Lib.bitLen_le l.length 62 (by omega) (by omega)) (by omega)
  have hp := pdq_func hF swoKey (l.length + 1) 0 l.length (Lib.bitLen l.length) l.toArray (grow w os0) (by omega) (SWK.start hH0) (by simp) (Nat.zero_le _) zr hlim (Or.inl rfl)
  have hcon := Any.sort_Slice_of_pdq Tryz.laysSlice 78 32 infoKs infoKy q1 q2 (by kernel_rfl) q3 25 hke (some ⟨g, 0, none⟩) l.length cap (by omega) 216 hf (.func 115) #[] #[.pointer (some ⟨Bs, 0, none⟩)] w (fun w' => SWK encY 4 (grow w os0) g 0 (pdq (ltOf cfY) l.toArray 0 l.length (Lib.bitLen l.length) true true) w')
   (by rw [hBd, hW]; exact hp.mono fun _ _ ⟨p1, p2⟩ => ⟨p1, p2.1⟩)
  change Calls Tryz.prog 114 _ _ _ at hcon
  refine hcon.mono ?_
  rintro e w' ⟨rfl, n, os, hw'⟩
  obtain ⟨hp, hs⟩ := pdq_sorts (ltOf cfY) swoKey l.toArray 0 l.length (Lib.bitLen l.length) true true (Nat.zero_le _) (by simp) (Or.inl rfl)
  generalize pdq (ltOf cfY) l.toArray 0 l.length (Lib.bitLen l.length) true true = d' at *
  obtain ⟨os1, rfl⟩ : ∃ os1, w' = grow (putRowK encY 4 (Sort.ahead w n) g 0 d') os1 := ⟨_, by rw [hw']; unfold sortWorldK; rw [ahead_grow, putRowK_grow encY 4 (Sort.ahead w n) _ g 0 _ hgl, grow_grow]⟩
  have hsz : d'.size = l.length := by have := hp.1; simpa using this
  have hperm : d'.toList.Perm l := by
   have := hp.2.2
   have e1 : d'.extract 0 l.length = d' := by rw [<- hsz]; simp
   have e2 : l.toArray.extract 0 l.length = l.toArray := by simp
   rw [e1, e2] at this
   exact this
  have hl2 : d'.toList.length = l.length := by simpa using hsz
  refine ⟨rfl, d'.toList, hperm, ?_, ?_, grownBy_sortedG _⟩
  ·rw [List.pairwise_iff_getElem]
   intro i j hi hj hij
   have hj' : j < d'.size := by simpa using hj
   have hi' : i < d'.size := by simpa using hi
   have := hs i j (Nat.zero_le _) hij (by simpa [hsz] using hj')
   rw [ltKey] at this
   simp [hj', hi'] at this
   have e := cfY_turn d'[i] d'[j]
   simp
   omega
  ·have hb := heap_sortedG (n := n) (os := os1) (flatK encY 4 d') hg
   have hfl : (flatK encY 4 d').toList = encYs d'.toList := flat_encY d'.toList
   have hfs : (flatK encY 4 d').size = l.length * 4 := by simp [hsz]
   refine ⟨by rw [encYs_length], .inr ⟨g, cap, _, by rw [hl2], hbg, hb, by omega, hcm, by simp [putCells, hcs], ?_⟩⟩
   rw [hl2, <- hfs, take_putCellsG _ _ (by rw [hfs, hcs]; exact Nat.mul_le_mul_right _ hnc), hfl]
 ·have hs1 : ∀ (f : Nat) (p : Option Addr) (c : Nat), v = .slice p l.length c -> Tryz.prog.funcs.findIdx? (·.name == "internal/reflectlite" ++ ".Swapper$" ++ toString (Lib.swapperK l.length infoKy 25)) = some f -> Calls Tryz.prog 114 #[.iface 78 v, .func (.func 115) #[] #[.pointer (some ⟨Bs, 0, none⟩)]] w fun e w' => e = .returned (.tuple #[]) /\ ∃ os, w' = grow w os := fun f p c hv hf => by
   have hcon := Any.sort_Slice_tiny Tryz.laysSlice 78 32 infoKs infoKy q1 q2 (by kernel_rfl) q3 25 hke p l.length c (by omega) f hf (.func 115) #[] #[.pointer (some ⟨Bs, 0, none⟩)] w
   rw [hv]
   exact hcon
  obtain ⟨p, c, hv⟩ : ∃ p c, v = .slice p l.length c := by
   rcases hown.2 with ⟨rfl, h0⟩ | ⟨g, cap, cur, rfl, _⟩
   ·exact ⟨none, 0, by rw [h0]⟩
   ·exact ⟨_, _, rfl⟩
  have hx : Calls Tryz.prog 114 #[.iface 78 v, .func (.func 115) #[] #[.pointer (some ⟨Bs, 0, none⟩)]] w fun e w' => e = .returned (.tuple #[]) /\ ∃ os, w' = grow w os := by
   rcases (show l.length = 0 \/ l.length = 1 by omega) with h0 | h0
   ·exact hs1 208 p c hv (by rw [swapperKy q4 q5, if_pos h0]; kernel_rfl)
   ·exact hs1 209 p c hv (by rw [swapperKy q4 q5, if_neg (by omega), if_pos h0]; kernel_rfl)
  refine hx.mono ?_
  rintro e w' ⟨rfl, os, rfl⟩
  have hb : Below w.heap.size w (grow w os) := ⟨rfl, rfl, rfl, by simp [grow], fun k hk => by
   show (w.heap ++ os)[k]? = w.heap[k]?
   rw [Array.getElem?_append_left hk]⟩
  refine ⟨rfl, l, List.Perm.refl _, ?_, ownsRow_carry hown hb, ⟨hb.os, hb.tape, hb.output, hb.size, fun k hk _ => hb.block k hk⟩⟩
  match l, h2 with
  | [], _ => exact List.Pairwise.nil
  | [x], _ => exact List.pairwise_singleton _ _
  | _ :: _ :: _, h2 => simp at h2
end Go.Proofs.YtfoojmflbifkpaaGreatDoor
