/- slices.SortFunc of a slice of sides that is the call's own: the same sides, by their first times. -/
import Derived.Test.YtdjajnhiicfcaaaDoorJoin
import Derived.Test.YtdjajnhiicfcaaaDoorShelf2
namespace Go.Proofs.YtdjajnhiicfcaaaDoor
open Go.RowKit Palim Go.Sort Go.Shelf Go.Lib

def encS (x : Int × Int) : List Value := [.int .i64 x.1, .int .i64 x.2]

theorem encs_get (l : List (Int × Int)) (t : Nat) (h : t < l.length * 2) : (encs l)[t]? = some ((encS (l.toArray[t / 2]!))[t % 2]!) := by
  induction l generalizing t with
  | nil => simp at h
  | cons x l ih =>
    match t with
    | 0 => simp [encs, encS]
    | 1 => simp [encs, encS]
    | t + 2 =>
      have := ih t (by simp at h; omega)
      rw [show (t + 2) / 2 = t / 2 + 1 by omega, show (t + 2) % 2 = t % 2 by omega]
      have hlt : t / 2 < l.length := by simp at h; omega
      simp only [encs, List.getElem?_cons_succ]
      rw [this]
      simp [hlt]

theorem flat_encs (l : List (Int × Int)) : (flatK encS 2 l.toArray).toList = encs l := by
  apply List.ext_getElem?
  intro t
  by_cases h : t < l.length * 2
  · rw [encs_get l t h]
    have hs : t < (flatK encS 2 l.toArray).size := by simpa using h
    rw [Array.getElem?_toList, Array.getElem?_eq_getElem hs]
    have := get_flatK encS 2 l.toArray t (by simpa using h)
    rw [getElem!_pos _ t hs] at this
    rw [this]
  · rw [List.getElem?_eq_none (by simp; omega), List.getElem?_eq_none (by rw [encs_length]; omega)]

theorem heap_sortedF {w : World} {g n : Nat} {os : Array Obj} {cur : Array Value} {e : TypeId} {fr : Nat × Nat} (d : Array Value) (hb : w.heap[g]? = some (.cells cur e fr)) :
    (grow (putRow id (Sort.ahead w n) g 0 d) os).heap[g]? = some (.cells (putCells id 0 d cur) e fr) := by
  have hg : g < w.heap.size := (Array.getElem?_eq_some_iff.1 hb).1
  rw [heap_grow_old _ _ (by simpa using hg)]
  simp [putRow, mapBlock, Sort.ahead, Array.getElem?_modify, hb, onCells]

theorem grownBy_sortedF {w : World} {g n : Nat} {os : Array Obj} (d : Array Value) : w.grownBy (grow (putRow id (Sort.ahead w n) g 0 d) os) (some g) := by
  refine ⟨rfl, rfl, rfl, by simp, fun k hk hne => ?_⟩
  rw [heap_grow_old _ _ (by simpa using hk)]
  have : g ≠ k := fun e => hne (by rw [e])
  simp [putRow, mapBlock, Sort.ahead, Array.getElem?_modify, this]

theorem take_putCellsF (cur d : Array Value) (h : d.size ≤ cur.size) : (putCells id 0 d cur).toList.take d.size = d.toList := by
  apply List.ext_getElem?
  intro j
  by_cases hj : j < d.size
  · rw [List.getElem?_take_of_lt hj, Array.getElem?_toList]
    simp [putCells, hj, show j < cur.size by omega]
  · rw [List.getElem?_take_eq_none (by omega), List.getElem?_eq_none (by simp; omega)]

set_option maxHeartbeats 1000000 in
theorem of_closure (x y : Int × Int) (W : World) : Calls Tryd.prog 26 #[.agg #[.int .i64 x.1, .int .i64 x.2], .agg #[.int .i64 y.1, .int .i64 y.2]] W fun e w' => e = .returned (.int .i64 (Lib.compareInt x.1 y.1)) ∧ ∃ q os', w' = grow (W.drewN q) os' := by
  have hcon := fun W' => AnyG.cmp_Compare_int Tryd.cmpInt x.1 y.1 W'
  change ∀ W', Calls Tryd.prog 27 _ _ _ at hcon
  generalize Lib.compareInt x.1 y.1 = r at hcon ⊢
  go_enter Tryd.func26, Tryd.ntmps26
  go_wp2_with (go_at_call 27; refine (hcon _).mono ?_; rintro e w' ⟨rfl, rfl⟩)
  go_ret
  exact ⟨rfl, 0, _, by rw [alloc_eq_grow, alloc_eq_grow, grow_grow]; rfl⟩

theorem of_cmpLays (blk off size : Nat) (w : World) : CmpLays Tryd.prog 26 #[] encS 2 (fun x y => Lib.compareInt x.1 y.1) blk off size w :=
  fun _ _ _ _ x y => of_closure x y _

theorem ltFirst (x y : Int × Int) : ltOf (fun x y : Int × Int => Lib.compareInt x.1 y.1) x y = decide (x.1 < y.1) := by
  unfold ltOf Lib.compareInt
  by_cases h1 : x.1 < y.1
  · simp [h1]
  · by_cases h2 : y.1 < x.1 <;> simp [h1, h2]

theorem swoFirst : SWO (ltOf fun x y : Int × Int => Lib.compareInt x.1 y.1) :=
  ⟨fun x => by rw [ltFirst]; simp, fun x y z h1 h2 => by rw [ltFirst] at *; simp at *; omega, fun x y z h1 h2 => by rw [ltFirst] at *; simp at *; omega⟩

/-- slices.SortFunc by first times, of a slice of sides. -/
theorem set_sort (l : List (Int × Int)) (v : Value) (w : World) (base : Nat) (hlen : l.length < 1099511627776) (hown : w.ownsRow base 54 2 v l.length (encs l)) :
    Calls Tryd.prog 25 #[v, .func (.func 26) #[] #[]] w fun e w' => e = .returned (.tuple #[]) ∧ ∃ l', l'.Perm l ∧ (∀ i j, i < j → (hj : j < l'.length) → (hi : i < l'.length) → l'[i].1 ≤ l'[j].1) ∧ w'.ownsRow base 54 2 v l'.length (encs l') ∧ w.grownBy w' v.ownBlock := by
  rcases hown.2 with ⟨rfl, h0⟩ | ⟨g, cap, cur, rfl, hbg, hg, hnc, hcm, hcs, htake⟩
  · have hz : l = [] := List.eq_nil_of_length_eq_zero h0
    subst hz
    have hcon := AnyF.slices_SortFunc_none Tryd.sortSides none 0 (.func (.func 26) #[] #[]) w
    change Calls Tryd.prog 25 _ _ _ at hcon
    refine hcon.mono ?_
    rintro e w' ⟨rfl, rfl⟩
    exact ⟨rfl, [], List.Perm.refl _, by simp, hown, ⟨rfl, rfl, rfl, Nat.le_refl _, fun _ _ _ => rfl⟩⟩
  · have hgl : g < w.heap.size := (Array.getElem?_eq_some_iff.1 hg).1
    have hH : HoldsK encS 2 w g 0 l.toArray := by
      intro j hj
      have hj' : j < l.length * 2 := by simpa using hj
      refine ⟨?_, ?_⟩
      · rw [Nat.zero_add, hown.cellAt j hj', encs_get l j hj', get_flatK encS 2 l.toArray j (by simpa using hj')]
        rfl
      · exact hown.frozenAt (0 + j)
    have eg : ∀ args w, (callFunc 26 args).run Tryd.prog w = .ok (.enter 26 args) w := enters_of Tryd.func26 (by kernel_rfl) rfl
    have hcon := AnyQ.slices_SortFunc Tryd.sortSides 2 Tryd.isAgg54 Tryd.sizeOf54 encS (fun _ => rfl) (fun x v hv => by simp [encS] at hv; rcases hv with rfl | rfl <;> rfl) (fun x y => Lib.compareInt x.1 y.1) swoFirst 26 #[] g 0 cap l.toArray w eg (of_cmpLays g 0 l.toArray.size w) hH hgl (by simp; omega)
    change Calls Tryd.prog 25 _ _ _ at hcon
    simp only [List.size_toArray] at hcon
    refine hcon.mono ?_
    rintro e w' ⟨rfl, d', n, os, hp, hs, rfl⟩
    have hsz : d'.size = l.length := by have := hp.1; simpa using this
    have hperm : d'.toList.Perm l := by
      have := hp.2.2
      have e1 : d'.extract 0 l.length = d' := by rw [← hsz]; simp
      have e2 : l.toArray.extract 0 l.length = l.toArray := by simp
      rw [e1, e2] at this
      exact this
    have hl2 : d'.toList.length = l.length := by simpa using hsz
    refine ⟨rfl, d'.toList, hperm, ?_, ?_, grownBy_sortedF _⟩
    · intro i j hij hj hi
      have hj' : j < d'.size := by simpa using hj
      have hi' : i < d'.size := by simpa using hi
      have := hs i j (Nat.zero_le _) hij (by simpa [hsz] using hj')
      rw [ltFirst] at this
      simp [hj', hi'] at this
      simpa using this
    · have hb := heap_sortedF (n := n) (os := os) (flatK encS 2 d') hg
      have hfl : (flatK encS 2 d').toList = encs d'.toList := flat_encs d'.toList
      have hfs : (flatK encS 2 d').size = l.length * 2 := by simp [hsz]
      refine ⟨by rw [encs_length], .inr ⟨g, cap, _, by rw [hl2], hbg, hb, by omega, hcm, by simp [putCells, hcs], ?_⟩⟩
      rw [hl2, ← hfs, take_putCellsF _ _ (by rw [hfs, hcs]; exact Nat.mul_le_mul_right _ hnc), hfl]

end Go.Proofs.YtdjajnhiicfcaaaDoor
