/- Texts of one proof, one behind the other. -/
import Derived.Test.YtbmkmfoaoganeaaGreatDoorNa
import Derived.Test.YtbmkmfoaoganeaaGreatDoorNb
import Derived.Test.YtbmkmfoaoganeaaGreatDoorShelf
import Derived.Lib.SplitLaws
import Derived.RangeFuncNested
import Derived.RangeFuncBound
import Derived.RangeFuncCalls
import Derived.RangeFuncLeaves
import Derived.RangeFuncFrom
import Derived.Shelf.Abstract
import Derived.Shelf.RegionOpen
import Derived.OwnWalkIn
import Derived.TacticsInMore
import Derived.LoopNIn
import Derived.LoopIn
set_option maxRecDepth 100000
set_option maxHeartbeats 16000000
namespace Go.Proofs.YtbmkmfoaoganeaaGreatDoor
open Go.RowKit
def cutL : List UInt8 -> List (List UInt8)
 | [] => [[]]
 | b :: l => if b = 10 then [] :: cutL l else match cutL l with
  | [] => [[b]]
  | x :: xs => (b :: x) :: xs
theorem cutL_ne (l : List UInt8) : cutL l ≠ [] := by
 cases l with
 | nil => simp [cutL]
 | cons b l =>
  unfold cutL
  split
  ·simp
  ·split <;> simp
theorem cutL_app : ∀ (a b : List UInt8), cutL (a ++ 10 :: b) = cutL a ++ cutL b
 | [], b => by simp [cutL]
 | c :: a, b => by
  have ih := cutL_app a b
  by_cases hc : c = 10
  ·simp [cutL, hc, ih]
  ·cases h : cutL a with
   | nil => exact absurd h (cutL_ne a)
   | cons x xs => simp [cutL, hc, ih, h]
theorem cutL_join : ∀ (l : List UInt8), Lib.join (cutL l) [10] = l
 | [] => by simp [cutL, Lib.join]
 | c :: l => by
  have ih := cutL_join l
  cases h : cutL l with
  | nil => exact absurd h (cutL_ne l)
  | cons x xs =>
   rw [h, Lib.join_cons] at ih
   by_cases hc : c = 10
   ·rw [cutL, if_pos hc, h, Lib.join_cons, hc]
    simp only [Lib.joinTail, List.map_cons, List.flatten_cons, List.nil_append] at ih ⊢
    rw [List.append_assoc, ih]
    rfl
   ·rw [cutL, if_neg hc, h]
    dsimp only
    rw [Lib.join_cons, List.cons_append, ih]
theorem cutL_no : ∀ (l : List UInt8) (y : List UInt8), y ∈ cutL l -> (10 : UInt8) ∉ y
 | [], y, hy => by
  simp [cutL] at hy
  subst hy
  simp
 | c :: l, y, hy => by
  have ih := cutL_no l
  cases h : cutL l with
  | nil => exact absurd h (cutL_ne l)
  | cons x xs =>
   rw [h] at ih
   by_cases hc : c = 10
   ·rw [cutL, if_pos hc, h] at hy
    rcases List.mem_cons.1 hy with rfl | q
    ·simp
    ·exact ih y q
   ·rw [cutL, if_neg hc, h] at hy
    dsimp only at hy
    rcases List.mem_cons.1 hy with rfl | q
    ·intro q
     rcases List.mem_cons.1 q with e | e
     ·exact hc e.symm
     ·exact ih x (by simp) e
    ·exact ih y (by simp [q])
theorem cutL_length : ∀ (l : List UInt8), (cutL l).length <= l.length + 1
 | [] => by simp [cutL]
 | c :: l => by
  have ih := cutL_length l
  cases h : cutL l with
  | nil => exact absurd h (cutL_ne l)
  | cons x xs =>
   rw [h] at ih
   simp only [List.length_cons] at ih ⊢
   by_cases hc : c = 10
   ·rw [cutL, if_pos hc, h]
    simp only [List.length_cons]
    omega
   ·rw [cutL, if_neg hc, h]
    simp only [List.length_cons]
    omega
theorem cutL_size : ∀ (l : List UInt8) (y : List UInt8), y ∈ cutL l -> y.length <= l.length
 | [], y, hy => by
  simp [cutL] at hy
  subst hy
  simp
 | c :: l, y, hy => by
  have ih := cutL_size l
  cases h : cutL l with
  | nil => exact absurd h (cutL_ne l)
  | cons x xs =>
   rw [h] at ih
   rw [List.length_cons]
   by_cases hc : c = 10
   ·rw [cutL, if_pos hc, h] at hy
    rcases List.mem_cons.1 hy with rfl | q
    ·simp
    ·have := ih y q
     omega
   ·rw [cutL, if_neg hc, h] at hy
    dsimp only at hy
    rcases List.mem_cons.1 hy with rfl | q
    ·have := ih x (by simp)
     simp only [List.length_cons]
     omega
    ·have := ih y (by simp [q])
     omega
def trimL (l : List UInt8) : List UInt8 := Lib.trimSuffix l [10]
theorem trim_snoc (x : List UInt8) (c : UInt8) : trimL (x ++ [c]) = if c = 10 then x else x ++ [c] := by
 unfold trimL Lib.trimSuffix Lib.hasSuffix
 by_cases hc : c = 10
 ·have : [10].isSuffixOf (x ++ [c]) = true := List.isSuffixOf_iff_suffix.2 ⟨x, by rw [hc]⟩
  rw [if_pos this, if_pos hc]
  simp
 ·have : ¬ [10].isSuffixOf (x ++ [c]) = true := fun q => by
   obtain ⟨t, ht⟩ := List.isSuffixOf_iff_suffix.1 q
   have := (List.append_inj' ht rfl).2
   simp at this
   exact hc this.symm
  rw [if_neg this, if_neg hc]
theorem trim_le (l : List UInt8) : (trimL l).length <= l.length := by
 unfold trimL Lib.trimSuffix
 split
 ·rw [List.length_take]
  omega
 ·exact Nat.le_refl _
def linesL (l : List UInt8) : List (List UInt8) := cutL (trimL l)
def linesD (s : ByteArray) : List ByteArray := (linesL s.data.toList).map fun l => ⟨l.toArray⟩
theorem lines_one (a : List UInt8) : linesL (a ++ [10]) = cutL a := by
 unfold linesL
 rw [trim_snoc, if_pos rfl]
theorem lines_both (a b : List UInt8) : ∃ X, linesL (a ++ [10] ++ b) = cutL a ++ X := by
 rcases List.eq_nil_or_concat b with rfl | ⟨b, c, rfl⟩
 ·exact ⟨[], by rw [List.append_nil, List.append_nil, lines_one]⟩
 ·unfold linesL
  rw [List.concat_eq_append, <- List.append_assoc, trim_snoc]
  split
  ·exact ⟨cutL b, by rw [List.append_assoc, List.singleton_append, cutL_app]⟩
  ·exact ⟨cutL (b ++ [c]), by rw [List.append_assoc, List.append_assoc, List.singleton_append, cutL_app]⟩
theorem lines_size (s : ByteArray) : ∀ x, x ∈ linesD s -> x.size <= s.size := by
 intro x hx
 obtain ⟨y, hy, rfl⟩ := List.mem_map.1 hx
 have h1 := cutL_size _ y hy
 have h2 := trim_le s.data.toList
 have h3 : s.data.toList.length = s.size := Array.length_toList
 have h4 : (⟨y.toArray⟩ : ByteArray).size = y.length := by simp [ByteArray.size]
 omega
theorem lines_len (s : ByteArray) : (linesD s).length <= s.size + 1 := by
 unfold linesD
 rw [List.length_map]
 have h1 := cutL_length (trimL s.data.toList)
 have h2 := trim_le s.data.toList
 have h3 : s.data.toList.length = s.size := Array.length_toList
 unfold linesL
 omega
theorem data_inj {a b : List ByteArray} (h : a.map (·.data.toList) = b.map (·.data.toList)) : a = b := by
 induction a generalizing b with
 | nil =>
  cases b with
  | nil => rfl
  | cons y b => simp at h
 | cons x a ih =>
  cases b with
  | nil => simp at h
  | cons y b =>
   simp only [List.map_cons, List.cons.injEq] at h
   obtain ⟨h1, h2⟩ := h
   rw [ih h2]
   congr 1
   cases x
   cases y
   exact congrArg ByteArray.mk (Array.toList_inj.1 h1)
theorem lines_split (s t : ByteArray) (ht : t.data.toList = trimL s.data.toList) : Lib.splitB ⟨#[10]⟩ 0 t.size t = linesD s := by
 refine data_inj ?_
 rw [Lib.splitB_data]
 unfold linesD linesL
 rw [List.map_map, show ((fun x : ByteArray => x.data.toList) ∘ fun l : List UInt8 => (⟨l.toArray⟩ : ByteArray)) = id from funext fun _ => rfl, List.map_id, <- ht]
 have hn := cutL_no t.data.toList
 have hj := cutL_join t.data.toList
 have hl := cutL_length t.data.toList
 have h3 : t.data.toList.length = t.size := Array.length_toList
 cases h : cutL t.data.toList with
 | nil => exact absurd h (cutL_ne _)
 | cons x xs =>
  rw [h] at hn hj hl
  have := splitK_join 10 t.size x xs hn (by simp only [List.length_cons] at hl; omega)
  rw [hj] at this
  exact this
end Go.Proofs.YtbmkmfoaoganeaaGreatDoor

namespace Go.Proofs.YtbmkmfoaoganeaaGreatDoor
open Go.RowKit Go.Shelf
def Hands {α : Type} (n : Nat) (gf : Nat) (lb : Array Value) (enc : α -> Value) (L : List α) (St : World -> Prop) : Prop :=
 ∀ (l : Nat) (J : List α -> World -> Prop) (W : World), (∀ pre W q, J pre W -> J pre (World.drewN W q)) -> (∀ pre W, J pre W -> St W) ->
  (∀ pre x rest W, L = pre ++ x :: rest -> J pre W -> YieldAt Fence.wide (n - 1) Tryz.prog l #[enc x] W fun e W' => e = .returned (.bool true) /\ J (pre ++ [x]) W') -> J [] W ->
  CallsIn Fence.wide n Tryz.prog gf (#[.func (.yield l) #[] #[]] ++ lb) W fun e W' => (∃ v, e = .returned v) /\ J L W'
theorem range_own {α : Type} {n : Nat} {g : Operand} {p : Tmp} {assign body : Code} {Q : Exit -> Act -> World -> Prop} {a : Act} {w : World} {gf : Nat} {lb : Array Value} {enc : α -> Value} {L : List α} {St : World -> Prop} (h1 : 1 <= n)
  (hg : a.eval g = .func (.func gf) #[] lb) (eg : ∀ args w, (callFunc gf args).run Tryz.prog w = .ok (.enter gf args) w) (hseq : Hands (n - 1) gf lb enc L St)
  (I : List α -> World -> Prop) (hput : ∀ pre W k o, I pre W -> k = w.heap.size \/ k = w.heap.size + 1 -> I pre (W.putObj k o)) (hdrew : ∀ pre W q, I pre W -> I pre (World.drewN W q)) (hSt : ∀ pre W, I pre W -> St W)
  (h0 : ∀ o, I [] ((w.alloc (.deferred (some []))).alloc o)) (a₁ : α -> Act)
  (hassign : ∀ (l : Nat) (x : α) (W : World) (K : Act -> World -> Prop), K (a₁ x) W -> assign.wpIn (Fence.wide.inRound l) (n - 1 - 1) Tryz.prog (Exit.then K (fun _ _ _ => False)) { tmps := ((#[p] : Array Tmp).zip #[enc x]).foldl (fun t (p, v) => t.setIfInBounds p v) a.tmps, defers := [] } W)
  (hbody : ∀ (l : Nat) (pre : List α) (x : α) (rest : List α) (W : World), L = pre ++ x :: rest -> I pre W -> w.heap.size + 1 < W.heap.size ->
   body.wpIn (Fence.wide.inRound l) (n - 1 - 1) Tryz.prog (fun e _ W' => e = .normal /\ I (pre ++ [x]) W' /\ W'.heap[w.heap.size]? = W.heap[w.heap.size]? /\ W'.heap[w.heap.size + 1]? = W.heap[w.heap.size + 1]?) (a₁ x) W)
  (hdone : ∀ (D : Nat) (W : World), w.heap.size <= D -> I L W -> W.heap[D]? = some (.deferred (some [])) -> Q .normal { a with defers := { target := .collected D, args := #[] } :: a.defers } W) :
  (Code.rangeFunc g #[p] assign body).wpIn Fence.wide n Tryz.prog Q a w := by
 refine wpIn_rangeFunc fun fn hfn => ?_
 have hrn : (Fence.wide).round = none := rfl
 rw [hrn]
 let r : LoopState -> Option Code -> Loop := fun st pe => { state := st, pending := pe, fn, tmps := a.tmps, params := #[p], assign, body, defers := w.heap.size }
 have hz : (w.alloc (.deferred (some []))).heap.size = w.heap.size + 1 := World.size_alloc _ _
 refine ⟨w.heap.size + 1, [{ target := .collected w.heap.size, args := #[] }], (w.alloc (.deferred (some []))).alloc (.loop (r .ready none)), { target := .fn (.func gf) lb, args := #[.func (.yield (w.heap.size + 1)) #[] #[]] }, (w.alloc (.deferred (some []))).alloc (.loop (r .ready none)), gf, #[.func (.yield (w.heap.size + 1)) #[] #[]] ++ lb, (w.alloc (.deferred (some []))).alloc (.loop (r .ready none)), run_enterLoop_outer _ _ _ _ _, ?_, fun _ _ => trivial, ?_, fun _ => h1, ?_⟩
 ·simp only [resolve, hg]
  simp [go_sem]
 ·simp [invoke, go_sem, eg]
 have hA : ∀ W : World, W.heap[w.heap.size + 1]? = some (.loop (r .ready none)) -> w.heap.size + 1 < W.heap.size := fun W e => (Array.getElem?_eq_some_iff.1 e).1
 refine (hseq (w.heap.size + 1) (fun pre W => I pre W /\ W.heap[w.heap.size + 1]? = some (.loop (r .ready none)) /\ W.heap[w.heap.size]? = some (.deferred (some []))) _ (fun pre W q h => ⟨hdrew pre W q h.1, h.2⟩) (fun pre W h => hSt pre W h.1) ?_ ⟨h0 _, ?_, ?_⟩).mono ?_
 ·rintro pre x rest W hL ⟨hi, hl, hd⟩
  have hlt := hA W hl
  refine ⟨fn, _, assign, body, run_yield (args := #[enc x]) hl rfl, roundIn_of_wpIn hfn (hassign _ x W _ ?_)⟩
  refine ⟨_, run_beginRound hl rfl, ?_⟩
  have hl2 : (W.putObj (w.heap.size + 1) (.loop { r .ready none with state := .busy })).heap[w.heap.size + 1]? = some (.loop { r .ready none with state := .busy }) := World.putObj_heap_same hlt
  have hd2 : (W.putObj (w.heap.size + 1) (.loop { r .ready none with state := .busy })).heap[w.heap.size]? = some (.deferred (some [])) := (World.putObj_heap_other (by omega)).trans hd
  have hlt2 : w.heap.size + 1 < (W.putObj (w.heap.size + 1) (.loop { r .ready none with state := .busy })).heap.size := (Array.getElem?_eq_some_iff.1 hl2).1
  refine wpIn_mono (hbody _ pre x rest _ hL (hput _ _ _ _ hi (.inr rfl)) hlt2) ?_
  rintro e a3 W3 ⟨rfl, hi3, hd3, hl3⟩
  have hl4 := hl3.trans hl2
  refine ⟨_, _, run_endRound none hl4, rfl, hput _ _ _ _ hi3 (.inr rfl), World.putObj_heap_same (Array.getElem?_eq_some_iff.1 hl4).1, (World.putObj_heap_other (by omega)).trans (hd3.trans hd2)⟩
 ·have := World.alloc_heap_new (w.alloc (.deferred (some []))) (.loop (r .ready none))
  rwa [hz] at this
 ·exact (Below.heap_alloc _ _ _ (by rw [hz]; omega)).trans (World.alloc_heap_new w _)
 ·rintro e W2 ⟨⟨v, rfl⟩, hi, hl, hd⟩
  exact ⟨none, _, run_endLoop hl (show LoopState.ready ≠ LoopState.busy by decide), hdone _ _ zr (hput _ _ _ _ hi (.inr rfl)) ((World.putObj_heap_other (by omega)).trans hd)⟩
end Go.Proofs.YtbmkmfoaoganeaaGreatDoor

namespace Go.Proofs.YtbmkmfoaoganeaaGreatDoor
open Go.RowKit Go.Maps
theorem app_place {P : Program} (w : World) (base : Nat) (t u ty e : TypeId) (i : TypeInfo) (ht : P.underlying t = some (.slice e)) (hu : P.underlying u = some .string) (hi : P.info? e = some i) (hz : i.zero = some (.int .u8 0)) (hsize : i.size = 1) (hby : i.bytes = 1)
  (v : Value) (n : Nat) (xs : List Value) (hown : w.ownsRow base e 1 v n xs) (s : ByteArray) (h63 : n + s.size <= maxLen) (hbytes : n + s.size <= 140737488355328) (hbase : base <= w.heap.size) :
  ∃ v' w', (Builtin.append_ #[t, u] ty #[v, .string s]).run P w = .ok v' w' /\ w'.ownsRow base e 1 v' (n + s.size) (xs ++ Lib.strCells s) /\ w.grownBy w' v.ownBlock /\ (v'.ownBlock = v.ownBlock \/ v'.ownBlock = some w.heap.size) := by
 obtain ⟨v', w', hr, h1, h2, h3⟩ := Lib.run_append_own_string (P := P) w base t u ty e i ht hu hi hz hsize hby v n xs hown s h63 hbytes hbase
 refine ⟨v', w', hr, h1, h2, ?_⟩
 have hxl : xs.length = n := by simpa using hown.1
 rcases id hown.2 with ⟨rfl, rfl⟩ | ⟨g, cap, cur, rfl, hbg, hg, hnc, hcm, hcs, htake⟩
 ·by_cases hm : s.size = 0
  ·exact .inl (by rw [h3.2 ⟨rfl, hm⟩])
  ·have := run_append_nil_string (P := P) w t u ty e i (.int .u8 0) ht hu hi hz s (by omega) (by omega) (by rw [hby]; omega)
   rw [this] at hr
   cases hr
   exact .inr rfl
 ·by_cases hroom : n + s.size <= cap
  ·have := Lib.run_append_room_string (P := P) w t u ty e i ht hu hi hsize g n cap cur hg s hroom (by simp at hcs; omega)
   rw [this] at hr
   cases hr
   exact .inl rfl
  ·have := Lib.run_append_grow_string (P := P) w t u ty e i (.int .u8 0) ht hu hi hz ⟨g, 0, none⟩ n cap xs (by rw [hsize]; simpa using hxl) (hown.cells (g := g) rfl) s (by omega) (by omega) (by rw [hby]; exact growslice_fits (by omega) (by omega))
   rw [this] at hr
   cases hr
   exact .inr rfl
theorem wpList_appStr {P : Program} (w : World) {ops : Array Oper} {rest : List Oper} {o : Oper} {a : Act} {Q : Exit -> Act -> World -> Prop} (hgd : o.guard = none) (sl x : Operand) (t u : TypeId)
  (ho : o.op = .call { callee := .builtin .append, args := #[sl, x], argTypes := #[t, u] }) (base : Nat) (e : TypeId) (i : TypeInfo) (ht : P.underlying t = some (.slice e)) (hu : P.underlying u = some .string) (hi : P.info? e = some i) (hz : i.zero = some (.int .u8 0)) (hsize : i.size = 1) (hby : i.bytes = 1)
  (v : Value) (n : Nat) (xs : List Value) (hs : a.eval sl = v) (hown : w.ownsRow base e 1 v n xs) (s : ByteArray) (hx : a.eval x = .string s) (h63 : n + s.size <= maxLen) (hbytes : n + s.size <= 140737488355328) (hbase : base <= w.heap.size)
  (h : ∀ v' w', w'.ownsRow base e 1 v' (n + s.size) (xs ++ Lib.strCells s) -> w.grownBy w' v.ownBlock -> (v'.ownBlock = v.ownBlock \/ v'.ownBlock = some w.heap.size) -> wpList P ops Q rest (a.put o.dst v') w') : wpList P ops Q (o :: rest) a w := by
 refine wpList_plain hgd fun K hK => ?_
 obtain ⟨v', w', hr, h2, h3, h4⟩ := app_place (P := P) w base t u o.type e i ht hu hi hz hsize hby v n xs hown s h63 hbytes hbase
 unfold Oper.wp execOp
 simp only [ho, resolve, invoke, builtin, Sem.run_bind, Sem.run_pure, Result.andThen_ok, List.map_toArray, List.map_cons, List.map_nil, hs, hx, hr]
 exact hK _ _ (h v' w' h2 h3 h4)
def BldP (W : World) (base bo : Nat) (p : Value) (row : Option Nat) (l : List UInt8) : Prop :=
 ∃ v, W.heap[bo]? = some (.cells #[p, v] 31 (0, 0)) /\ W.ownsRow base 5 1 v l.length (Lib.byteCells l) /\ v.ownBlock = row /\ row ≠ some bo
def Bld (W : World) (base bo : Nat) (row : Option Nat) (l : List UInt8) : Prop := base <= bo /\ (BldP W base bo (.pointer none) row l \/ BldP W base bo (.pointer (some ⟨bo, 0, none⟩)) row l)
theorem BldP.keeps {W W' : World} {base bo : Nat} {p : Value} {row : Option Nat} {l : List UInt8} {H : Nat -> Prop} (h : BldP W base bo p row l) (hk : Keeps H W W') (h0 : ¬ H bo) (h1 : ∀ g, row = some g -> ¬ H g) : BldP W' base bo p row l := by
 obtain ⟨v, q1, q2, rfl, q4⟩ := h
 refine ⟨v, (hk.block bo (Array.getElem?_eq_some_iff.1 q1).1 h0).trans q1, ?_, rfl, q4⟩
 obtain ⟨e1, e2⟩ := q2
 refine ⟨e1, ?_⟩
 rcases e2 with ⟨e2, e3⟩ | ⟨g, cap, cur, rfl, e3, e4, e5⟩
 ·exact .inl ⟨e2, e3⟩
 ·exact .inr ⟨g, cap, cur, rfl, e3, (hk.block g (Array.getElem?_eq_some_iff.1 e4).1 (h1 g rfl)).trans e4, e5⟩
theorem Bld.keeps {W W' : World} {base bo : Nat} {row : Option Nat} {l : List UInt8} {H : Nat -> Prop} (h : Bld W base bo row l) (hk : Keeps H W W') (h0 : ¬ H bo) (h1 : ∀ g, row = some g -> ¬ H g) : Bld W' base bo row l :=
 ⟨h.1, h.2.imp (fun q => q.keeps hk h0 h1) (fun q => q.keeps hk h0 h1)⟩
theorem BldP.lt {W : World} {base bo : Nat} {p : Value} {row : Option Nat} {l : List UInt8} (h : BldP W base bo p row l) : bo < W.heap.size /\ ∀ g, row = some g -> g < W.heap.size := by
 obtain ⟨v, q1, q2, rfl, q4⟩ := h
 refine ⟨(Array.getElem?_eq_some_iff.1 q1).1, fun g hg => ?_⟩
 rcases q2.2 with ⟨e2, e3⟩ | ⟨g', cap, cur, rfl, e3, e4, e5⟩
 ·subst e2
  cases hg
 ·cases hg
  exact (Array.getElem?_eq_some_iff.1 e4).1
theorem Bld.lt {W : World} {base bo : Nat} {row : Option Nat} {l : List UInt8} (h : Bld W base bo row l) : bo < W.heap.size /\ ∀ g, row = some g -> g < W.heap.size := h.2.elim BldP.lt BldP.lt
theorem Bld.new (W : World) : Bld (W.alloc (.cells #[.pointer none, .slice none 0 0] 31)) W.heap.size W.heap.size none [] :=
 ⟨Nat.le_refl _, .inl ⟨.slice none 0 0, heap_alloc_new _ _, World.ownsRow_nil _ _ _ _, rfl, by simp⟩⟩
theorem Bld.is {W : World} {base bo : Nat} {row : Option Nat} {l : List UInt8} (h : Bld W base bo row l) : Lib.IsBuilder 31 5 base bo (Lib.byteCells l) W := by
 refine h.2.imp ?_ ?_
 all_goals
  rintro ⟨v, q1, q2, rfl, q4⟩
  exact ⟨h.1, v, q1, by rw [Lib.byteCells_length]; exact q2, q4⟩
theorem bld_used {W : World} {base bo : Nat} {row : Option Nat} {l : List UInt8} (h : Bld W base bo row l) :
  Calls Tryz.prog 32 #[.pointer (some ⟨bo, 0, none⟩)] W fun e W' => e = .returned (.tuple #[]) /\ BldP W' base bo (.pointer (some ⟨bo, 0, none⟩)) row l /\ Keeps (· = bo) W W' /\ W'.heap.size = W.heap.size := by
 rcases h.2 with q | q
 ·obtain ⟨v, q1, q2, q3, q4⟩ := q
  have hB : Lib.BuilderAt 31 5 base bo (.pointer none) (Lib.byteCells l) W := ⟨h.1, v, q1, by rw [Lib.byteCells_length]; exact q2, by rw [q3]; exact q4⟩
  refine (Any.Builder_copyCheck_fresh { Tryz.lays156 with } Tryz.Builder_Extra_156.toX72 bo W hB.cell0 hB.shape hB.frozen0).mono ?_
  rintro e W' ⟨rfl, rfl⟩
  obtain ⟨_, v', e1, e2, e3⟩ := hB.used (.pointer (some ⟨bo, 0, none⟩))
  have c1 : W.cell? ⟨bo, 1, none⟩ = some v := by rw [Lib.cell_of_heap q1]; rfl
  have c2 : (W.setCell ⟨bo, 0, none⟩ (.pointer (some ⟨bo, 0, none⟩))).cell? ⟨bo, 1, none⟩ = some v' := by rw [Lib.cell_of_heap e1]; rfl
  rw [zo _ _ _ _ (by simp), c1] at c2
  cases c2
  rw [Lib.byteCells_length] at e2
  exact ⟨rfl, ⟨v, e1, e2, q3, q4⟩, keeps_set W bo 0 _, by simp⟩
 ·have c0 : W.cell? ⟨bo, 0, none⟩ = some (.pointer (some ⟨bo, 0, none⟩)) := by
   obtain ⟨v, q1, _⟩ := q
   rw [Lib.cell_of_heap q1]
   rfl
  refine (Any.Builder_copyCheck_used { Tryz.lays156 with } Tryz.Builder_Extra_156.toX72 bo W c0).mono ?_
  rintro e W' ⟨rfl, rfl⟩
  exact ⟨rfl, q, Keeps.refl _ _, rfl⟩
theorem builder_row : (Tryz.prog.info? 5).map (fun i => (i.zero, i.size, i.bytes)) = some (some (.int .u8 0), 1, 1) := by kernel_rfl
theorem bytes_app (l : List UInt8) (s : ByteArray) : Lib.byteCells l ++ Lib.strCells s = Lib.byteCells (l ++ s.data.toList) := by simp [Lib.byteCells, Lib.strCells]
theorem bld_write {W : World} {base bo : Nat} {row : Option Nat} {l : List UInt8} (h : Bld W base bo row l) (s : ByteArray) (hn : l.length + s.size <= 140737488355328) (hb : base <= W.heap.size) :
  Calls Tryz.prog 8 #[.pointer (some ⟨bo, 0, none⟩), .string s] W fun e W' => e = .returned (.tuple #[.int .i64 s.size, .nilIface]) /\ ∃ row', Bld W' base bo row' (l ++ s.data.toList) /\ (row' = row \/ row' = some W.heap.size) /\ Keeps (fun i => i = bo \/ some i = row) W W' := by
 obtain ⟨i0, hi, hz0, hz1, hz2⟩ := info_parts builder_row
 have HC := zh (bld_used h)
 have hbo := h.1
 have HLt := zh h.lt
 clear h
 have HN := zh hn
 have HBs := zh hb
 clear hn hb
 go_enter Tryz.func8, Tryz.ntmps8
 go_wp2_with fail
 refine (uh HC).mono ?_
 rintro e W1 ⟨rfl, ⟨v, q1, q2, q3, q4⟩, hk, hz⟩
 have c1 : W1.cell? ⟨bo, 1, none⟩ = some v := by rw [Lib.cell_of_heap q1]; rfl
 have f1 : W1.frozen? ⟨bo, 1, none⟩ = false := Lib.frozen_of_heap q1 1
 have h63 : l.length + s.size <= maxLen := by have := uh HN; unfold maxLen; omega
 have hbs1 : base <= W1.heap.size := by rw [hz]; exact uh HBs
 have HK := zh hk
 have HZ := zh hz
 have HQ1 := zh q1
 have HQ3 := zh q3
 have HQ4 := zh q4
 have HQ2 := zh q2
 clear hk hz q1 q3 q4 q2 HC
 go_wp2_with (at_builtin; refine wpList_appStr _ rfl _ _ 29 9 rfl base 5 i0 Tryz.underlying29 Tryz.underlying9 hi hz0 hz1 hz2 v l.length (Lib.byteCells l) rfl (uh HQ2) s rfl h63 (uh HN) hbs1 ?_)
 intro v' W2 hown' hgrow hplace
 have hb2 : W2.heap[bo]? = some (.cells #[.pointer (some ⟨bo, 0, none⟩), v] 31 (0, 0)) := (hgrow.block bo (Array.getElem?_eq_some_iff.1 (uh HQ1)).1 (fun e => uh HQ4 (by rw [<- uh HQ3, <- e]))).trans (uh HQ1)
 have d1 : W2.cell? ⟨bo, 1, none⟩ = some v := by rw [Lib.cell_of_heap hb2]; rfl
 have g1 : W2.frozen? ⟨bo, 1, none⟩ = false := Lib.frozen_of_heap hb2 1
 have hlt1 : bo < W1.heap.size := (Array.getElem?_eq_some_iff.1 (uh HQ1)).1
 have hne' : v'.ownBlock ≠ some bo := by
  rcases hplace with e | e
  ·rw [e, uh HQ3]
   exact uh HQ4
  ·rw [e]
   intro q
   have := Option.some.inj q
   omega
 have HF : Hid (∃ row', Bld (W2.setCell ⟨bo, 1, none⟩ v') base bo row' (l ++ s.data.toList) /\ (row' = row \/ row' = some W.heap.size) /\ Keeps (fun i => i = bo \/ some i = row) W (W2.setCell ⟨bo, 1, none⟩ v')) := zh (by
  refine ⟨v'.ownBlock, ⟨hbo, .inr ⟨v', ?_, ?_, rfl, hne'⟩⟩, ?_, ?_⟩
  ·simp [World.setCell, Array.getElem?_modify, hb2]
  ·have hl : (l ++ s.data.toList).length = l.length + s.size := by rw [List.length_append]; exact congrArg _ Array.length_toList
   rw [hl, <- bytes_app]
   have hks := keeps_set W2 bo 1 v'
   exact hown'.kept (row := some bo) ⟨hks.os, hks.tape, hks.output, hks.size, fun i hi e => hks.block i hi (fun q => e (by rw [q]))⟩ (.inr hne')
  ·rcases hplace with e | e
   ·exact .inl (e.trans (uh HQ3))
   ·exact .inr (by rw [e, uh HZ])
  ·refine (((uh HK).mono (fun i _ e => .inl e)).then (Keeps.of_grown (F := fun i => i = bo \/ some i = row) hgrow (fun i e => .inl (.inr (by rw [<- uh HQ3, e])))) (fun i _ q => q)).then (keeps_set W2 bo 1 v') (fun i _ e => .inl e))
 obtain ⟨ao', n', cap', hv'⟩ : ∃ ao n cap, v' = .slice ao n cap := by
  rcases hown'.2 with ⟨e, _⟩ | ⟨g, cap, cur, e, _⟩
  ·exact ⟨_, _, _, e⟩
  ·exact ⟨_, _, _, e⟩
 subst hv'
 clear hown' hgrow hplace hb2 hne' HQ1 HQ2 HQ3 HQ4 HK HZ c1 f1
 go_wp2
 go_ret2
 exact ⟨rfl, uh HF⟩
end Go.Proofs.YtbmkmfoaoganeaaGreatDoor
