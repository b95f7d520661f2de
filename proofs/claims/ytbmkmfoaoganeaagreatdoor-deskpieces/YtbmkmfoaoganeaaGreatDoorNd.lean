/- Texts of one proof, one behind the other. -/
import Derived.Test.YtbmkmfoaoganeaaGreatDoorNb
import Derived.Test.YtbmkmfoaoganeaaGreatDoorShelfP
import Derived.Test.YtbmkmfoaoganeaaGreatDoorNc
import Derived.Deep.RegionHeld3
import Derived.Shelf.SlSorted.Search
import Derived.Lib.Small
set_option maxRecDepth 100000
set_option maxHeartbeats 16000000
namespace Go.Proofs.YtbmkmfoaoganeaaGreatDoor
open Go.RowKit Go.Sort Go.Shelf Go.Lib
theorem nan_int (n : Int) (w : World) : Calls Tryz.prog 159 #[.int .i64 n] w fun e w' => e = .returned (.bool false) /\ w' = w := by
 go_enter Tryz.func159, Tryz.ntmps159
 go_wp2
 go_ret
 exact ⟨ret_bool (by simp), rfl⟩
theorem compare_int (x y : Int) (w : World) : Calls Tryz.prog 116 #[.int .i64 x, .int .i64 y] w fun e w' => e = .returned (.int .i64 (Lib.compareInt x y)) /\ w' = w := by
 have HN := zh (fun n W => nan_int n W)
 by_cases h1 : x < y
 ·have e : Lib.compareInt x y = -1 := by simp [Lib.compareInt, h1]
  rw [e]
  clear e
  go_enter Tryz.func116, Tryz.ntmps116
  go_wp2_with (go_at_call 159; refine (uh HN _ _).mono ?_; rintro e w' ⟨rfl, rfl⟩)
  go_ret
  exact ⟨rfl, rfl⟩
 ·by_cases h2 : y < x
  ·have e : Lib.compareInt x y = 1 := by simp [Lib.compareInt, h1, h2]
   rw [e]
   clear e
   go_enter Tryz.func116, Tryz.ntmps116
   go_wp2_with (go_at_call 159; refine (uh HN _ _).mono ?_; rintro e w' ⟨rfl, rfl⟩)
   go_ret
   exact ⟨rfl, rfl⟩
  ·have e : Lib.compareInt x y = 0 := by simp [Lib.compareInt, h1, h2]
   rw [e]
   clear e
   go_enter Tryz.func116, Tryz.ntmps116
   go_wp2_with (go_at_call 159; refine (uh HN _ _).mono ?_; rintro e w' ⟨rfl, rfl⟩)
   go_ret
   exact ⟨rfl, rfl⟩
def orL : List Int -> Int
 | [] => 0
 | x :: l => if x = 0 then orL l else x
theorem orL_zero (l : List Int) (h : ∀ x, x ∈ l -> x = 0) : orL l = 0 := by
 induction l with
 | nil => rfl
 | cons x l ih => rw [orL, if_pos (h x (by simp)), ih (fun y hy => h y (by simp [hy]))]
theorem orL_at (l : List Int) (k : Nat) (hk : k < l.length) (h : ∀ j, (hj : j < k) -> l[j] = 0) (h2 : l[k] ≠ 0) : orL l = l[k] := by
 induction l generalizing k with
 | nil => simp at hk
 | cons x l ih =>
  cases k with
  | zero => simp at h2 ⊢; rw [orL, if_neg h2]
  | succ k =>
   have h0 := h 0 (by omega)
   simp at h0
   rw [orL, if_pos h0]
   simp only [List.getElem_cons_succ] at h2 ⊢
   exact ih k (by simpa using hk) (fun j hj => by have := h (j + 1) (by omega); simpa using this) h2
theorem or_int (xs : List Int) (b o c : Nat) (w : World) (hn : xs.length < 1099511627776) (hc : ∀ k, (hk : k < xs.length) -> w.cell? ⟨b, o + k, none⟩ = some (.int .i64 xs[k])) :
  Calls Tryz.prog 150 #[.slice (some ⟨b, o, none⟩) xs.length c] w fun e w' => e = .returned (.int .i64 (orL xs)) /\ w' = w := by
 have HC := zh hc
 clear hc
 go_enter Tryz.func150, Tryz.ntmps150
 go_wp2
 go_loop [8] (fun i => ∃ k : Nat, k <= xs.length /\ i = .int .i64 k /\ ∀ j, (hj : j < xs.length) -> j < k -> xs[j] = 0) (fun i => xs.length - (intOf i).toNat)
 case atStart => exact ⟨0, Nat.zero_le _, rfl, fun j _ h => absurd h (Nat.not_lt_zero _)⟩
 case round =>
  obtain ⟨k, hk, rfl, hz⟩ := hrel
  have HZ := zh hz
  clear hz
  by_cases hlt : k < xs.length
  ·have hlt' : (k : Int) < (xs.length : Int) := by omega
   have c1 := uh HC k hlt
   have hF : ∃ y, y = xs[k] := ⟨_, rfl⟩
   obtain ⟨y, hy⟩ := hF
   have HY := zh hy
   rw [<- hy] at c1
   clear hy
   by_cases h0 : y = 0
   ·subst h0
    go_wp2
    go_round
    case rel =>
     refine ⟨k + 1, by omega, by go_num, fun j hj hjk => ?_⟩
     by_cases e : j = k
     ·subst e; exact (uh HY).symm
     ·exact uh HZ j hj (by omega)
    case measure => simp [intOf]; omega
   ·have h0' : (y == 0) = false := by simp [h0]
    have E := zh (orL_at xs k hlt (fun j hj => uh HZ j (by omega) hj) (by rw [<- uh HY]; exact h0))
    go_wp2
    go_ret
    exact ⟨ret_int (by rw [uh E, uh HY]), rfl⟩
  ·have hlt' : ¬ (k : Int) < (xs.length : Int) := by omega
   have E := zh (orL_zero xs (fun x hx => by
    obtain ⟨j, hj, rfl⟩ := List.getElem_of_mem hx
    exact uh HZ j hj (by omega)))
   go_wp2
   go_ret
   exact ⟨ret_int (uh E), rfl⟩
def entCmp (a b : Ent) : Int := orL [Lib.compareInt a.lo b.lo, Lib.compareInt a.id b.id]
theorem entCmp_neg (a b : Ent) : entCmp a b < 0 ↔ (a.lo < b.lo \/ (a.lo = b.lo /\ a.id < b.id)) := by
 unfold entCmp orL orL orL Lib.compareInt
 by_cases h1 : a.lo < b.lo
 ·simp [h1]
 ·by_cases h2 : b.lo < a.lo
  ·have : ¬ a.lo = b.lo := by omega
   simp [h1, h2, this]
  ·have e : a.lo = b.lo := by omega
   by_cases h3 : a.id < b.id
   ·simp [e, h3]
   ·by_cases h4 : b.id < a.id
    ·simp [e, h3, h4]
    ·simp [e, h3, h4]
theorem two_cells (W : World) (x y : Int) : ∀ k, (hk : k < [x, y].length) -> (W.alloc (.cells #[.int .i64 x, .int .i64 y] 3)).cell? ⟨W.heap.size, 0 + k, none⟩ = some (.int .i64 [x, y][k]) := by
 intro k hk
 rcases k with _ | _ | k
 ·simp
 ·simp
 ·simp at hk; omega
def FourC (a b : Nat) (x y : Ent) (w z : World) : Prop := (z.cell? ⟨a, 0, none⟩ = some (.int .i64 x.id) /\ z.cell? ⟨a, 1, none⟩ = some (.int .i64 x.lo) /\ z.cell? ⟨b, 0, none⟩ = some (.int .i64 y.id) /\ z.cell? ⟨b, 1, none⟩ = some (.int .i64 y.lo)) /\ ∃ q os, z = grow (w.drewN q) os
theorem FourC.alloc {a b : Nat} {x y : Ent} {w z : World} (h : FourC a b x y w z) (o : Obj) : FourC a b x y w (z.alloc o) := by
 obtain ⟨⟨h1, h2, h3, h4⟩, q, os, e⟩ := h
 refine ⟨⟨?_, ?_, ?_, ?_⟩, q, os ++ #[o], ?_⟩
 ·rw [World.cell?_alloc_lt _ _ _ (lt_of_cell h1), h1]
 ·rw [World.cell?_alloc_lt _ _ _ (lt_of_cell h2), h2]
 ·rw [World.cell?_alloc_lt _ _ _ (lt_of_cell h3), h3]
 ·rw [World.cell?_alloc_lt _ _ _ (lt_of_cell h4), h4]
 ·rw [e, alloc_eq_grow, grow_grow]
theorem tree_compare (a b : Nat) (x y : Ent) (w : World) (ha : NodeAt w a x) (hb : NodeAt w b y) :
  Calls Tryz.prog 278 #[.pointer (some ⟨a, 0, none⟩), .pointer (some ⟨b, 0, none⟩)] w fun e w' => e = .returned (.int .i64 (entCmp x y)) /\ ∃ q os, w' = grow (w.drewN q) os := by
 obtain ⟨l1, p1, q1, h1⟩ := ha
 obtain ⟨l2, p2, q2, h2⟩ := hb
 have a0 := h1.c0
 have a1 := h1.c1
 have b0 := h2.c0
 have b1 := h2.c1
 clear h1 h2
 unfold entCmp
 go_enter Tryz.func278, Tryz.ntmps278
 have HF : Hid (FourC a b x y w w.drew) := ⟨⟨a0, a1, b0, b1⟩, 1, #[], by rw [grow_empty]; rfl⟩
 clear a0 a1 b0 b1
 go_wp2
 go_region_held3 (fun z => (z.cell? ⟨a, 0, none⟩ = some (.int .i64 x.id) /\ z.cell? ⟨a, 1, none⟩ = some (.int .i64 x.lo) /\ z.cell? ⟨b, 0, none⟩ = some (.int .i64 y.id) /\ z.cell? ⟨b, 1, none⟩ = some (.int .i64 y.lo)) /\ ∃ q os, z = grow (w.drewN q) os)
  (first | exact uh HF | assumption | exact FourC.alloc (by assumption) _)
  (first
   | (go_at_call 116; refine (compare_int _ _ _).mono ?_; rintro e w1 ⟨rfl, rfl⟩)
   | (go_at_call 150; refine (or_int [Lib.compareInt x.lo y.lo, Lib.compareInt x.id y.id] _ 0 _ _ (by simp) ?_).mono ?_; (exact two_cells _ _ _); rintro e w1 ⟨rfl, rfl⟩))
 rename_i hh
 have HB := zh hh.2
 clear hh
 go_wp2
 go_ret
 exact ⟨rfl, uh HB⟩
structure Nd (w : World) (blk : Nat) where
 p : Nat × Ent
 h : NodeAt w p.1 p.2
 o : p.1 ≠ blk
def encN {w : World} {blk : Nat} (n : Nd w blk) : Value := .pointer (some ⟨n.p.1, 0, none⟩)
theorem heap_sortWorld {α : Type} [Inhabited α] (enc : α -> Value) (w : World) (blk off m : Nat) (d : Array α) (os : Array Obj) (k : Nat) (hk : k < w.heap.size) (hne : k ≠ blk) : (sortWorld enc w blk off m d os).heap[k]? = w.heap[k]? := by
 unfold sortWorld
 rw [heap_grow_old _ _ (by simpa [putRow, mapBlock, Sort.ahead] using hk)]
 have : blk ≠ k := fun e => hne e.symm
 simp [putRow, mapBlock, Sort.ahead, Array.getElem?_modify, this]
theorem search_node (X : List (Nat × Ent)) (p : Nat × Ent) (q c base : Nat) (w : World) (hO : Ordered X) (hX : ∀ x, x ∈ X -> NodeAt w x.1 x.2) (hq : ∀ x, x ∈ X -> x.1 ≠ q) (hp : NodeAt w p.1 p.2) (hpq : p.1 ≠ q)
  (hr : w.ownsRow base 201 1 (.slice (some ⟨q, 0, none⟩) X.length c) X.length (X.map ptrB)) (hl : X.length <= 100000) :
  Calls Tryz.prog 277 #[.slice (some ⟨q, 0, none⟩) X.length c, .pointer (some ⟨p.1, 0, none⟩), .func (.func 278) #[] #[]] w fun e w' =>
   ∃ bl, e = .returned (.tuple #[.int .i64 (posX X p.2), .bool bl]) /\ Below w.heap.size w w' := by
 obtain ⟨cur, hb, _⟩ := row_block hr
 let _ : Inhabited (Nd w q) := ⟨⟨p, hp, hpq⟩⟩
 let d : Array (Nd w q) := (X.attach.map (fun x => (⟨x.1, hX x.1 x.2, hq x.1 x.2⟩ : Nd w q))).toArray
 have hds : d.size = X.length := by simp [d]
 have hdg : ∀ i, (h : i < X.length) -> (d[i]!).p = X[i] := fun i h => by
  rw [getElem!_pos d i (by rw [hds]; exact h)]
  simp [d]
 have eg : ∀ args w, (callFunc 278 args).run Tryz.prog w = .ok (.enter 278 args) w := enters_of Tryz.func278 (by kernel_rfl) rfl
 have hcmp : CmpLaysT Tryz.prog 278 #[] (encN (w := w) (blk := q)) (.pointer (some ⟨p.1, 0, none⟩)) (fun n => entCmp n.p.2 p.2) q 0 d.size w := fun m os dk _ x => by
  have nd : ∀ y : Nat × Ent, NodeAt w y.1 y.2 -> y.1 ≠ q -> NodeAt (sortWorld encN w q 0 m dk os) y.1 y.2 := fun y hy hne => by
   have hlt := hy.lt
   obtain ⟨l, u, v, h⟩ := hy
   exact ⟨l, u, v, h.of_block (heap_sortWorld _ _ _ _ _ _ _ _ hlt hne)⟩
  exact tree_compare x.p.1 p.1 x.p.2 p.2 _ (nd x.p x.h x.o) (nd p hp hpq)
 have hH : Holds (encN (w := w) (blk := q)) w q 0 d := fun j hj => by
  rw [hds] at hj
  refine ⟨?_, ?_⟩
  ·rw [Nat.zero_add, hr.cellAt j (by simpa using hj)]
   simp only [List.getElem?_map, List.getElem?_eq_getElem hj, Option.map_some]
   unfold encN ptrB
   rw [hdg j hj]
  ·exact hr.frozenAt _
 have hmono : ∀ a b, a <= b -> b < d.size -> entCmp (d[b]!).p.2 p.2 < 0 -> entCmp (d[a]!).p.2 p.2 < 0 := fun a b hab hbs h => by
  rw [hds] at hbs
  rw [hdg b hbs] at h
  rw [hdg a (by omega)]
  rcases Nat.lt_or_ge a b with k | k
  ·have h1 : Ahead (X[a]'(by omega)).2 X[b].2 := List.pairwise_iff_getElem.1 hO a b (by omega) hbs k
   rw [entCmp_neg] at h ⊢
   exact Ahead.trans h1 h
  ·obtain rfl : a = b := by omega
   exact h
 have hcon := Any.slices_BinarySearchFunc Tryz.searchNode (encN (w := w) (blk := q)) (fun _ => rfl) (.pointer (some ⟨p.1, 0, none⟩)) (fun n => entCmp n.p.2 p.2) 278 #[] q 0 c d w eg hcmp hH (lt_of_block hb) (by rw [hds]; omega) hmono
 change Calls Tryz.prog 277 _ _ _ at hcon
 have hcnt : d.toList.countP (fun x => decide (entCmp x.p.2 p.2 < 0)) = posX X p.2 := by
  have e1 : d.toList = X.attach.map (fun x => (⟨x.1, hX x.1 x.2, hq x.1 x.2⟩ : Nd w q)) := rfl
  rw [e1, List.countP_map]
  have : (fun x : { x // x ∈ X } => decide (entCmp x.1.2 p.2 < 0)) = ((fun x : Nat × Ent => decide (x.2.lo < p.2.lo \/ (x.2.lo = p.2.lo /\ x.2.id < p.2.id))) ∘ Subtype.val) := by
   funext x
   simp only [Function.comp]
   exact decide_eq_decide.2 (entCmp_neg _ _)
  show List.countP (fun x : { x // x ∈ X } => decide (entCmp x.1.2 p.2 < 0)) X.attach = _
  rw [this, <- List.countP_map, List.attach_map_subtype_val]
  rfl
 rw [hcnt, hds] at hcon
 refine hcon.mono ?_
 rintro e w' ⟨rfl, m, os, rfl⟩
 refine ⟨_, rfl, ?_⟩
 unfold sortWorld
 rw [putRow_self _ _ _ _ _ (holds_ahead _ w m q 0 d hH)]
 exact below_grown_sl _ w m os zr
end Go.Proofs.YtbmkmfoaoganeaaGreatDoor

namespace Go.Proofs.YtbmkmfoaoganeaaGreatDoor
open Go.RowKit Go.Maps
theorem nodes_rising {L : List Ent} (h : Rising L) : (L.map (·.id)).Nodup := by
 rw [List.nodup_iff_pairwise_ne, List.pairwise_map]
 exact List.Pairwise.imp (fun h => by omega) h
def MapAt (w : World) (mv : Option Nat) (X : List (Nat × Ent)) : Prop := (mv = none /\ X = []) \/ ∃ m D, mv = some m /\ w.ownsMap Tryz.prog 3 ptrElem m X.length D /\ Keys D X
structure PX (w : World) (B : Nat) (L : List Ent) (mv : Option Nat) (X : List (Nat × Ent)) (F : Nat -> Prop) : Prop where
 c0 : w.cell? ⟨B, 1, none⟩ = some (.map mv)
 c1 : w.cell? ⟨B, 2, none⟩ = some (linkT X).ptr
 f : ∀ i, w.frozen? ⟨B, i, none⟩ = false
 map : MapAt w mv X
 lies : (linkT X).Lies w
 ordered : Ordered X
 right : ∀ x, x ∈ X -> rightB x.2.lo x.2.hi = true
 nodup : (X.map (·.1)).Nodup
 out : ∀ x, x ∈ X -> x.1 ≠ B
 both : Both L X
 rising : Rising L
 len : L.length <= 4000
 fB : F B
 fm : ∀ m, mv = some m -> F m
 fX : ∀ x, x ∈ X -> F x.1
 lt : ∀ i, F i -> i < w.heap.size
def PT (w : World) (B : Nat) (L : List Ent) (F : Nat -> Prop) : Prop := ∃ mv X, PX w B L mv X F
theorem right_lt {a b : Int} (h : rightB a b = true) : a < b := by
 unfold rightB at h
 exact (of_decide_eq_true h).2.2
theorem PX.nodeAt {w : World} {B : Nat} {L : List Ent} {mv : Option Nat} {X : List (Nat × Ent)} {F : Nat -> Prop} (h : PX w B L mv X F) (x : Nat × Ent) (hx : x ∈ X) : NodeAt w x.1 x.2 :=
 h.lies.at x (by rw [items_link]; exact hx)
theorem PX.fine {w : World} {B : Nat} {L : List Ent} {mv : Option Nat} {X : List (Nat × Ent)} {F : Nat -> Prop} (h : PX w B L mv X F) : (linkT X).Fine :=
 fine_link X h.ordered (fun x hx => right_lt (h.right x hx))
theorem PX.length {w : World} {B : Nat} {L : List Ent} {mv : Option Nat} {X : List (Nat × Ent)} {F : Nat -> Prop} (h : PX w B L mv X F) : X.length = L.length := by
 have := h.both.length_eq
 rw [List.length_map] at this
 exact this.symm
theorem PX.ids {w : World} {B : Nat} {L : List Ent} {mv : Option Nat} {X : List (Nat × Ent)} {F : Nat -> Prop} (h : PX w B L mv X F) : (X.map (fun x => x.2.id)).Nodup := by
 have := (h.both.map (·.id)).nodup_iff.1 (nodes_rising h.rising)
 rw [List.map_map] at this
 exact this
theorem MapAt.keeps {w w' : World} {mv : Option Nat} {X : List (Nat × Ent)} {G : Nat -> Prop} (h : MapAt w mv X) (hk : Keeps G w w') (hG : ∀ m, mv = some m -> ¬ G m) : MapAt w' mv X := by
 rcases h with h | ⟨m, D, e, h1, h2⟩
 ·exact .inl h
 ·exact .inr ⟨m, D, e, ownsMap_keeps h1 hk (hG m e), h2⟩
theorem PX.keeps {w w' : World} {B : Nat} {L : List Ent} {mv : Option Nat} {X : List (Nat × Ent)} {F G : Nat -> Prop} (h : PX w B L mv X F) (hk : Keeps G w w') (hG : ∀ i, F i -> ¬ G i) : PX w' B L mv X F := by
 have hB := h.lt B h.fB
 refine ⟨(hk.cell (p := ⟨B, 1, none⟩) hB (hG B h.fB)).trans h.c0, (hk.cell (p := ⟨B, 2, none⟩) hB (hG B h.fB)).trans h.c1, fun i => (hk.frozen (p := ⟨B, i, none⟩) hB (hG B h.fB)).trans (h.f i), h.map.keeps hk (fun m e => hG m (h.fm m e)), h.lies.keeps hk (fun x hx => hG _ (h.fX x (by rw [items_link] at hx; exact hx))), h.ordered, h.right, h.nodup, h.out, h.both, h.rising, h.len, h.fB, h.fm, h.fX, fun i hi => Nat.lt_of_lt_of_le (h.lt i hi) hk.size⟩
theorem PT.keeps {w w' : World} {B : Nat} {L : List Ent} {F G : Nat -> Prop} (h : PT w B L F) (hk : Keeps G w w') (hG : ∀ i, F i -> ¬ G i) : PT w' B L F := by
 obtain ⟨mv, X, h⟩ := h
 exact ⟨mv, X, h.keeps hk hG⟩
theorem PT.below {w w' : World} {B : Nat} {L : List Ent} {F : Nat -> Prop} (h : PT w B L F) (hb : Below w.heap.size w w') : PT w' B L F :=
 h.keeps (Keeps.of_below (fun _ => False) hb zr) (fun _ _ h => h)
theorem PT.lt {w : World} {B : Nat} {L : List Ent} {F : Nat -> Prop} (h : PT w B L F) : ∀ i, F i -> i < w.heap.size := by
 obtain ⟨mv, X, h⟩ := h
 exact h.lt
theorem PT.fB {w : World} {B : Nat} {L : List Ent} {F : Nat -> Prop} (h : PT w B L F) : F B := by
 obtain ⟨mv, X, h⟩ := h
 exact h.fB
theorem pt_new {w : World} {B : Nat} (h0 : w.cell? ⟨B, 1, none⟩ = some (.map none)) (h1 : w.cell? ⟨B, 2, none⟩ = some (.pointer none)) (hf : ∀ i, w.frozen? ⟨B, i, none⟩ = false) : PT w B [] (· = B) := by
 refine ⟨none, [], h0, ?_, hf, .inl ⟨rfl, rfl⟩, ?_, List.Pairwise.nil, by simp, by simp, by simp, List.Perm.refl _, List.Pairwise.nil, by simp, rfl, by simp, by simp, fun i hi => by subst hi; exact lt_of_cell h0⟩
 ·rw [linkT_nil]; exact h1
 ·rw [linkT_nil]; trivial
def Rest (B : Nat) (w w' : World) : Prop := ∀ i, i ≠ 1 -> i ≠ 2 -> w'.cell? ⟨B, i, none⟩ = w.cell? ⟨B, i, none⟩
def Turned (w : World) (B : Nat) (L' : List Ent) (F : Nat -> Prop) (w' : World) : Prop :=
 ∃ F', PT w' B L' F' /\ (∀ i, F' i -> F i \/ w.heap.size <= i) /\ Keeps F w w' /\ Rest B w w'
theorem PX.missing {w : World} {B : Nat} {L : List Ent} {mv : Option Nat} {X : List (Nat × Ent)} {F : Nat -> Prop} (h : PX w B L mv X F) {id : Int} (hf : foundT L id = false) : ∀ x, x ∈ X -> x.2.id ≠ id := fun x hx e => by
 have := (found_iff L id h.rising).2 ⟨x.2, h.both.mem_iff.2 (List.mem_map.2 ⟨x, hx, rfl⟩), e⟩
 rw [hf] at this
 cases this
theorem PX.there {w : World} {B : Nat} {L : List Ent} {mv : Option Nat} {X : List (Nat × Ent)} {F : Nat -> Prop} (h : PX w B L mv X F) {id : Int} (hf : foundT L id = true) : ∃ x, x ∈ X /\ x.2.id = id /\ spanT L id = (x.2.lo, x.2.hi, 0) := by
 obtain ⟨hk, hid⟩ := found_at L id hf
 obtain ⟨x, hx, e⟩ := List.mem_map.1 (h.both.mem_iff.1 (List.getElem_mem hk))
 refine ⟨x, hx, by rw [e]; exact hid, ?_⟩
 unfold spanT
 rw [dif_pos hf, e]
theorem turned_add {w w' : World} {B : Nat} {L : List Ent} {mv : Option Nat} {X : List (Nat × Ent)} {F : Nat -> Prop} (h : PX w B L mv X F) (e : Ent) (nb m : Nat) (hf : foundT L e.id = false) (hl : L.length < 4000) (hr : rightB e.lo e.hi = true)
    (hnb : w.heap.size <= nb) (hnb' : nb < w'.heap.size) (hm : mv = some m \/ (w.heap.size <= m /\ m < w'.heap.size)) (c0 : w'.cell? ⟨B, 1, none⟩ = some (.map (some m))) (c1 : w'.cell? ⟨B, 2, none⟩ = some (linkT (addX X nb e)).ptr) (f : ∀ i, w'.frozen? ⟨B, i, none⟩ = false)
    (map : MapAt w' (some m) (addX X nb e)) (lies : (linkT (addX X nb e)).Lies w') (hk : Keeps F w w') (hr2 : Rest B w w') : Turned w B (addT L e) F w' := by
  have hne := h.missing hf
  have hB := h.lt B h.fB
  have hmem : ∀ x, x ∈ addX X nb e ↔ x = (nb, e) \/ x ∈ X := fun x => by rw [(addX_perm X nb e).mem_iff, List.mem_cons]
  refine ⟨fun i => F i \/ i = nb \/ i = m, ⟨some m, addX X nb e, c0, c1, f, map, lies, ordered_add X nb e h.ordered hne, ?_, ?_, ?_, both_add h.both nb e, rising_add L e h.rising hf, by rw [addT_length]; omega, .inl h.fB, ?_, ?_, ?_⟩, ?_, hk, hr2⟩
  · intro x hx
    rcases (hmem x).1 hx with rfl | hx
    · exact hr
    · exact h.right x hx
  · refine ((addX_perm X nb e).map (·.1)).nodup_iff.2 ?_
    rw [List.map_cons, List.nodup_cons]
    refine ⟨fun q => ?_, h.nodup⟩
    obtain ⟨x, hx, k⟩ := List.mem_map.1 q
    have := h.lt x.1 (h.fX x hx)
    have k' : x.1 = nb := k
    omega
  · intro x hx
    rcases (hmem x).1 hx with rfl | hx
    · exact fun q => by have q' : nb = B := q
                        omega
    · exact h.out x hx
  · intro k q
    cases q
    exact .inr (.inr rfl)
  · intro x hx
    rcases (hmem x).1 hx with rfl | hx
    · exact .inr (.inl rfl)
    · exact .inl (h.fX x hx)
  · intro i hi
    rcases hi with k | k | k
    · exact Nat.lt_of_lt_of_le (h.lt i k) hk.size
    · rw [k]; exact hnb'
    · rw [k]
      rcases hm with q | q
      · exact Nat.lt_of_lt_of_le (h.lt m (h.fm m q)) hk.size
      · exact q.2
  · intro i hi
    rcases hi with k | k | k
    · exact .inl k
    · rw [k]; exact .inr hnb
    · rw [k]
      rcases hm with q | q
      · exact .inl (h.fm m q)
      · exact .inr q.1
theorem turned_drop {w w' : World} {B : Nat} {L : List Ent} {mv : Option Nat} {X : List (Nat × Ent)} {F : Nat -> Prop} (h : PX w B L mv X F) (p : Nat × Ent) (hp : p ∈ X)
  (c0 : w'.cell? ⟨B, 1, none⟩ = some (.map mv)) (c1 : w'.cell? ⟨B, 2, none⟩ = some (linkT (dropX X p.2)).ptr) (f : ∀ i, w'.frozen? ⟨B, i, none⟩ = false)
  (map : MapAt w' mv (dropX X p.2)) (lies : (linkT (dropX X p.2)).Lies w') (hk : Keeps F w w') (hr2 : Rest B w w') : Turned w B (dropT L p.2.id) F w' := by
 have hP := dropX_perm X p h.ordered hp
 have hmem : ∀ x, x ∈ dropX X p.2 -> x ∈ X := fun x hx => hP.mem_iff.2 (List.mem_cons_of_mem _ hx)
 obtain ⟨hf, hb⟩ := both_drop h.both h.rising h.ordered p hp
 refine ⟨F, ⟨mv, dropX X p.2, c0, c1, f, map, lies, ordered_drop X p.2 h.ordered, fun x hx => h.right x (hmem x hx), ?_, fun x hx => h.out x (hmem x hx), hb, rising_drop L p.2.id h.rising, ?_, h.fB, h.fm, fun x hx => h.fX x (hmem x hx), fun i hi => Nat.lt_of_lt_of_le (h.lt i hi) hk.size⟩, fun _ h => .inl h, hk, hr2⟩
 ·have := (hP.map (·.1)).nodup_iff.1 h.nodup
  rw [List.map_cons, List.nodup_cons] at this
  exact this.2
 ·have := dropT_length L p.2.id (found_at L p.2.id hf).1
  have := h.len
  omega
theorem row_cell {w : World} {base q c : Nat} {X : List (Nat × Ent)} (h : w.ownsRow base 201 1 (.slice (some ⟨q, 0, none⟩) X.length c) X.length (X.map ptrB)) : ∀ j v, (X.map ptrB)[j]? = some v -> w.cell? ⟨q, j, none⟩ = some v := fun j v hj => by
 have hj' : j < X.length := by
  have := (List.getElem?_eq_some_iff.1 hj).1
  simpa using this
 rw [h.cellAt j (by simpa using hj'), hj]
theorem row_some {w : World} {base q n c : Nat} {xs : List Value} (h : w.ownsRow base 201 1 (.slice (some ⟨q, 0, none⟩) n c) n xs) (j : Nat) (hj : j < c) : (w.cell? ⟨q, j, none⟩).isSome = true := by
 obtain ⟨cur, h1, h2, _⟩ := row_block h
 have hjc : j < cur.size := by omega
 simp [World.cell?, h1, hjc]
theorem ins_at (X : List (Nat × Ent)) (p : Nat × Ent) (i j : Nat) (hi : i <= X.length) (h : j < (X.take i ++ p :: X.drop i).length) :
  (j < i /\ ∃ h' : j < X.length, (X.take i ++ p :: X.drop i)[j] = X[j]) \/ (j = i /\ (X.take i ++ p :: X.drop i)[j] = p) \/ (i < j /\ ∃ h' : j - 1 < X.length, (X.take i ++ p :: X.drop i)[j] = X[j - 1]) := by
 have hl : (X.take i).length = i := by simp; omega
 have hlen : (X.take i ++ p :: X.drop i).length = X.length + 1 := by simp; omega
 rcases Nat.lt_trichotomy j i with k | k | k
 ·refine .inl ⟨k, by omega, ?_⟩
  rw [List.getElem_append_left (by omega), List.getElem_take]
 ·subst k
  refine .inr (.inl ⟨rfl, ?_⟩)
  rw [List.getElem_append_right (by omega)]
  simp [hl]
 ·refine .inr (.inr ⟨k, by omega, ?_⟩)
  rw [List.getElem_append_right (by omega)]
  obtain ⟨m, rfl⟩ : ∃ m, j = i + 1 + m := ⟨j - (i + 1), by omega⟩
  simp only [hl, show i + 1 + m - i = m + 1 by omega, List.getElem_cons_succ, List.getElem_drop]
  congr 1
  omega
theorem ins_node (X : List (Nat × Ent)) (p : Nat × Ent) (q c base i vb : Nat) (w : World) (hr : w.ownsRow base 201 1 (.slice (some ⟨q, 0, none⟩) X.length c) X.length (X.map ptrB)) (hc : X.length + 1 <= c) (hc2 : c <= 1000000) (hi : i <= X.length) (hq : vb ≠ q)
  (hv : w.heap[vb]? = some (.cells #[ptrB p] 201 (0, 0))) :
  Calls Tryz.prog 281 #[.slice (some ⟨q, 0, none⟩) X.length c, .int .i64 i, .slice (some ⟨vb, 0, none⟩) 1 1] w fun e w' =>
   e = .returned (.slice (some ⟨q, 0, none⟩) (X.length + 1) c) /\ (∀ j, (h : j < (X.take i ++ p :: X.drop i).length) -> w'.cell? ⟨q, j, none⟩ = some (ptrB (X.take i ++ p :: X.drop i)[j])) /\ Keeps (· = q) w w' := by
 obtain ⟨cur, hcur, hsz, _⟩ := row_block hr
 have h1c : ∀ v ∈ X.map ptrB, v.oneCell' = true := fun v hv => by
  obtain ⟨x, _, rfl⟩ := List.mem_map.1 hv
  rfl
 have hcl := row_cell hr
 have hsm : ∀ j, j < X.length + 1 -> (w.cell? ⟨q, j, none⟩).isSome = true := fun j hj => row_some hr j (by omega)
 have hfz : ∀ j, j < X.length + 1 -> w.frozen? ⟨q, j, none⟩ = false := fun j _ => hr.frozenAt j
 have hvc : w.cell? ⟨vb, 0, none⟩ = some (ptrB p) := cell_of_one hv
 by_cases he : i = X.length
 ·subst he
  have := ins_end q X.length c vb (ptrB p) w hc (by omega) (hsm _ (by omega)) (hfz _ (by omega)) hvc rfl
  refine this.mono ?_
  rintro e w' ⟨rfl, rfl⟩
  refine ⟨rfl, fun j hj => ?_, keeps_setCells q _ _ w⟩
  rcases ins_at X p X.length j zr hj with ⟨k, h', e⟩ | ⟨k, e⟩ | ⟨k, h', e⟩
  ·rw [e, World.cell?_setCells_out q _ _ _ _ (fun _ _ => .inl k)]
   exact hcl j _ (by simp [h'])
  ·rw [e]
   subst k
   exact World.cell?_setCells_in q [ptrB p] X.length w (fun t ht => by
    have ht' : t < 1 := ht
    exact hsm _ (by omega)) 0 (by simp)
  ·omega
 ·have hlt : i < X.length := by omega
  have := ins_shift q X.length c i vb (X.map ptrB) (ptrB p) w hlt hc (by omega) hq (by simp) hcl hsm hfz hvc h1c rfl 201 201 1 c
   (by simp [World.shape?, hv]) (by simp [World.shape?, hcur, hsz]) (by omega) (free_of_one hv) (by simp [World.frozen?, hv])
  refine this.mono ?_
  rintro e w' ⟨rfl, rfl⟩
  refine ⟨rfl, fun j hj => ?_, (keeps_drew _ w).trans ((keeps_setCells q _ _ _).trans (keeps_setCells q _ _ _))⟩
  have hdl : ((X.map ptrB).drop i).length = X.length - i := by simp
  have s1 : ∀ t, t < X.length + 1 -> ((w.drew.setCells q (i + 1) ((X.map ptrB).drop i)).cell? ⟨q, t, none⟩).isSome = true := fun t ht =>
   isSome_setCellsN q ((X.map ptrB).drop i) (i + 1) w.drew (fun u hu => hsm _ (by rw [hdl] at hu; omega)) _ (hsm t ht)
  rcases ins_at X p i j hi hj with ⟨k, h', e⟩ | ⟨k, e⟩ | ⟨k, h', e⟩
  ·rw [e, World.cell?_setCells_out q _ _ _ _ (fun _ _ => .inl k), World.cell?_setCells_out q _ _ _ _ (fun _ _ => .inl (by show j < i + 1; omega))]
   exact hcl j _ (by simp [h'])
  ·rw [e]
   subst k
   exact World.cell?_setCells_in q [ptrB p] j _ (fun t ht => by
    have ht' : t < 1 := ht
    exact s1 _ (by omega)) 0 (by simp)
  ·rw [e, World.cell?_setCells_out q _ _ _ _ (fun _ _ => .inr (by show i + 1 <= j; omega))]
   have := World.cell?_setCells_in q ((X.map ptrB).drop i) (i + 1) w.drew (fun u hu => hsm _ (by rw [hdl] at hu; omega)) (j - (i + 1)) (by rw [hdl]; omega)
   rw [show i + 1 + (j - (i + 1)) = j by omega] at this
   rw [this]
   simp only [List.getElem_drop, List.getElem_map]
   congr 3
   omega
theorem del_at (X : List (Nat × Ent)) (i j : Nat) (hi : i < X.length) (h : j < (X.take i ++ X.drop (i + 1)).length) :
  (j < i /\ ∃ h' : j < X.length, (X.take i ++ X.drop (i + 1))[j] = X[j]) \/ (i <= j /\ ∃ h' : j + 1 < X.length, (X.take i ++ X.drop (i + 1))[j] = X[j + 1]) := by
 have hl : (X.take i).length = i := by simp; omega
 have hlen : (X.take i ++ X.drop (i + 1)).length = X.length - 1 := by simp; omega
 rcases Nat.lt_or_ge j i with k | k
 ·refine .inl ⟨k, by omega, ?_⟩
  rw [List.getElem_append_left (by omega), List.getElem_take]
 ·refine .inr ⟨k, by omega, ?_⟩
  rw [List.getElem_append_right (by omega)]
  simp only [hl, List.getElem_drop]
  congr 1
  omega
theorem del_node (X : List (Nat × Ent)) (q c base i j : Nat) (w : World) (hr : w.ownsRow base 201 1 (.slice (some ⟨q, 0, none⟩) X.length c) X.length (X.map ptrB)) (hc2 : c <= 1000000) (hi : i < X.length) (hj : j = i + 1) :
  Calls Tryz.prog 280 #[.slice (some ⟨q, 0, none⟩) X.length c, .int .i64 i, .int .i64 j] w fun e w' =>
   e = .returned (.slice (some ⟨q, 0, none⟩) (X.length - 1) c) /\ (∀ t, (h : t < (X.take i ++ X.drop (i + 1)).length) -> w'.cell? ⟨q, t, none⟩ = some (ptrB (X.take i ++ X.drop (i + 1))[t])) /\ Keeps (· = q) w w' := by
 obtain ⟨cur, hcur, hsz, hnc, _⟩ := row_block hr
 have h1c : ∀ v ∈ X.map ptrB, v.oneCell' = true := fun v hv => by
  obtain ⟨x, _, rfl⟩ := List.mem_map.1 hv
  rfl
 have hcl := row_cell hr
 have hsm : ∀ t, t < X.length -> (w.cell? ⟨q, t, none⟩).isSome = true := fun t ht => row_some hr t (by omega)
 have := del_one q X.length c i j (X.map ptrB) w hi hj hnc (by omega) (by simp) hcl (fun t _ => hr.frozenAt t) h1c
 refine this.mono ?_
 rintro e w' ⟨rfl, rfl⟩
 refine ⟨rfl, fun t ht => ?_, (keeps_drew _ w).trans ((keeps_setCells q _ _ _).trans (keeps_setCells q _ _ _))⟩
 subst hj
 have hdl : ((X.map ptrB).drop (i + 1)).length = X.length - (i + 1) := by simp
 have hlen : (X.take i ++ X.drop (i + 1)).length = X.length - 1 := by simp; omega
 rw [hlen] at ht
 rw [World.cell?_setCells_out q _ _ _ _ (fun _ _ => .inl (by show t < X.length - 1; exact ht))]
 rcases del_at X i t hi (by rw [hlen]; exact ht) with ⟨k, h', e⟩ | ⟨k, h', e⟩
 ·rw [e, World.cell?_setCells_out q _ _ _ _ (fun _ _ => .inl (by show t < i; exact k))]
  exact hcl t _ (by simp [h'])
 ·have := World.cell?_setCells_in q ((X.map ptrB).drop (i + 1)) i w.drew (fun u hu => hsm _ (by rw [hdl] at hu; omega)) (t - i) (by rw [hdl]; omega)
  rw [show i + (t - i) = t by omega] at this
  rw [this, e]
  simp only [List.getElem_drop, List.getElem_map]
  congr 3
  omega
theorem keyedI : Keyed Tryz.prog 3 := int_keyed Tryz.underlying3
theorem look_none {w : World} {mv : Option Nat} {X : List (Nat × Ent)} (h : MapAt w mv X) (id : Int) (hw : (Lit.int .i64 id).wf = true) (hn : ∀ x, x ∈ X -> x.2.id ≠ id) :
  (Instr.lookup 200 (.map mv) (.int .i64 id) false).run Tryz.prog w = .ok (.pointer none) w := by
 rcases h with ⟨rfl, _⟩ | ⟨m, D, rfl, h1, h2⟩
 ·exact Maps.look_nil false keyedI Tryz.underlying200 (zero_ptr w) (keyOf_int_mk Tryz.underlying3 hw)
 ·obtain ⟨v, ps, hr, hv⟩ := h1.lookup keyedI Tryz.underlying200 (zero_ptr w) (zd := zd) (zp := []) rfl (keyOf_int_mk Tryz.underlying3 hw)
  rw [h2.none id hn] at hv
  rw [hr, ptrElem_nil hv]
theorem look_at {w : World} {mv : Option Nat} {X : List (Nat × Ent)} (h : MapAt w mv X) (x : Nat × Ent) (hx : x ∈ X) (hw : (Lit.int .i64 x.2.id).wf = true) :
  (Instr.lookup 200 (.map mv) (.int .i64 x.2.id) false).run Tryz.prog w = .ok (ptrB x) w := by
 rcases h with ⟨_, rfl⟩ | ⟨m, D, rfl, h1, h2⟩
 ·cases hx
 ·obtain ⟨v, ps, hr, hv⟩ := h1.lookup keyedI Tryz.underlying200 (zero_ptr w) (zd := zd) (zp := []) rfl (keyOf_int_mk Tryz.underlying3 hw)
  rw [h2.there x hx] at hv
  rw [hr, ptrElem_at hv]
  rfl
theorem len_map {w : World} {mv : Option Nat} {X : List (Nat × Ent)} (h : MapAt w mv X) (ty : TypeId) : (Builtin.len_ #[200] ty #[.map mv]).run Tryz.prog w = .ok (.int .i64 (X.length : Nat)) w := by
 rcases h with ⟨rfl, rfl⟩ | ⟨m, D, rfl, h1, h2⟩
 ·exact Maps.len_nil Tryz.underlying200 ty
 ·rw [h1.len Tryz.underlying200 ty, h2.size]
section
variable (w : World) {ops : Array Oper} {rest : List Oper} {o : Oper} {a : Act} {Q : Exit -> Act -> World -> Prop}
theorem wpList_look_run (hg : o.guard = none) (m x : Operand) (hop : o.op = Op.lookup 200 m x false) (mv key v : Value) (hm : a.eval m = mv) (hx : a.eval x = key) (hr : (Instr.lookup 200 mv key false).run Tryz.prog w = .ok v w)
  (hK : wpList Tryz.prog ops Q rest (a.put o.dst v) w) : wpList Tryz.prog ops Q (o :: rest) a w := by
 refine wpList_plain hg fun K' hK' => ?_
 unfold Oper.wp
 simp [execOp, hop, hm, hx, hr, Result.andThen]
 exact hK' _ _ hK
theorem wpList_len_run (hg : o.guard = none) (m : Operand) (hop : o.op = Op.call { callee := Callee.builtin Builtin.len, args := #[m], argTypes := #[200] }) (mv v : Value) (hm : a.eval m = mv) (hr : (Builtin.len_ #[200] o.type #[mv]).run Tryz.prog w = .ok v w)
  (hK : wpList Tryz.prog ops Q rest (a.put o.dst v) w) : wpList Tryz.prog ops Q (o :: rest) a w := by
 refine wpList_plain hg fun K' hK' => ?_
 unfold Oper.wp
 simp [execOp, hop, resolve, invoke, builtin, hm, hr, Result.andThen]
 exact hK' _ _ hK
end
end Go.Proofs.YtbmkmfoaoganeaaGreatDoor

namespace Go.Proofs.YtbmkmfoaoganeaaGreatDoor
open Go.RowKit Go.Maps
def errV (n : Int) : Value := if n = 0 then .nilIface else .iface 25 (.int .i64 n)
structure Mid (w : World) (B m n : Nat) (X : List (Nat × Ent)) (D : DataW Unit) (F : Nat -> Prop) (W : World) : Prop where
 c0 : W.cell? ⟨B, 1, none⟩ = some (.map (some m))
 c1 : W.cell? ⟨B, 2, none⟩ = some (linkT X).ptr
 f : ∀ i, W.frozen? ⟨B, i, none⟩ = false
 own : W.ownsMap Tryz.prog 3 ptrElem m n D
 lies : (linkT X).Lies W
 keeps : Keeps (fun i => F i \/ w.heap.size <= i) w W
 rest : Rest B w W
theorem Mid.keep {w : World} {B m n : Nat} {X : List (Nat × Ent)} {D : DataW Unit} {F H : Nat -> Prop} {W W' : World} (h : Mid w B m n X D F W) (hk : Keeps H W W') (hB : ¬ H B) (hm : ¬ H m) (hX : ∀ x, x ∈ X -> ¬ H x.1) (hH : ∀ i, i < w.heap.size -> H i -> F i) : Mid w B m n X D F W' := by
 have hBl := lt_of_cell h.c0
 exact ⟨(hk.cell (p := ⟨B, 1, none⟩) hBl hB).trans h.c0, (hk.cell (p := ⟨B, 2, none⟩) hBl hB).trans h.c1, fun i => (hk.frozen (p := ⟨B, i, none⟩) hBl hB).trans (h.f i), ownsMap_keeps h.own hk hm, h.lies.keeps hk (fun x hx => hX x (by rw [items_link] at hx; exact hx)),
  h.keeps.then hk (fun i hi hh => .inl (hH i hi hh)), fun i h1 h2 => (hk.cell (p := ⟨B, i, none⟩) hBl hB).trans (h.rest i h1 h2)⟩
theorem Mid.below {w : World} {B m n : Nat} {X : List (Nat × Ent)} {D : DataW Unit} {F : Nat -> Prop} {W W' : World} (h : Mid w B m n X D F W) (hb : Below W.heap.size W W') : Mid w B m n X D F W' :=
 h.keep (Keeps.of_below (fun _ => False) hb zr) (fun f => f) (fun f => f) (fun _ _ f => f) (fun _ _ f => f.elim)
theorem map_no_cells {w : World} {m n : Nat} {D : DataW Unit} {b i : Nat} {v : Value} (h : w.ownsMap Tryz.prog 3 ptrElem m n D) (hc : w.cell? ⟨b, i, none⟩ = some v) : m ≠ b := fun e => by
 subst e
 obtain ⟨es, ck, hb, _⟩ := h
 simp [World.cell?, hb] at hc
theorem Mid.apart {w : World} {B m n : Nat} {X : List (Nat × Ent)} {D : DataW Unit} {F : Nat -> Prop} {W : World} (h : Mid w B m n X D F W) : m ≠ B /\ ∀ x, x ∈ X -> m ≠ x.1 := by
 refine ⟨map_no_cells h.own h.c0, fun x hx => ?_⟩
 obtain ⟨_, _, _, hn⟩ := h.lies.at x (by rw [items_link]; exact hx)
 exact map_no_cells h.own hn.c0
theorem Mid.put {w : World} {B m n n' : Nat} {X : List (Nat × Ent)} {D D' : DataW Unit} {F : Nat -> Prop} {W W' : World} (h : Mid w B m n X D F W) (ht : W.mapTurned W' m) (ho : W'.ownsMap Tryz.prog 3 ptrElem m n' D') (hm : F m \/ w.heap.size <= m) : Mid w B m n' X D' F W' := by
 obtain ⟨a1, a2⟩ := h.apart
 have hk := turned_keeps ht
 have hBl := lt_of_cell h.c0
 refine ⟨(hk.cell (p := ⟨B, 1, none⟩) hBl (fun e => a1 e.symm)).trans h.c0, (hk.cell (p := ⟨B, 2, none⟩) hBl (fun e => a1 e.symm)).trans h.c1, fun i => (hk.frozen (p := ⟨B, i, none⟩) hBl (fun e => a1 e.symm)).trans (h.f i), ho, h.lies.keeps hk (fun x hx e => a2 x (by rw [items_link] at hx; exact hx) e.symm), h.keeps.then hk (fun i hi e => ?_), fun i h1 h2 => (hk.cell (p := ⟨B, i, none⟩) hBl (fun e => a1 e.symm)).trans (h.rest i h1 h2)⟩
 subst e
 rcases hm with k | k
 ·exact .inl k
 ·omega
theorem Mid.nodes {w : World} {B m n : Nat} {X : List (Nat × Ent)} {D : DataW Unit} {F : Nat -> Prop} {W : World} (h : Mid w B m n X D F W) : ∀ x, x ∈ X -> NodeAt W x.1 x.2 := fun x hx => h.lies.at x (by rw [items_link]; exact hx)
theorem add_end {w : World} {B : Nat} {L : List Ent} {mv : Option Nat} {X : List (Nat × Ent)} {F : Nat -> Prop} (h : PX w B L mv X F) (e : Ent) (nb m n : Nat) (D : DataW Unit) (W6 W7 : World) (hf : foundT L e.id = false) (hl : L.length < 4000) (hr : rightB e.lo e.hi = true)
  (hnb : w.heap.size <= nb) (hnb' : nb < W6.heap.size) (hm : mv = some m \/ w.heap.size <= m) (hmn : m ≠ nb) (hM : Mid w B m n X D F W6) (hK : Keys D (addX X nb e)) (hL : (linkT (addX X nb e)).Lies W7) (hk : Keeps (inX (addX X nb e)) W6 W7) :
  Turned w B (addT L e) F (W7.setCell ⟨B, 2, none⟩ (linkT (addX X nb e)).ptr) := by
 have hB := h.lt B h.fB
 have hmem : ∀ x, x ∈ addX X nb e ↔ x = (nb, e) \/ x ∈ X := fun x => by rw [(addX_perm X nb e).mem_iff, List.mem_cons]
 have hin : ∀ i, inX (addX X nb e) i -> i = nb \/ ∃ x, x ∈ X /\ x.1 = i := fun i hi => by
  obtain ⟨x, hx, q⟩ := List.mem_map.1 hi
  rcases (hmem x).1 hx with rfl | hx
  ·exact .inl q.symm
  ·exact .inr ⟨x, hx, q⟩
 obtain ⟨a1, a2⟩ := hM.apart
 have nB : ¬ inX (addX X nb e) B := fun q => by
  rcases hin _ q with k | ⟨x, hx, k⟩
  ·omega
  ·exact h.out x hx k
 have nm : ¬ inX (addX X nb e) m := fun q => by
  rcases hin _ q with k | ⟨x, hx, k⟩
  ·exact hmn k
  ·exact a2 x hx k.symm
 have hBl := lt_of_cell hM.c0
 have d0 := (hk.cell (p := ⟨B, 1, none⟩) hBl nB).trans hM.c0
 have d1 := (hk.cell (p := ⟨B, 2, none⟩) hBl nB).trans hM.c1
 have dk : Keeps F w (W7.setCell ⟨B, 2, none⟩ (linkT (addX X nb e)).ptr) := by
  have k1 := (hM.keeps.then hk (fun i hi q => by
   rcases hin i q with k | ⟨x, hx, k⟩
   ·omega
   ·rw [<- k]; exact .inl (h.fX x hx))).then (keeps_set W7 B 2 (linkT (addX X nb e)).ptr) (fun i _ q => by cases q; exact .inl h.fB)
  exact k1.mono (fun i hi q => by
   rcases q with q | q
   ·exact q
   ·omega)
 refine turned_add h e nb m hf hl hr hnb (by simp; exact Nat.lt_of_lt_of_le hnb' hk.size) ?_ ?_ ?_ ?_ ?_ ?_ dk ?_
 ·rcases hm with q | q
  ·exact .inl q
  ·exact .inr ⟨q, by simp; exact Nat.lt_of_lt_of_le hM.own.lt hk.size⟩
 ·rw [zo _ _ _ _ (by simp)]
  exact d0
 ·exact zs _ _ _ d1
 ·intro i
  rw [World.frozen?_setCell, hk.frozen (p := ⟨B, i, none⟩) hBl nB, hM.f i]
 ·refine .inr ⟨m, D, rfl, ?_, hK⟩
  have := ownsMap_size ((ownsMap_keeps hM.own hk nm).setCell (a := ⟨B, 2, none⟩) a1 (linkT (addX X nb e)).ptr)
  rwa [hK.size] at this
 ·refine hL.keeps (keeps_set W7 B 2 _) (fun x hx q => ?_)
  rw [items_link] at hx
  exact nB (List.mem_map.2 ⟨x, hx, q⟩)
 ·intro i h1 h2
  rw [zo _ _ _ _ (by simp <;> omega)]
  exact (hk.cell (p := ⟨B, i, none⟩) hBl nB).trans (hM.rest i h1 h2)
end Go.Proofs.YtbmkmfoaoganeaaGreatDoor
