/- Texts of one proof, one behind the other. -/
import Derived.Test.YtfoojmflbifkpaaGreatDoorFn
import Derived.Test.YtfoojmflbifkpaaGreatDoorFl
import Derived.Test.YtfoojmflbifkpaaGreatDoorFj
import Derived.Test.YtfoojmflbifkpaaGreatDoorFk
import Derived.Test.YtfoojmflbifkpaaGreatDoorEl
import Derived.Test.YtfoojmflbifkpaaGreatDoorEw
import Derived.Test.YtfoojmflbifkpaaGreatDoorEd
import Derived.Test.YtfoojmflbifkpaaGreatDoorEu
import Derived.Test.YtfoojmflbifkpaaGreatDoorEx
import Derived.Test.YtfoojmflbifkpaaGreatDoorEk
import Derived.Deep.QuietTactic
import Derived.BigQuiet
import Derived.Laws.StructEq
set_option maxRecDepth 100000
set_option maxHeartbeats 16000000
namespace Go.Proofs.YtfoojmflbifkpaaGreatDoor
open Go.RowKit Go.Maps
theorem rises_one {α : Type} {r : α -> α -> Prop} (hi : ∀ a, ¬ r a a) (has : ∀ a b, r a b -> ¬ r b a) : ∀ (l m : List α), l.Pairwise r -> m.Pairwise r -> (∀ x, x ∈ l ↔ x ∈ m) -> l = m
 | [], [], _, _, _ => rfl
 | [], b :: m, _, _, h => absurd ((h b).2 List.mem_cons_self) (by simp)
 | a :: l, [], _, _, h => absurd ((h a).1 List.mem_cons_self) (by simp)
 | a :: l, b :: m, hl, hm, h => by
  obtain ⟨hl1, hl2⟩ := List.pairwise_cons.1 hl
  obtain ⟨hm1, hm2⟩ := List.pairwise_cons.1 hm
  have hab : a = b := by
   rcases List.mem_cons.1 ((h a).1 List.mem_cons_self) with q | q
   ·exact q
   ·rcases List.mem_cons.1 ((h b).2 List.mem_cons_self) with z | z
    ·exact z.symm
    ·exact absurd (hl1 b z) (has b a (hm1 a q))
  subst hab
  congr 1
  refine rises_one hi has l m hl2 hm2 (fun x => ?_)
  constructor
  ·intro hx
   rcases List.mem_cons.1 ((h x).1 (List.mem_cons_of_mem _ hx)) with q | q
   ·subst q; exact absurd (hl1 x hx) (hi x)
   ·exact q
  ·intro hx
   rcases List.mem_cons.1 ((h x).2 (List.mem_cons_of_mem _ hx)) with q | q
   ·subst q; exact absurd (hm1 x hx) (hi x)
   ·exact q
def TxsOk (txs : List (List Fop)) : Prop := ∀ l, l ∈ txs -> okL l
theorem TxsOk.fit {txs : List (List Fop)} (h : TxsOk txs) {l : List Fop} (hl : l ∈ txs) {o : Fop} (ho : o ∈ l) : KyOk (kyO o) /\ o.word.size <= 12 /\ o.value.size <= 12 /\ rightB o.lo o.hi = true := op_fit ((h l hl).2.2 o ho)
theorem mem_sides {l : List (Int × Int)} {e : Int} : e ∈ sides l ↔ ∃ p, p ∈ l /\ (e = p.1 \/ e = p.2) := by
 induction l with
 | nil => simp [sides]
 | cons x l ih =>
  simp only [sides, List.mem_cons, ih]
  constructor
  ·rintro (q | q | ⟨p, hp, q⟩)
   ·exact ⟨x, .inl rfl, .inl q⟩
   ·exact ⟨x, .inl rfl, .inr q⟩
   ·exact ⟨p, .inr hp, q⟩
  ·rintro ⟨p, rfl | hp, q⟩
   ·rcases q with q | q
    ·exact .inl q
    ·exact .inr (.inl q)
   ·exact .inr (.inr ⟨p, hp, q⟩)
theorem mem_spansT {txs : List (List Fop)} {k : Ky} {p : Int × Int} : p ∈ spansT k txs ↔ ∃ l, l ∈ txs /\ ∃ o, o ∈ l /\ kyO o = k /\ p = (o.lo, o.hi) := by
 unfold spansT spansK
 simp only [List.mem_flatMap, List.mem_map, List.mem_filter]
 constructor
 ·rintro ⟨l, hl, o, ⟨ho, e⟩, rfl⟩
  exact ⟨l, hl, o, ho, sameK_iff.1 e, rfl⟩
 ·rintro ⟨l, hl, o, ho, e, rfl⟩
  exact ⟨l, hl, o, ⟨ho, sameK_iff.2 e⟩, rfl⟩
theorem mem_endsK {txs : List (List Fop)} {k : Ky} {e : Int} : e ∈ endsK txs k ↔ ∃ l, l ∈ txs /\ ∃ o, o ∈ l /\ kyO o = k /\ (e = o.lo \/ e = o.hi) := by
 unfold endsK sorted
 rw [(List.mergeSort_perm _ _).mem_iff]
 simp only [allSides, List.append_nil]
 rw [mem_sides]
 constructor
 ·rintro ⟨p, hp, q⟩
  obtain ⟨l, hl, o, ho, e1, rfl⟩ := mem_spansT.1 hp
  exact ⟨l, hl, o, ho, e1, q⟩
 ·rintro ⟨l, hl, o, ho, e1, q⟩
  exact ⟨(o.lo, o.hi), mem_spansT.2 ⟨l, hl, o, ho, e1, rfl⟩, q⟩
theorem endsK_rises (txs : List (List Fop)) (k : Ky) : (endsK txs k).Pairwise (· <= ·) := by
 unfold endsK sorted
 have := List.pairwise_mergeSort (le := fun x y : Int => decide (x <= y)) (fun a b c h1 h2 => by simp at *; omega) (fun a b => by simp; omega) (allSides [spansT k txs])
 exact this.imp (fun h => by simpa using h)
theorem endsK_length {txs : List (List Fop)} (h : TxsOk txs) (hm : txs.length <= 150) (k : Ky) : (endsK txs k).length <= 2400 := by
 unfold endsK
 rw [sorted_length]
 simp only [allSides, List.append_nil, sides_length]
 have := spansT_length k txs (fun l hl => (h l hl).2.1)
 omega
theorem stepV_same {k : Ky} {s t : Int} {o : Fop} {v : ByteArray} (h : kyO o = k -> ((o.lo <= s /\ s < o.hi) ↔ (o.lo <= t /\ t < o.hi))) : stepV k s v o = stepV k t v o := by
 unfold stepV
 cases e : sameK (kyO o) k with
 | false => rfl
 | true =>
  have := h (sameK_iff.1 e)
  by_cases q : o.lo <= s /\ s < o.hi
  ·rw [decide_eq_true q, decide_eq_true (this.1 q)]
  ·rw [decide_eq_false q, decide_eq_false (fun z => q (this.2 z))]
theorem lastV_same {k : Ky} {s t : Int} : ∀ (l : List Fop) (v : ByteArray), (∀ o, o ∈ l -> kyO o = k -> ((o.lo <= s /\ s < o.hi) ↔ (o.lo <= t /\ t < o.hi))) -> lastV k s v l = lastV k t v l
 | [], _, _ => rfl
 | o :: l, v, h => by
  show lastV k s (stepV k s v o) l = lastV k t (stepV k t v o) l
  rw [stepV_same (h o List.mem_cons_self), lastV_same l _ (fun x hx => h x (List.mem_cons_of_mem _ hx))]
theorem refS_same {txs : List (List Fop)} {k : Ky} {s t : Int} (h : ∀ l, l ∈ txs -> ∀ o, o ∈ l -> kyO o = k -> ((o.lo <= s /\ s < o.hi) ↔ (o.lo <= t /\ t < o.hi))) (c : Nat) : refS txs k c s = refS txs k c t := by
 unfold refS
 have all : ∀ (ls : List (List Fop)) (v : ByteArray), (∀ l, l ∈ ls -> l ∈ txs) -> ls.foldl (lastV k s) v = ls.foldl (lastV k t) v := by
  intro ls
  induction ls with
  | nil => intro v _; rfl
  | cons l ls ih =>
   intro v hl
   show ls.foldl (lastV k s) (lastV k s v l) = ls.foldl (lastV k t) (lastV k t v l)
   rw [lastV_same l v (h l (hl l List.mem_cons_self)), ih _ (fun x hx => hl x (List.mem_cons_of_mem _ hx))]
 exact all _ _ (fun l hl => List.mem_of_mem_take hl)
theorem refS_still {txs : List (List Fop)} {k : Ky} {s : Int} (h : s ∉ endsK txs k) (c : Nat) : refS txs k c s = refS txs k c (s - 1) := by
 refine refS_same (fun l hl o ho e => ?_) c
 have h1 : s ≠ o.lo := fun q => h (mem_endsK.2 ⟨l, hl, o, ho, e, .inl q⟩)
 have h2 : s ≠ o.hi := fun q => h (mem_endsK.2 ⟨l, hl, o, ho, e, .inr q⟩)
 omega
theorem refS_out {txs : List (List Fop)} (h : TxsOk txs) (k : Ky) (c : Nat) {t : Int} (ht : t < -1099511627776 \/ 1099511627776 <= t) : refS txs k c t = ByteArray.empty := by
 have : refS txs k c t = refS [] k c t := by
  unfold refS
  rw [List.take_nil]
  have all : ∀ (ls : List (List Fop)) (v : ByteArray), (∀ l, l ∈ ls -> l ∈ txs) -> ls.foldl (lastV k t) v = v := by
   intro ls
   induction ls with
   | nil => intro v _; rfl
   | cons l ls ih =>
    intro v hl
    have one : ∀ (m : List Fop) (v : ByteArray), (∀ o, o ∈ m -> o ∈ l) -> lastV k t v m = v := by
     intro m
     induction m with
     | nil => intro v _; rfl
     | cons o m ihm =>
      intro v hm
      show lastV k t (stepV k t v o) m = v
      have hr := (h.fit (hl l List.mem_cons_self) (hm o List.mem_cons_self)).2.2.2
      have hr' := of_decide_eq_true hr
      have e : stepV k t v o = v := by
       unfold stepV
       rw [decide_eq_false (show ¬ (o.lo <= t /\ t < o.hi) by omega), Bool.and_false]
       rfl
      rw [e]
      exact ihm v (fun x hx => hm x (List.mem_cons_of_mem _ hx))
    show ls.foldl (lastV k t) (lastV k t v l) = v
    rw [one l v (fun _ q => q)]
    exact ih v (fun x hx => hl x (List.mem_cons_of_mem _ hx))
  exact all _ _ (fun l hl => List.mem_of_mem_take hl)
 rw [this]
 unfold refS
 rw [List.take_nil]
 rfl
theorem refS_size {txs : List (List Fop)} (h : TxsOk txs) (k : Ky) (c : Nat) (t : Int) : (refS txs k c t).size <= 12 := by
 unfold refS
 have all : ∀ (ls : List (List Fop)) (v : ByteArray), (∀ l, l ∈ ls -> l ∈ txs) -> v.size <= 12 -> (ls.foldl (lastV k t) v).size <= 12 := by
  intro ls
  induction ls with
  | nil => intro v _ hv; exact hv
  | cons l ls ih =>
   intro v hl hv
   have one : ∀ (m : List Fop) (v : ByteArray), (∀ o, o ∈ m -> o ∈ l) -> v.size <= 12 -> (lastV k t v m).size <= 12 := by
    intro m
    induction m with
    | nil => intro v _ hv; exact hv
    | cons o m ihm =>
     intro v hm hv
     show (lastV k t (stepV k t v o) m).size <= 12
     refine ihm _ (fun x hx => hm x (List.mem_cons_of_mem _ hx)) ?_
     unfold stepV
     split
     ·exact (h.fit (hl l List.mem_cons_self) (hm o List.mem_cons_self)).2.2.1
     ·exact hv
   exact ih _ (fun x hx => hl x (List.mem_cons_of_mem _ hx)) (one l v (fun _ q => q) hv)
 exact all _ _ (fun l hl => List.mem_of_mem_take hl) (by decide)
theorem lt_irr (a : List UInt8) : ¬ a < a := List.lt_irrefl a
theorem lt_asym (a b : List UInt8) (h : a < b) : ¬ b < a := fun q => List.lt_irrefl a (List.lt_trans h q)
theorem cf_irr (a : Ky) : ¬ cfY a a < 0 := by rw [cfY_zero.2 rfl]; decide
theorem cf_asym (a b : Ky) (h : cfY a b < 0) : ¬ cfY b a < 0 := by have := cfY_turn a b; omega
theorem pieces_canon {txs : List (List Fop)} (h : TxsOk txs) (k : Ky) (c : Nat) : Canon (piecesR (refS txs k c) (endsK txs k)).1 /\ Covers (piecesR (refS txs k c) (endsK txs k)).1 (refS txs k c) := by
 refine pieces_are (endsK txs k) (endsK_rises txs k) (fun e he => ?_) (fun s hs => refS_still hs c) (-1099511627776) 1099511627776 (fun t ht => refS_out h k c (.inl ht)) (fun t ht => refS_out h k c (.inr ht))
 obtain ⟨l, hl, o, ho, _, q⟩ := mem_endsK.1 he
 have hr := of_decide_eq_true (h.fit hl ho).2.2.2
 omega
theorem vis_all {txs : List (List Fop)} {k : Ky} {lo hi : Int} {ca cb : Nat} (x : List UInt8) :
  VisE (refS txs k) (endsK txs k ++ [lo]) lo hi ca (cb + 1) 0 x ↔ ∃ c t : Int, (ca : Int) <= c /\ c <= (cb : Int) /\ lo <= t /\ t < hi /\ (refS txs k c.toNat t).data.toList = x := by
 constructor
 ·rintro ⟨c', i, t, r, q1, q2, q3, q4⟩
  exact ⟨(c' : Int), t, by omega, by omega, q2, q3, by simpa using q4⟩
 ·rintro ⟨c, t, h1, h2, h3, h4, h5⟩
  have key : ∀ n : Nat, ∀ t : Int, lo <= t -> t < hi -> t - lo = n -> ∃ e, e ∈ endsK txs k ++ [lo] /\ lo <= e /\ e <= t /\ refS txs k c.toNat e = refS txs k c.toNat t := by
   intro n
   induction n with
   | zero => intro t ht _ e; exact ⟨lo, by simp, Int.le_refl _, by omega, by rw [show lo = t by omega]⟩
   | succ n ih =>
    intro t ht hth e
    rcases Classical.em (t ∈ endsK txs k) with q | q
    ·exact ⟨t, by simp [q], ht, Int.le_refl _, rfl⟩
    ·obtain ⟨e', a1, a2, a3, a4⟩ := ih (t - 1) (by omega) (by omega) (by omega)
     exact ⟨e', a1, a2, by omega, by rw [a4, refS_still q]⟩
  obtain ⟨e, a1, a2, a3, a4⟩ := key (t - lo).toNat t h3 h4 (by omega)
  obtain ⟨i, hi', rfl⟩ := List.getElem_of_mem a1
  refine ⟨c.toNat, i, _, .inl ⟨by omega, by omega⟩, List.getElem?_eq_getElem hi', a2, by omega, ?_⟩
  rw [a4]
  exact h5
theorem law_bare_no (w : World) :
  Calls Tryz.prog 10 #[.nilIface, .int .i64 0] w fun e w' => e = .returned (.bool true) /\ Below w.heap.size w w' := by
 have HB := zh (bare_of 0 w)
 have HI := zh (fun W => law_is .nilIface 0 (-1) W (fun W' _ => Place_nil W'))
 go_enter Tryz.func10, Tryz.ntmps10
 go_wp2_with fail
 refine (uh HB).mono ?_
 rintro e w1 ⟨rfl, b1⟩
 have HB1 := zh b1
 clear b1
 go_wp2_with fail
 refine (uh HI _).mono ?_
 rintro e w2 ⟨rfl, b2⟩
 have HB2 := zh b2
 clear b2
 go_wp2
 go_ret
 exact ⟨rfl, (uh HB1).trans ((uh HB2).mono (uh HB1).size)⟩
theorem bare_err (n : Int) (w : World) (hg : ErrorType w) : Calls Tryz.prog 10 #[errV n, .int .i64 n] w fun e w' => e = .returned (.bool true) /\ Below w.heap.size w w' := by
 by_cases h : n = 0
 ·subst h
  exact law_bare_no w
 ·unfold errV
  rw [if_neg h]
  exact law_bare n w hg
theorem same_pieces (l : List (Int × Int × ByteArray)) (ad ad' : Option Addr) (g g' c c' : Nat) (w : World) (hl : l.length <= 9223372036854775807) (h : ∀ j, (hj : j < l.length) -> ad = some ⟨g, 0, none⟩ /\ w.cell? ⟨g, j * 3, none⟩ = some (.int .i64 l[j].1) /\ w.cell? ⟨g, j * 3 + 1, none⟩ = some (.int .i64 l[j].2.1) /\ w.cell? ⟨g, j * 3 + 2, none⟩ = some (.string l[j].2.2)) (h' : ∀ j, (hj : j < l.length) -> ad' = some ⟨g', 0, none⟩ /\ w.cell? ⟨g', j * 3, none⟩ = some (.int .i64 l[j].1) /\ w.cell? ⟨g', j * 3 + 1, none⟩ = some (.int .i64 l[j].2.1) /\ w.cell? ⟨g', j * 3 + 2, none⟩ = some (.string l[j].2.2)) :
  Calls Tryz.prog 52 #[.slice ad l.length c, .slice ad' l.length c'] w fun e w' => e = .returned (.bool true) /\ Below w.heap.size w w' := by
 have H := zh h
 have H' := zh h'
 clear h h'
 go_enter Tryz.func52, Tryz.ntmps52
 go_wp2
 go_loopw [5] (fun i y => ∃ j : Nat, j <= l.length /\ i = .int .i64 j /\ Below w.heap.size w y) (fun i _ => l.length - (intOf i).toNat)
 case atStart => exact ⟨0, Nat.zero_le _, rfl, Below.refl _ _⟩
 case round =>
  obtain ⟨j, hj, rfl, hb⟩ := hrel
  have HB := zh hb
  clear hb
  by_cases hlt : j < l.length
  ·have hlt' : (j : Int) < (l.length : Int) := by omega
   have hj0 : (0 : Int) <= (j : Int) := by omega
   obtain ⟨rfl, x0, x1, x2⟩ := uh H j hlt
   obtain ⟨rfl, y0, y1, y2⟩ := uh H' j hlt
   have q100 := ((uh HB).cell (p := _) (lt_of_cell x0)).trans x0
   have q101 := ((uh HB).cell (p := _) (lt_of_cell x1)).trans x1
   have q102 := ((uh HB).cell (p := _) (lt_of_cell x2)).trans x2
   have q103 := ((uh HB).cell (p := _) (lt_of_cell y0)).trans y0
   have q104 := ((uh HB).cell (p := _) (lt_of_cell y1)).trans y1
   have q105 := ((uh HB).cell (p := _) (lt_of_cell y2)).trans y2
   clear x0 x1 x2 y0 y1 y2
   generalize l[j] = z at *
   go_wp2
   go_quiet (fail)
   have HB2 := zh ((uh HB).trans ((below_drewN _ nq).mono (uh HB).size))
   go_wp2
   go_roundw
   case rel => exact ⟨j + 1, by omega, by go_num, uh HB2⟩
   case measure => simp [intOf]; omega
  ·have hlt' : ¬ (j : Int) < (l.length : Int) := by omega
   go_wp2
   go_ret
   exact ⟨rfl, uh HB⟩
theorem same_keys (l : List (Ky)) (ad ad' : Option Addr) (g g' c c' : Nat) (w : World) (hl : l.length <= 9223372036854775807) (h : ∀ j, (hj : j < l.length) -> ad = some ⟨g, 0, none⟩ /\ w.cell? ⟨g, j * 4, none⟩ = some (.int .i64 l[j].kind) /\ w.cell? ⟨g, j * 4 + 1, none⟩ = some (.int .i64 l[j].a) /\ w.cell? ⟨g, j * 4 + 2, none⟩ = some (.string l[j].word) /\ w.cell? ⟨g, j * 4 + 3, none⟩ = some (.int .i64 l[j].b)) (h' : ∀ j, (hj : j < l.length) -> ad' = some ⟨g', 0, none⟩ /\ w.cell? ⟨g', j * 4, none⟩ = some (.int .i64 l[j].kind) /\ w.cell? ⟨g', j * 4 + 1, none⟩ = some (.int .i64 l[j].a) /\ w.cell? ⟨g', j * 4 + 2, none⟩ = some (.string l[j].word) /\ w.cell? ⟨g', j * 4 + 3, none⟩ = some (.int .i64 l[j].b)) :
  Calls Tryz.prog 25 #[.slice ad l.length c, .slice ad' l.length c'] w fun e w' => e = .returned (.bool true) /\ Below w.heap.size w w' := by
 have H := zh h
 have H' := zh h'
 clear h h'
 go_enter Tryz.func25, Tryz.ntmps25
 go_wp2
 go_loopw [5] (fun i y => ∃ j : Nat, j <= l.length /\ i = .int .i64 j /\ Below w.heap.size w y) (fun i _ => l.length - (intOf i).toNat)
 case atStart => exact ⟨0, Nat.zero_le _, rfl, Below.refl _ _⟩
 case round =>
  obtain ⟨j, hj, rfl, hb⟩ := hrel
  have HB := zh hb
  clear hb
  by_cases hlt : j < l.length
  ·have hlt' : (j : Int) < (l.length : Int) := by omega
   have hj0 : (0 : Int) <= (j : Int) := by omega
   obtain ⟨rfl, x0, x1, x2, x3⟩ := uh H j hlt
   obtain ⟨rfl, y0, y1, y2, y3⟩ := uh H' j hlt
   have q100 := ((uh HB).cell (p := _) (lt_of_cell x0)).trans x0
   have q101 := ((uh HB).cell (p := _) (lt_of_cell x1)).trans x1
   have q102 := ((uh HB).cell (p := _) (lt_of_cell x2)).trans x2
   have q103 := ((uh HB).cell (p := _) (lt_of_cell x3)).trans x3
   have q104 := ((uh HB).cell (p := _) (lt_of_cell y0)).trans y0
   have q105 := ((uh HB).cell (p := _) (lt_of_cell y1)).trans y1
   have q106 := ((uh HB).cell (p := _) (lt_of_cell y2)).trans y2
   have q107 := ((uh HB).cell (p := _) (lt_of_cell y3)).trans y3
   clear x0 x1 x2 x3 y0 y1 y2 y3
   generalize l[j] = z at *
   go_wp2
   go_quiet (fail)
   have HB2 := zh ((uh HB).trans ((below_drewN _ nq).mono (uh HB).size))
   go_wp2
   go_roundw
   case rel => exact ⟨j + 1, by omega, by go_num, uh HB2⟩
   case measure => simp [intOf]; omega
  ·have hlt' : ¬ (j : Int) < (l.length : Int) := by omega
   go_wp2
   go_ret
   exact ⟨rfl, uh HB⟩
theorem same_texts (l : List (ByteArray)) (ad ad' : Option Addr) (g g' c c' : Nat) (w : World) (hl : l.length <= 9223372036854775807) (h : ∀ j, (hj : j < l.length) -> ad = some ⟨g, 0, none⟩ /\ w.cell? ⟨g, j, none⟩ = some (.string l[j])) (h' : ∀ j, (hj : j < l.length) -> ad' = some ⟨g', 0, none⟩ /\ w.cell? ⟨g', j, none⟩ = some (.string l[j])) :
  Calls Tryz.prog 55 #[.slice ad l.length c, .slice ad' l.length c'] w fun e w' => e = .returned (.bool true) /\ Below w.heap.size w w' := by
 have H := zh h
 have H' := zh h'
 clear h h'
 go_enter Tryz.func55, Tryz.ntmps55
 go_wp2
 go_loopw [5] (fun i y => ∃ j : Nat, j <= l.length /\ i = .int .i64 j /\ Below w.heap.size w y) (fun i _ => l.length - (intOf i).toNat)
 case atStart => exact ⟨0, Nat.zero_le _, rfl, Below.refl _ _⟩
 case round =>
  obtain ⟨j, hj, rfl, hb⟩ := hrel
  have HB := zh hb
  clear hb
  by_cases hlt : j < l.length
  ·have hlt' : (j : Int) < (l.length : Int) := by omega
   have hj0 : (0 : Int) <= (j : Int) := by omega
   obtain ⟨rfl, x0⟩ := uh H j hlt
   obtain ⟨rfl, y0⟩ := uh H' j hlt
   have q100 := ((uh HB).cell (p := _) (lt_of_cell x0)).trans x0
   have q101 := ((uh HB).cell (p := _) (lt_of_cell y0)).trans y0
   clear x0 y0
   generalize l[j] = z at *
   go_wp2
   go_quiet (fail)
   have HB2 := zh ((uh HB).trans ((below_drewN _ nq).mono (uh HB).size))
   go_wp2
   go_roundw
   case rel => exact ⟨j + 1, by omega, by go_num, uh HB2⟩
   case measure => simp [intOf]; omega
  ·have hlt' : ¬ (j : Int) < (l.length : Int) := by omega
   go_wp2
   go_ret
   exact ⟨rfl, uh HB⟩
def valE (n : Nat) (known : Int) (k : Ky) (at_ t : Int) : Int := if countErr n known at_ = 0 then (if keyB k.kind k.a k.word k.b && timedB t then 0 else 1) else countErr n known at_
def pieE (n : Nat) (known : Int) (k : Ky) (at_ : Int) : Int := if countErr n known at_ = 0 then (if keyB k.kind k.a k.word k.b then 0 else 1) else countErr n known at_
def everE (n : Nat) (known : Int) (k : Ky) (a b lo hi : Int) : Int :=
 if countErr n known a = 0 then (if countErr n known b = 0 then (if b < a then 10 else if keyB k.kind k.a k.word k.b && rightB lo hi then 0 else 1) else countErr n known b) else countErr n known a
def keysE (n : Nat) (known : Int) (at_ t : Int) : Int := if countErr n known at_ = 0 then (if timedB t then 0 else 1) else countErr n known at_
theorem count_zero {n : Nat} {known at_ : Int} (h : countErr n known at_ = 0) : 0 <= at_ /\ known <= at_ /\ at_ <= (n : Int) := by
 unfold countErr at h
 by_cases h1 : at_ < 0 \/ (n : Int) < at_
 ·rw [if_pos h1] at h; cases h
 ·rw [if_neg h1] at h
  by_cases h2 : at_ < known
  ·rw [if_pos h2] at h; cases h
  ·omega
theorem errV_some {e : Int} (h : e ≠ 0) : errV e = .iface 43 (.int .i64 e) := if_neg h
theorem nil_err {n known a : Int} (h : countErr n known a = 0) : errV (countErr n known a) = .nilIface := by rw [h]; rfl
structure TwoP (w : World) (P : Pl) (R : Nat) (txs : List (List Fop)) (known : Int) (F G : Nat -> Prop) : Prop where
 p : PastT w P txs known F
 q : RefQ w R txs known G
theorem TwoP.below {w w' : World} {P : Pl} {R : Nat} {txs : List (List Fop)} {known : Int} {F G : Nat -> Prop} (h : TwoP w P R txs known F G) (hb : Below w.heap.size w w') : TwoP w' P R txs known F G := ⟨h.p.below hb, h.q.below hb⟩
theorem TwoP.bd {w : World} {P : Pl} {R : Nat} {txs : List (List Fop)} {known : Int} {F G : Nat -> Prop} (h : TwoP w P R txs known F G) : (24 * txs.length : Int) <= 4000 := by have := h.q.most; omega
theorem TwoP.ok {w : World} {P : Pl} {R : Nat} {txs : List (List Fop)} {known : Int} {F G : Nat -> Prop} (h : TwoP w P R txs known F G) : TxsOk txs := h.q.ok
abbrev keyA (k : Ky) : Value := .agg #[.int .i64 k.kind, .int .i64 k.a, .string k.word, .int .i64 k.b]
section
variable {w : World} {P : Pl} {R : Nat} {txs : List (List Fop)} {known : Int} {F G : Nat -> Prop}
def KeyL (txs : List (List Fop)) (at_ t n : Int) (L : List Ky) : Prop := L.Pairwise (fun a b => cfY a b < 0) /\ (∀ k, k ∈ L ↔ n = 0 /\ refS txs k at_.toNat t ≠ ByteArray.empty) /\ L.length <= 4000
theorem key_none (txs : List (List Fop)) (at_ t n : Int) (h : n ≠ 0) : KeyL txs at_ t n [] := ⟨List.Pairwise.nil, fun x => ⟨fun q => (by cases q), fun q => absurd q.1 h⟩, by decide⟩
theorem key_one {at_ t n : Int} {L M : List Ky} (h : KeyL txs at_ t n L) (h' : KeyL txs at_ t n M) : L = M := rises_one cf_irr cf_asym L M h.1 h'.1 (fun x => by rw [h.2.1, h'.2.1])
theorem ref_keys (h : TwoP w P R txs known F G) (at_ t : Int) :
  Calls Tryz.prog 56 #[.pointer (some ⟨R, 0, none⟩), .int .i64 at_, .int .i64 t] w fun r w' => ∃ u L, r = .returned (.tuple #[u, .int .i64 (keysE txs.length known at_ t)]) /\ RowY w' w.heap.size u L /\ KeyL txs at_ t (keysE txs.length known at_ t) L /\ Below w.heap.size w w' := by
 unfold keysE
 by_cases hc : countErr txs.length known at_ = 0
 ·rw [if_pos hc]
  obtain ⟨h0, h1, h2⟩ := count_zero hc
  cases ht : timedB t with
  | false => exact (rp_keys_time h.q.refP at_ t hc ht).mono fun _ _ ⟨q1, q2⟩ => ⟨_, [], q1, World.ownsRow_nil _ _ _ _, key_none _ _ _ _ (by decide), q2⟩
  | true =>
   obtain ⟨c, rfl⟩ : ∃ c : Nat, at_ = (c : Int) := ⟨at_.toNat, by omega⟩
   refine (rp_keys_ok h.q.refP c t (by omega) hc ht (fun l hl o ho => (h.ok.fit hl ho).1)).mono ?_
   rintro r w' ⟨u, L, rfl, hr, hp, hm, hl, hb⟩
   exact ⟨u, L, rfl, hr, ⟨hp, fun k => by rw [hm k]; simp, hl⟩, hb⟩
 ·rw [if_neg hc]
  exact (rp_keys_count h.q.refP at_ t _ rfl hc).mono fun _ _ ⟨q1, q2⟩ => ⟨_, [], q1, World.ownsRow_nil _ _ _ _, key_none _ _ _ _ hc, q2⟩
theorem past_keys (h : TwoP w P R txs known F G) (at_ t : Int) (t0 : -9223372036854775808 <= t) (t1 : t <= 9223372036854775807) :
  Calls Tryz.prog 57 #[.pointer (some ⟨P.b, P.o, none⟩), .int .i64 at_, .int .i64 t] w fun r w' => ∃ u L, r = .returned (.tuple #[u, errV (keysE txs.length known at_ t)]) /\ RowY w' w.heap.size u L /\ KeyL txs at_ t (keysE txs.length known at_ t) L /\ Below w.heap.size w w' := by
 unfold keysE
 by_cases hc : countErr txs.length known at_ = 0
 ·rw [if_pos hc]
  obtain ⟨h0, h1, h2⟩ := count_zero hc
  cases ht : timedB t with
  | false => exact (keys_time h.p at_ t h0 h1 h2 (moment_bad t0 t1 (of_decide_eq_false ht))).mono fun _ _ ⟨q1, q2⟩ => ⟨_, [], q1, World.ownsRow_nil _ _ _ _, key_none _ _ _ _ (by decide), q2⟩
  | true =>
   have ht' := of_decide_eq_true ht
   refine (keys_ok h.p h.bd at_ t h0 h1 h2 ht'.1 ht'.2).mono ?_
   rintro r w' ⟨u, L, rfl, hr, hp, hm, hl, hb⟩
   exact ⟨u, L, rfl, hr, ⟨hp, fun k => by rw [hm k]; unfold refI; simp, hl⟩, hb⟩
 ·rw [if_neg hc, errV_some hc]
  exact (keys_count h.p at_ t _ rfl hc).mono fun _ _ ⟨q1, q2⟩ => ⟨_, [], q1, World.ownsRow_nil _ _ _ _, key_none _ _ _ _ hc, q2⟩
end
end Go.Proofs.YtfoojmflbifkpaaGreatDoor

namespace Go.Proofs.YtfoojmflbifkpaaGreatDoor
open Go.RowKit Go.Maps
theorem rowY_cells {w : World} {base : Nat} {u : Value} {l : List Ky} (h : RowY w base u l) : ∃ g ad c, u = .slice ad l.length c /\ ∀ j, (hj : j < l.length) -> ad = some ⟨g, 0, none⟩ /\ w.cell? ⟨g, j * 4, none⟩ = some (.int .i64 l[j].kind) /\ w.cell? ⟨g, j * 4 + 1, none⟩ = some (.int .i64 l[j].a) /\ w.cell? ⟨g, j * 4 + 2, none⟩ = some (.string l[j].word) /\ w.cell? ⟨g, j * 4 + 3, none⟩ = some (.int .i64 l[j].b) := by
 rcases h.2 with ⟨rfl, h0⟩ | ⟨g, cap, cur, rfl, hg, hh, h3, h4, h5, h6⟩
 ·exact ⟨0, none, 0, by rw [h0], fun j hj => by omega⟩
 ·refine ⟨g, _, cap, rfl, fun j hj => ⟨rfl, ?_⟩⟩
  have key : ∀ m, m < 4 -> w.cell? ⟨g, j * 4 + m, none⟩ = some ((encY l[j])[m]!) := fun m hm => by
   have e1 := encYs_get l (j * 4 + m) (by omega)
   rw [show (j * 4 + m) / 4 = j by omega, show (j * 4 + m) % 4 = m by omega, List.getElem?_eq_getElem hj] at e1
   unfold World.cell?
   simp only [hh]
   rw [<- Array.getElem?_toList, <- List.getElem?_take_of_lt (show j * 4 + m < l.length * 4 by omega), h6]
   exact e1
  exact ⟨key 0 (by omega), key 1 (by omega), key 2 (by omega), key 3 (by omega)⟩
theorem same_keys_own {w : World} {base base' : Nat} {u u' : Value} {l : List Ky} (h : RowY w base u l) (h' : RowY w base' u' l) :
  Calls Tryz.prog 25 #[u, u'] w fun e w' => e = .returned (.bool true) /\ Below w.heap.size w w' := by
 have hm := row_max (show World.ownsRow _ _ _ _ _ _ _ from h)
 obtain ⟨g, ad, c, rfl, hc⟩ := rowY_cells h
 obtain ⟨g', ad', c', rfl, hc'⟩ := rowY_cells h'
 exact same_keys l ad ad' g g' c c' w hm hc hc'
end Go.Proofs.YtfoojmflbifkpaaGreatDoor
