/- Texts of one proof, one behind the other. -/
import Derived.Test.YtfoojmflbifkpaaGreatDoorCn
import Derived.Test.YtfoojmflbifkpaaGreatDoorCl
import Derived.Test.YtfoojmflbifkpaaGreatDoorBw
import Derived.Test.YtfoojmflbifkpaaGreatDoorBd
import Derived.Test.YtfoojmflbifkpaaGreatDoorBu
import Derived.Test.YtfoojmflbifkpaaGreatDoorBx
import Derived.Test.YtfoojmflbifkpaaGreatDoorBk
import Derived.Deep.QuietTactic
import Derived.BigQuiet
import Derived.Laws.StructEq

/- What the program's past tells and what the document's tells are the same: plain. -/
namespace Go.Proofs.YtfoojmflbifkpaaGreatDoor
open Go.RowKit Go.Maps
theorem rises_one {α : Type} {r : α → α → Prop} (hi : ∀ a, ¬ r a a) (has : ∀ a b, r a b → ¬ r b a) : ∀ (l m : List α), l.Pairwise r → m.Pairwise r → (∀ x, x ∈ l ↔ x ∈ m) → l = m
  | [], [], _, _, _ => rfl
  | [], b :: m, _, _, h => absurd ((h b).2 List.mem_cons_self) (by simp)
  | a :: l, [], _, _, h => absurd ((h a).1 List.mem_cons_self) (by simp)
  | a :: l, b :: m, hl, hm, h => by
    obtain ⟨hl1, hl2⟩ := List.pairwise_cons.1 hl
    obtain ⟨hm1, hm2⟩ := List.pairwise_cons.1 hm
    have hab : a = b := by
      rcases List.mem_cons.1 ((h a).1 List.mem_cons_self) with q | q
      · exact q
      · rcases List.mem_cons.1 ((h b).2 List.mem_cons_self) with z | z
        · exact z.symm
        · exact absurd (hl1 b z) (has b a (hm1 a q))
    subst hab
    congr 1
    refine rises_one hi has l m hl2 hm2 (fun x => ?_)
    constructor
    · intro hx
      rcases List.mem_cons.1 ((h x).1 (List.mem_cons_of_mem _ hx)) with q | q
      · subst q; exact absurd (hl1 x hx) (hi x)
      · exact q
    · intro hx
      rcases List.mem_cons.1 ((h x).2 (List.mem_cons_of_mem _ hx)) with q | q
      · subst q; exact absurd (hm1 x hx) (hi x)
      · exact q
def TxsOk (txs : List (List Fop)) : Prop := ∀ l, l ∈ txs → okL l
theorem TxsOk.fit {txs : List (List Fop)} (h : TxsOk txs) {l : List Fop} (hl : l ∈ txs) {o : Fop} (ho : o ∈ l) : KyOk (kyO o) ∧ o.word.size ≤ 12 ∧ o.value.size ≤ 12 ∧ rightB o.lo o.hi = true := op_fit ((h l hl).2.2 o ho)
theorem cf_irr (a : Ky) : ¬ cfY a a < 0 := by rw [cfY_zero.2 rfl]; decide
theorem cf_asym (a b : Ky) (h : cfY a b < 0) : ¬ cfY b a < 0 := by have := cfY_turn a b; omega
end Go.Proofs.YtfoojmflbifkpaaGreatDoor

/- Small calls of the law: an error without a place; rows that are the same. -/
namespace Go.Proofs.YtfoojmflbifkpaaGreatDoor
open Go.RowKit Go.Maps
theorem law_bare_no (w : World) :
    Calls Tryz.prog 10 #[.nilIface, .int .i64 0] w fun e w' => e = .returned (.bool true) ∧ Below w.heap.size w w' := by
  have HB := hide (bare_of 0 w)
  have HI := hide (fun W => law_is .nilIface 0 (-1) W (fun W' _ => Place_nil W'))
  go_enter Tryz.func10, Tryz.ntmps10
  go_wp2_with fail
  refine (unhide HB).mono ?_
  rintro e w1 ⟨rfl, b1⟩
  have HB1 := hide b1
  clear b1
  go_wp2_with fail
  refine (unhide HI _).mono ?_
  rintro e w2 ⟨rfl, b2⟩
  have HB2 := hide b2
  clear b2
  go_wp2
  go_ret
  exact ⟨rfl, (unhide HB1).trans ((unhide HB2).mono (unhide HB1).size)⟩
theorem bare_err (n : Int) (w : World) (hg : ErrorType w) : Calls Tryz.prog 10 #[errV n, .int .i64 n] w fun e w' => e = .returned (.bool true) ∧ Below w.heap.size w w' := by
  by_cases h : n = 0
  · subst h
    exact law_bare_no w
  · unfold errV
    rw [if_neg h]
    exact law_bare n w hg
set_option maxHeartbeats 2000000 in
theorem same_keys (l : List (Ky)) (ad ad' : Option Addr) (g g' c c' : Nat) (w : World) (hl : l.length ≤ 9223372036854775807) (h : ∀ j, (hj : j < l.length) → ad = some ⟨g, 0, none⟩ ∧ w.cell? ⟨g, j * 4, none⟩ = some (.int .i64 l[j].kind) ∧ w.cell? ⟨g, j * 4 + 1, none⟩ = some (.int .i64 l[j].a) ∧ w.cell? ⟨g, j * 4 + 2, none⟩ = some (.string l[j].word) ∧ w.cell? ⟨g, j * 4 + 3, none⟩ = some (.int .i64 l[j].b)) (h' : ∀ j, (hj : j < l.length) → ad' = some ⟨g', 0, none⟩ ∧ w.cell? ⟨g', j * 4, none⟩ = some (.int .i64 l[j].kind) ∧ w.cell? ⟨g', j * 4 + 1, none⟩ = some (.int .i64 l[j].a) ∧ w.cell? ⟨g', j * 4 + 2, none⟩ = some (.string l[j].word) ∧ w.cell? ⟨g', j * 4 + 3, none⟩ = some (.int .i64 l[j].b)) :
    Calls Tryz.prog 25 #[.slice ad l.length c, .slice ad' l.length c'] w fun e w' => e = .returned (.bool true) ∧ Below w.heap.size w w' := by
  have H := hide h
  have H' := hide h'
  clear h h'
  go_enter Tryz.func25, Tryz.ntmps25
  go_wp2
  go_loopw [5] (fun i y => ∃ j : Nat, j ≤ l.length ∧ i = .int .i64 j ∧ Below w.heap.size w y) (fun i _ => l.length - (intOf i).toNat)
  case atStart => exact ⟨0, Nat.zero_le _, rfl, Below.refl _ _⟩
  case round =>
    obtain ⟨j, hj, rfl, hb⟩ := hrel
    have HB := hide hb
    clear hb
    by_cases hlt : j < l.length
    · have hlt' : (j : Int) < (l.length : Int) := by omega
      have hj0 : (0 : Int) ≤ (j : Int) := by omega
      obtain ⟨rfl, x0, x1, x2, x3⟩ := unhide H j hlt
      obtain ⟨rfl, y0, y1, y2, y3⟩ := unhide H' j hlt
      have q100 := ((unhide HB).cell (p := _) (lt_of_cell x0)).trans x0
      have q101 := ((unhide HB).cell (p := _) (lt_of_cell x1)).trans x1
      have q102 := ((unhide HB).cell (p := _) (lt_of_cell x2)).trans x2
      have q103 := ((unhide HB).cell (p := _) (lt_of_cell x3)).trans x3
      have q104 := ((unhide HB).cell (p := _) (lt_of_cell y0)).trans y0
      have q105 := ((unhide HB).cell (p := _) (lt_of_cell y1)).trans y1
      have q106 := ((unhide HB).cell (p := _) (lt_of_cell y2)).trans y2
      have q107 := ((unhide HB).cell (p := _) (lt_of_cell y3)).trans y3
      clear x0 x1 x2 x3 y0 y1 y2 y3
      generalize l[j] = z at *
      go_wp2
      go_quiet (fail)
      have HB2 := hide ((unhide HB).trans ((below_drewN _ nq).mono (unhide HB).size))
      go_wp2
      go_roundw
      case rel => exact ⟨j + 1, by omega, by go_num, unhide HB2⟩
      case measure => simp [intOf]; omega
    · have hlt' : ¬ (j : Int) < (l.length : Int) := by omega
      go_wp2
      go_ret
      exact ⟨rfl, unhide HB⟩
end Go.Proofs.YtfoojmflbifkpaaGreatDoor

/- Both pasts beside each other; the keys that each tells. -/
namespace Go.Proofs.YtfoojmflbifkpaaGreatDoor
open Go.RowKit Go.Maps
def keysE (n : Nat) (known : Int) (at_ t : Int) : Int := if countErr n known at_ = 0 then (if timedB t then 0 else 1) else countErr n known at_
theorem count_zero {n : Nat} {known at_ : Int} (h : countErr n known at_ = 0) : 0 ≤ at_ ∧ known ≤ at_ ∧ at_ ≤ (n : Int) := by
  unfold countErr at h
  by_cases h1 : at_ < 0 ∨ (n : Int) < at_
  · rw [if_pos h1] at h; cases h
  · rw [if_neg h1] at h
    by_cases h2 : at_ < known
    · rw [if_pos h2] at h; cases h
    · omega
theorem errV_some {e : Int} (h : e ≠ 0) : errV e = .iface 43 (.int .i64 e) := if_neg h
structure TwoP (w : World) (P : Pl) (R : Nat) (txs : List (List Fop)) (known : Int) (F G : Nat → Prop) : Prop where
  p : PastT w P txs known F
  q : RefQ w R txs known G
theorem TwoP.below {w w' : World} {P : Pl} {R : Nat} {txs : List (List Fop)} {known : Int} {F G : Nat → Prop} (h : TwoP w P R txs known F G) (hb : Below w.heap.size w w') : TwoP w' P R txs known F G := ⟨h.p.below hb, h.q.below hb⟩
theorem TwoP.bd {w : World} {P : Pl} {R : Nat} {txs : List (List Fop)} {known : Int} {F G : Nat → Prop} (h : TwoP w P R txs known F G) : (24 * txs.length : Int) ≤ 4000 := by have := h.q.most; omega
theorem TwoP.ok {w : World} {P : Pl} {R : Nat} {txs : List (List Fop)} {known : Int} {F G : Nat → Prop} (h : TwoP w P R txs known F G) : TxsOk txs := h.q.ok
abbrev keyA (k : Ky) : Value := .agg #[.int .i64 k.kind, .int .i64 k.a, .string k.word, .int .i64 k.b]
section
variable {w : World} {P : Pl} {R : Nat} {txs : List (List Fop)} {known : Int} {F G : Nat → Prop}
def KeyL (txs : List (List Fop)) (at_ t n : Int) (L : List Ky) : Prop := L.Pairwise (fun a b => cfY a b < 0) ∧ (∀ k, k ∈ L ↔ n = 0 ∧ refS txs k at_.toNat t ≠ ByteArray.empty) ∧ L.length ≤ 4000
theorem key_none (txs : List (List Fop)) (at_ t n : Int) (h : n ≠ 0) : KeyL txs at_ t n [] := ⟨List.Pairwise.nil, fun x => ⟨fun q => (by cases q), fun q => absurd q.1 h⟩, by decide⟩
theorem ref_keys (h : TwoP w P R txs known F G) (at_ t : Int) :
    Calls Tryz.prog 56 #[.pointer (some ⟨R, 0, none⟩), .int .i64 at_, .int .i64 t] w fun r w' => ∃ u L, r = .returned (.tuple #[u, .int .i64 (keysE txs.length known at_ t)]) ∧ RowY w' w.heap.size u L ∧ KeyL txs at_ t (keysE txs.length known at_ t) L ∧ Below w.heap.size w w' := by
  unfold keysE
  by_cases hc : countErr txs.length known at_ = 0
  · rw [if_pos hc]
    obtain ⟨h0, h1, h2⟩ := count_zero hc
    cases ht : timedB t with
    | false => exact (rp_keys_time h.q.refP at_ t hc ht).mono fun _ _ ⟨q1, q2⟩ => ⟨_, [], q1, World.ownsRow_nil _ _ _ _, key_none _ _ _ _ (by decide), q2⟩
    | true =>
      obtain ⟨c, rfl⟩ : ∃ c : Nat, at_ = (c : Int) := ⟨at_.toNat, by omega⟩
      refine (rp_keys_ok h.q.refP c t (by omega) hc ht (fun l hl o ho => (h.ok.fit hl ho).1)).mono ?_
      rintro r w' ⟨u, L, rfl, hr, hp, hm, hl, hb⟩
      exact ⟨u, L, rfl, hr, ⟨hp, fun k => by rw [hm k]; simp, hl⟩, hb⟩
  · rw [if_neg hc]
    exact (rp_keys_count h.q.refP at_ t _ rfl hc).mono fun _ _ ⟨q1, q2⟩ => ⟨_, [], q1, World.ownsRow_nil _ _ _ _, key_none _ _ _ _ hc, q2⟩
theorem past_keys (h : TwoP w P R txs known F G) (at_ t : Int) (t0 : -9223372036854775808 ≤ t) (t1 : t ≤ 9223372036854775807) :
    Calls Tryz.prog 57 #[.pointer (some ⟨P.b, P.o, none⟩), .int .i64 at_, .int .i64 t] w fun r w' => ∃ u L, r = .returned (.tuple #[u, errV (keysE txs.length known at_ t)]) ∧ RowY w' w.heap.size u L ∧ KeyL txs at_ t (keysE txs.length known at_ t) L ∧ Below w.heap.size w w' := by
  unfold keysE
  by_cases hc : countErr txs.length known at_ = 0
  · rw [if_pos hc]
    obtain ⟨h0, h1, h2⟩ := count_zero hc
    cases ht : timedB t with
    | false => exact (keys_time h.p at_ t h0 h1 h2 (moment_bad t0 t1 (of_decide_eq_false ht))).mono fun _ _ ⟨q1, q2⟩ => ⟨_, [], q1, World.ownsRow_nil _ _ _ _, key_none _ _ _ _ (by decide), q2⟩
    | true =>
      have ht' := of_decide_eq_true ht
      refine (keys_ok h.p h.bd at_ t h0 h1 h2 ht'.1 ht'.2).mono ?_
      rintro r w' ⟨u, L, rfl, hr, hp, hm, hl, hb⟩
      exact ⟨u, L, rfl, hr, ⟨hp, fun k => by rw [hm k]; unfold refI; simp, hl⟩, hb⟩
  · rw [if_neg hc, errV_some hc]
    exact (keys_count h.p at_ t _ rfl hc).mono fun _ _ ⟨q1, q2⟩ => ⟨_, [], q1, World.ownsRow_nil _ _ _ _, key_none _ _ _ _ hc, q2⟩
end
end Go.Proofs.YtfoojmflbifkpaaGreatDoor

/- The law's comparison of rows of keys of one's own. -/
namespace Go.Proofs.YtfoojmflbifkpaaGreatDoor
open Go.RowKit Go.Maps
theorem rowY_cells {w : World} {base : Nat} {u : Value} {l : List Ky} (h : RowY w base u l) : ∃ g ad c, u = .slice ad l.length c ∧ ∀ j, (hj : j < l.length) → ad = some ⟨g, 0, none⟩ ∧ w.cell? ⟨g, j * 4, none⟩ = some (.int .i64 l[j].kind) ∧ w.cell? ⟨g, j * 4 + 1, none⟩ = some (.int .i64 l[j].a) ∧ w.cell? ⟨g, j * 4 + 2, none⟩ = some (.string l[j].word) ∧ w.cell? ⟨g, j * 4 + 3, none⟩ = some (.int .i64 l[j].b) := by
  rcases h.2 with ⟨rfl, h0⟩ | ⟨g, cap, cur, rfl, hg, hh, h3, h4, h5, h6⟩
  · exact ⟨0, none, 0, by rw [h0], fun j hj => by omega⟩
  · refine ⟨g, _, cap, rfl, fun j hj => ⟨rfl, ?_⟩⟩
    have key : ∀ m, m < 4 → w.cell? ⟨g, j * 4 + m, none⟩ = some ((encY l[j])[m]!) := fun m hm => by
      have e1 := encYs_get l (j * 4 + m) (by omega)
      rw [show (j * 4 + m) / 4 = j by omega, show (j * 4 + m) % 4 = m by omega, List.getElem?_eq_getElem hj] at e1
      unfold World.cell?
      simp only [hh]
      rw [← Array.getElem?_toList, ← List.getElem?_take_of_lt (show j * 4 + m < l.length * 4 by omega), h6]
      exact e1
    exact ⟨key 0 (by omega), key 1 (by omega), key 2 (by omega), key 3 (by omega)⟩
theorem same_keys_own {w : World} {base base' : Nat} {u u' : Value} {l : List Ky} (h : RowY w base u l) (h' : RowY w base' u' l) :
    Calls Tryz.prog 25 #[u, u'] w fun e w' => e = .returned (.bool true) ∧ Below w.heap.size w w' := by
  have hm := row_max (show World.ownsRow _ _ _ _ _ _ _ from h)
  obtain ⟨g, ad, c, rfl, hc⟩ := rowY_cells h
  obtain ⟨g', ad', c', rfl, hc'⟩ := rowY_cells h'
  exact same_keys l ad ad' g g' c c' w hm hc hc'
end Go.Proofs.YtfoojmflbifkpaaGreatDoor
