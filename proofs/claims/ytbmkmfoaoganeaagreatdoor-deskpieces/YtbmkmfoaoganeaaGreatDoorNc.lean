/- Texts of one proof, one behind the other. -/
import Derived.Test.YtbmkmfoaoganeaaGreatDoorNb
import Derived.Test.YtbmkmfoaoganeaaGreatDoorNa
import Derived.OneCell
import Derived.Laws.EntriesVeiled
set_option maxRecDepth 100000
set_option maxHeartbeats 16000000
namespace Go.Proofs.YtbmkmfoaoganeaaGreatDoor
open Go.RowKit Go.Maps
def ptrB (x : Nat × Ent) : Value := .pointer (some ⟨x.1, 0, none⟩)
structure Gath (w : World) (bv bo q c : Nat) (ys : List Value) : Prop where
 v : w.heap[bv]? = some (.cells #[.func (.func 283) #[] #[.pointer (some ⟨bv, 0, none⟩), .pointer (some ⟨bo, 0, none⟩)]] 332 (0, 0))
 o : w.heap[bo]? = some (.cells #[.slice (some ⟨q, 0, none⟩) ys.length c] 336 (0, 0))
 row : w.ownsRow 0 201 1 (.slice (some ⟨q, 0, none⟩) ys.length c) ys.length ys
theorem row_block {w : World} {base q n c : Nat} {e : TypeId} {xs : List Value} (h : w.ownsRow base e 1 (.slice (some ⟨q, 0, none⟩) n c) n xs) : ∃ cur, w.heap[q]? = some (.cells cur e (0, 0)) /\ cur.size = c /\ n <= c /\ c <= maxLen /\ base <= q := by
 rcases h.2 with ⟨h1, _⟩ | ⟨g, cap, cur, hv, hg, hh, h3, h4, h5, _⟩
 ·cases h1
 ·cases hv
  exact ⟨cur, hh, by simpa using h5, h3, h4, hg⟩
theorem Gath.apart {w : World} {bv bo q c : Nat} {ys : List Value} (h : Gath w bv bo q c ys) : bv ≠ bo /\ q ≠ bv /\ q ≠ bo := by
 obtain ⟨cur, hq, _⟩ := row_block h.row
 refine ⟨fun e => ?_, fun e => ?_, fun e => ?_⟩
 ·have := h.v
  rw [e, h.o] at this
  simp at this
 ·have := h.v
  rw [<- e, hq] at this
  simp at this
 ·have := h.o
  rw [<- e, hq] at this
  simp at this
theorem Gath.lt {w : World} {bv bo q c : Nat} {ys : List Value} (h : Gath w bv bo q c ys) : bv < w.heap.size /\ bo < w.heap.size /\ q < w.heap.size := by
 obtain ⟨cur, hq, _⟩ := row_block h.row
 exact ⟨lt_of_block h.v, lt_of_block h.o, lt_of_block hq⟩
theorem Gath.below {w w' : World} {bv bo q c : Nat} {ys : List Value} (h : Gath w bv bo q c ys) (hb : Below w.heap.size w w') : Gath w' bv bo q c ys := by
 obtain ⟨h1, h2, _⟩ := h.lt
 exact ⟨(hb.block bv h1).trans h.v, (hb.block bo h2).trans h.o, ownsRow_carry h.row hb⟩
theorem Gath.more {w wn : World} {bv bo q c : Nat} {ys : List Value} {u : Value} (h : Gath w bv bo q c ys) (hr : wn.ownsRow 0 201 1 (.slice (some ⟨q, 0, none⟩) (ys.length + 1) c) (ys.length + 1) (ys ++ [u])) (hg : w.grownBy wn (some q)) :
  Gath (wn.setCell ⟨bo, 0, none⟩ (.slice (some ⟨q, 0, none⟩) (ys.length + 1) c)) bv bo q c (ys ++ [u]) := by
 obtain ⟨a1, a2, a3⟩ := h.apart
 obtain ⟨l1, l2, _⟩ := h.lt
 have hl : (ys ++ [u]).length = ys.length + 1 := by simp
 refine ⟨?_, ?_, ?_⟩
 ·rw [Below.heap_setCell _ _ _ _ (by exact a1)]
  exact (hg.block bv l1 (fun e => a2 (Option.some.inj e).symm)).trans h.v
 ·rw [hl]
  exact one_setCell ((hg.block bo l2 (fun e => a3 (Option.some.inj e).symm)).trans h.o)
 ·rw [hl]
  exact ownsRow_setCell_other hr (a := ⟨bo, 0, none⟩) (fun e => a3 (Option.some.inj (e : some q = some bo))) _
theorem below_more {w wn : World} {base bo q : Nat} {v : Value} (hg : w.grownBy wn (some q)) (hq : base <= q) (ho : base <= bo) (hs : base <= w.heap.size) : Below base w (wn.setCell ⟨bo, 0, none⟩ v) :=
 (Below.grown (Below.refl base w) hg hs (fun k e => by cases e; exact hq)).setCell ho _
theorem visit_order (base bv bo q c : Nat) (_hv : base <= bv) (ho : base <= bo) (hq : base <= q) : ∀ (T : Tr) (w : World) (ys : List Value), T.Lies w -> (∀ x, x ∈ T.items -> x.1 < base) -> base <= w.heap.size -> Gath w bv bo q c ys -> ys.length + T.items.length <= c ->
  Calls Tryz.prog 283 #[T.ptr, .pointer (some ⟨bv, 0, none⟩), .pointer (some ⟨bo, 0, none⟩)] w fun e w' => e = .returned (.tuple #[]) /\ Gath w' bv bo q c (ys ++ T.items.map ptrB) /\ Below base w w' := by
 intro T
 induction T using Tr.ind with
 | nil =>
  intro w ys _ _ _ hG _
  have HG := zh hG
  clear hG
  rw [ptr_nil]
  go_enter Tryz.func283, Tryz.ntmps283
  go_wp2
  (try simp only [Exit.inBlock, Exit.then])
  refine bodyPost_ret (results_none rfl _ _ _) rfl ?_
  exact ⟨rfl, by simpa [items_nil] using uh HG, Below.refl _ _⟩
 | node b e last l r ihl ihr =>
  intro w ys hL hx hs hG hc
  rw [lies_node] at hL
  obtain ⟨hN, hl, hr⟩ := hL
  rw [items_node] at hx hc
  have hb : b < base := hx (b, e) (by simp)
  have hxl : ∀ x, x ∈ l.items -> x.1 < base := fun x h => hx x (by simp [h])
  have hxr : ∀ x, x ∈ r.items -> x.1 < base := fun x h => hx x (by simp [h])
  simp only [List.length_append, List.length_cons] at hc
  have HL := zh (ihl w.drew ys (hl.keeps (keeps_drew (fun _ => False) w) (fun _ _ h => h)) hxl hs (hG.below (below_drew w)) (by omega))
  have HR := zh (fun W (hW : Below base w W) zs hG' hc' => ihr W zs (hr.keeps (F := fun i => base <= i) ⟨hW.os, hW.tape, hW.output, hW.size, fun k _ hk => hW.block k (by omega)⟩ (fun x h => by have := hxr x h; omega)) hxr (Nat.le_trans hs hW.size) hG' hc')
  have c4 := hN.c4
  have c5 := hN.c5
  have cv := cell_of_one hG.v
  have hbl := hN.lt
  clear ihl ihr hN hl hr hx hxl hxr hG
  show Calls _ _ #[.pointer (some ⟨b, 0, none⟩), _, _] _ _
  go_enter Tryz.func283, Tryz.ntmps283
  go_wp2
  go_region_held3 (fun x => x.cell? ⟨bv, 0, none⟩ = some (.func (.func 283) #[] #[.pointer (some ⟨bv, 0, none⟩), .pointer (some ⟨bo, 0, none⟩)]) /\ x.cell? ⟨b, 4, none⟩ = some l.ptr)
   (first | exact ⟨cv, c4⟩ | exact ⟨cell_of_one (Gath.v (by assumption)), (Below.cell (w := w.drew) (by assumption) hb).trans c4⟩)
   (first | (go_at_call 283; refine (uh HL).mono ?_; rintro e w1 ⟨rfl, hG1, hB1⟩))
  rename_i hh
  have hB1' : Below base w w1 := ((below_drew w).mono hs).trans hB1
  have hc1 : (ys ++ l.items.map ptrB).length + 1 <= c := by simp; omega
  have hc2 : (ys ++ l.items.map ptrB ++ [ptrB (b, e)]).length + r.items.length <= c := by simp; omega
  have E : Hid (ys ++ (Tr.node b e last l r).items.map ptrB = ys ++ l.items.map ptrB ++ [ptrB (b, e)] ++ r.items.map ptrB) := by unfold Hid; rw [items_node]; simp
  have hs1 : base <= w1.heap.size := Nat.le_trans hs hB1'.size
  generalize ys ++ l.items.map ptrB = zs at *
  have co := cell_of_one hG1.o
  have fo := free_of_one hG1.o
  have HG1 := zh hG1
  have HB1 := zh hB1'
  have d5 := (hB1'.cell (p := ⟨b, 5, none⟩) hb).trans c5
  clear HL hG1 hB1 hB1' cv c4 hh
  obtain ⟨i0, hi0, hz0, hz1, hz2⟩ := info_parts info_ptr
  go_wp2_with (at_builtin; refine wpList_append_fits _ rfl (.tmp 13) (.tmp 15) 336 rfl 0 201 i0 1 Tryz.underlying336 hi0 hz1 q zs.length c zs rfl ((uh HG1).row.alloc _) ⟨w1.heap.size, 0, none⟩ 1 1 [ptrB (b, e)] rfl rfl ?d0 ?d1 hc1 ?_)
  case d0 =>
   intro j u hj
   match j, hj with
   | 0, hj =>
    simp only [gZ, Option.some.injEq] at hj
    subst hj
    simp [Addr.add, ptrB]
   | j + 1, hj => simp at hj
  case d1 =>
   intro u hu
   simp only [List.mem_cons, List.not_mem_nil, or_false] at hu
   subst hu
   rfl
  intro wn k1 k2
  have HA := zh ((uh HG1).below (below_box w1 (.cells #[.pointer (some ⟨b, 0, none⟩)] 201)))
  have a3 := (uh HG1).apart.2.2
  have lo := (uh HG1).lt.2.1
  have bo2 := (k2.block bo (by simp; omega) (fun e => a3 (Option.some.inj e).symm)).trans (uh HA).o
  have co2 := cell_of_one bo2
  have fo2 := free_of_one bo2
  clear bo2
  have HG2 := zh ((uh HA).more k1 k2)
  have HB2 := zh ((uh HB1).trans (((below_box w1 (.cells #[.pointer (some ⟨b, 0, none⟩)] 201)).mono hs1).trans (below_more (v := .slice (some ⟨q, 0, none⟩) (zs.length + 1) c) k2 hq ho (by simp; omega))))
  clear HG1 HB1 HA co fo k1 k2 d5 hz0 hz1 hz2 hi0
  generalize hX : wn.setCell ⟨bo, 0, none⟩ (.slice (some ⟨q, 0, none⟩) (zs.length + 1) c) = X at HG2 HB2
  have HX := zh hX
  clear hX
  go_wp2
  rw [uh HX]
  have cv := cell_of_one (uh HG2).v
  have c5' := ((uh HB2).cell (p := ⟨b, 5, none⟩) hb).trans c5
  have HD := zh (below_drew X)
  have HC := zh (uh HR X.drew ((uh HB2).trans ((uh HD).mono (Nat.le_trans hs (uh HB2).size))) _ ((uh HG2).below (uh HD)) hc2)
  clear HR
  go_region_held3 (fun x => x.cell? ⟨bv, 0, none⟩ = some (.func (.func 283) #[] #[.pointer (some ⟨bv, 0, none⟩), .pointer (some ⟨bo, 0, none⟩)]) /\ x.cell? ⟨b, 5, none⟩ = some r.ptr)
   (first | exact ⟨cv, c5'⟩ | exact ⟨cell_of_one (Gath.v (by assumption)), (Below.cell (w := X.drew) (by assumption) hb).trans c5'⟩)
   (first | (go_at_call 283; refine (uh HC).mono ?_; rintro e w2 ⟨rfl, hG3, hB3⟩))
  go_wp2
  (try simp only [Exit.inBlock, Exit.then])
  refine bodyPost_end (results_none rfl _ _ _) rfl ?_
  exact ⟨rfl, by rw [uh E]; exact hG3, ((uh HB2).trans ((uh HD).mono (Nat.le_trans hs (uh HB2).size))).trans hB3⟩
theorem wpList_len_N {P : Program} (w : World) {ops : Array Oper} {rest : List Oper} {o : Oper} {a : Act} {Q : Exit -> Act -> World -> Prop} (hg : o.guard = none) (m : Operand) (t : TypeId) (hop : o.op = Op.call { callee := Callee.builtin Builtin.len, args := #[m], argTypes := #[t] })
  (k e : TypeId) (ht : P.underlying t = some (.map k e)) (R : Value -> Option (DataW Unit × List MemPlace)) (b n : Nat) (D : DataW Unit) (hm : a.eval m = .map (some b)) (hown : w.ownsMap P k R b n D) (N : Nat) (hN : Maps.size D = N)
  (hK : wpList P ops Q rest (a.put o.dst (.int .i64 N)) w) : wpList P ops Q (o :: rest) a w := by
 subst hN
 exact wpList_len_own w hg m t hop k e ht R b n D hm hown hK
theorem tree_order (T : Tr) (B m n N : Nat) (D : DataW Unit) (w : World) (c0 : w.cell? ⟨B, 1, none⟩ = some (.map (some m))) (hm : w.ownsMap Tryz.prog 3 ptrElem m n D) (hN : Maps.size D = N) (hN2 : N <= 100000)
  (c1 : w.cell? ⟨B, 2, none⟩ = some T.ptr) (hT : T.Lies w) (hc : T.items.length <= N + 1) :
  Calls Tryz.prog 276 #[.pointer (some ⟨B, 1, none⟩)] w fun e w' =>
   ∃ q, e = .returned (.slice (some ⟨q, 0, none⟩) T.items.length (N + 1)) /\ w'.ownsRow w.heap.size 201 1 (.slice (some ⟨q, 0, none⟩) T.items.length (N + 1)) T.items.length (T.items.map ptrB) /\ Below w.heap.size w w' := by
 obtain ⟨i0, hi0, hz0, hz1, hz2⟩ := info_parts info_ptr
 have HM := zh hm
 have HT := zh hT
 have hBl := lt_of_cell c0
 clear hm hT
 go_enter Tryz.func276, Tryz.ntmps276
 go_wp2_with (first
  | (at_len; refine wpList_len_N _ rfl (.tmp 8) 200 rfl 3 201 Tryz.underlying200 ptrElem m n D rfl (uh HM) N hN ?_)
  | (at_make; refine wpList_make_own _ rfl _ _ 336 rfl w.heap.size 201 i0 (.pointer none) 1 Tryz.underlying336 hi0 hz0 hz1 .i64 .i64 ((N : Int) + 1) (N + 1) rfl rfl (by omega) (by rw [hz2]; omega) (by unfold maxLen; omega) zr ?_; intro w1 hown1 hg1))
 have hb1 : Below w.heap.size w w1 := below_grown_none hg1
 have hs1 := hb1.size
 have hq : w.heap.size < w1.heap.size := by
  obtain ⟨cur, h, _⟩ := row_block hown1
  exact lt_of_block h
 generalize hX : ((w1.alloc (.cells #[.slice (some ⟨w.heap.size, 0, none⟩) 0 (N + 1)] 336)).alloc (.cells #[.func (.func 283) #[] #[.pointer (some ⟨w1.heap.size + 1, 0, none⟩), .pointer (some ⟨w1.heap.size, 0, none⟩)]] 332)) = X
 have HBX : Hid (Below w.heap.size w X) := by unfold Hid; rw [<- hX]; exact (hb1.alloc hs1 _).alloc (by simp; omega) _
 have HG : Hid (Gath X (w1.heap.size + 1) w1.heap.size w.heap.size (N + 1) []) := by
  unfold Hid
  rw [<- hX]
  refine ⟨?_, ?_, ?_⟩
  ·have := heap_alloc_new (w1.alloc (.cells #[.slice (some ⟨w.heap.size, 0, none⟩) 0 (N + 1)] 336)) (.cells #[.func (.func 283) #[] #[.pointer (some ⟨w1.heap.size + 1, 0, none⟩), .pointer (some ⟨w1.heap.size, 0, none⟩)]] 332)
   simpa using this
  ·rw [(below_box _ _).block _ (by simp)]
   exact heap_alloc_new w1 _
  ·exact ownsRow_rebase ((hown1.alloc _).alloc _) (Nat.zero_le _)
 have hXs : w.heap.size <= X.heap.size := (uh HBX).size
 clear hX hown1 hg1
 have HD := zh (below_drew X)
 have HBD := zh ((uh HBX).trans ((uh HD).mono hXs))
 have cv := cell_of_one (uh HG).v
 have d1 := ((uh HBX).cell (p := ⟨B, 2, none⟩) hBl).trans c1
 have HC := zh (visit_order w.heap.size (w1.heap.size + 1) w1.heap.size w.heap.size (N + 1) (by omega) hs1 zr T X.drew []
  ((uh HT).keeps (Keeps.of_below (fun _ => False) (uh HBD) zr) (fun _ _ h => h)) (fun x hx => ((uh HT).at x hx).lt) hXs ((uh HG).below (uh HD)) (by simpa using hc))
 clear HG HM c0
 go_region_held3 (fun x => x.cell? ⟨w1.heap.size + 1, 0, none⟩ = some (.func (.func 283) #[] #[.pointer (some ⟨w1.heap.size + 1, 0, none⟩), .pointer (some ⟨w1.heap.size, 0, none⟩)]) /\ x.cell? ⟨B, 2, none⟩ = some T.ptr)
  (first | exact ⟨cv, d1⟩ | exact ⟨cell_of_one (Gath.v (by assumption)), (Below.cell (w := X.drew) (by assumption) hBl).trans d1⟩)
  (first | (go_at_call 283; refine (uh HC).mono ?_; rintro e w2 ⟨rfl, hG3, hB3⟩))
 rename_i hh
 rw [List.nil_append] at hG3
 have co := cell_of_one hG3.o
 rw [List.length_map] at co
 have HR := zh hG3.row
 have HB3 := zh ((uh HBD).trans hB3)
 clear hG3 hB3 hh HC cv d1
 go_wp2
 go_ret
 refine ⟨w.heap.size, rfl, ?_, uh HB3⟩
 have := uh HR
 rw [List.length_map] at this
 obtain ⟨h1, h2 | ⟨g, cap, cur, hv, hg, r⟩⟩ := this
 ·cases h2.1
 ·refine ⟨h1, .inr ⟨g, cap, cur, hv, ?_, r⟩⟩
  cases hv
  exact Nat.le_refl _
structure Rows (w : World) (ad : Option Addr) (q o : Nat) (X : List (Nat × Ent)) : Prop where
 at_ : ∀ j, (h : j < X.length) -> ad = some ⟨q, o, none⟩ /\ w.cell? ⟨q, o + j, none⟩ = some (ptrB X[j])
 node : ∀ x, x ∈ X -> NodeAt w x.1 x.2
 nodup : (X.map (·.1)).Nodup
 out : ∀ x, x ∈ X -> x.1 ≠ q
def inX (X : List (Nat × Ent)) (i : Nat) : Prop := i ∈ X.map (·.1)
def LinkSays (X : List (Nat × Ent)) (w : World) (e : Ending) (w' : World) : Prop := e = .returned (linkT X).ptr /\ (linkT X).Lies w' /\ Keeps (inX X) w w'
theorem NodeW.sides {w : World} {b : Nat} {e : Ent} {last : Int} {p q : Value} (h : NodeW w b e last p q) (u v : Value) : NodeW ((w.setCell ⟨b, 4, none⟩ u).setCell ⟨b, 5, none⟩ v) b e last u v := by
 refine ⟨?_, ?_, ?_, ?_, ?_, ?_, fun i => ?_⟩
 ·rw [zo _ _ _ _ (by simp), zo _ _ _ _ (by simp), h.c0]
 ·rw [zo _ _ _ _ (by simp), zo _ _ _ _ (by simp), h.c1]
 ·rw [zo _ _ _ _ (by simp), zo _ _ _ _ (by simp), h.c2]
 ·rw [zo _ _ _ _ (by simp), zo _ _ _ _ (by simp), h.c3]
 ·rw [zo _ _ _ _ (by simp), zs _ _ _ h.c4]
 ·rw [zs (u := q)]
  rw [zo _ _ _ _ (by simp), h.c5]
 ·rw [World.frozen?_setCell, World.frozen?_setCell, h.f i]
theorem NodeW.to {w : World} {b : Nat} {e : Ent} {last : Int} {p q : Value} (h : NodeW w b e last p q) (v : Int) : NodeW (w.setCell ⟨b, 3, none⟩ (.int .i64 v)) b e v p q := by
 refine ⟨?_, ?_, ?_, ?_, ?_, ?_, fun i => ?_⟩
 ·rw [zo _ _ _ _ (by simp), h.c0]
 ·rw [zo _ _ _ _ (by simp), h.c1]
 ·rw [zo _ _ _ _ (by simp), h.c2]
 ·rw [zs _ _ _ h.c3]
 ·rw [zo _ _ _ _ (by simp), h.c4]
 ·rw [zo _ _ _ _ (by simp), h.c5]
 ·rw [World.frozen?_setCell, h.f i]
structure Seen (X : List (Nat × Ent)) (b : Nat) (e : Ent) (T1 T2 : Tr) (v : Int) (w x : World) : Prop where
 node : NodeW x b e v T1.ptr T2.ptr
 l1 : T1.Lies x
 l2 : T2.Lies x
 keeps : Keeps (inX X) w x
theorem Seen.to {X : List (Nat × Ent)} {b : Nat} {e : Ent} {T1 T2 : Tr} {v : Int} {w x : World} (h : Seen X b e T1 T2 v w x) (hb : inX X b) (h1 : ∀ y, y ∈ T1.items -> y.1 ≠ b) (h2 : ∀ y, y ∈ T2.items -> y.1 ≠ b) (u : Int) : Seen X b e T1 T2 u w (x.setCell ⟨b, 3, none⟩ (.int .i64 u)) :=
 ⟨h.node.to u, h.l1.keeps (keeps_set _ b 3 _) h1, h.l2.keeps (keeps_set _ b 3 _) h2, h.keeps.then (keeps_set _ b 3 _) (fun i _ q => by cases q; exact hb)⟩
theorem Seen.drew {X : List (Nat × Ent)} {b : Nat} {e : Ent} {T1 T2 : Tr} {v : Int} {w x : World} (h : Seen X b e T1 T2 v w x) : Seen X b e T1 T2 v w x.drew :=
 ⟨h.node.keeps (keeps_drew (fun _ => False) x) (fun f => f), h.l1.keeps (keeps_drew (fun _ => False) x) (fun _ _ f => f), h.l2.keeps (keeps_drew (fun _ => False) x) (fun _ _ f => f), h.keeps.trans (keeps_drew _ x)⟩
theorem side_first (u v : Option Addr) (w : World) : (Instr.index 333 (.agg #[.pointer u, .pointer v]) (.int .i64 0)).run Tryz.prog w = .ok (.pointer u) w := by kernel_rfl
theorem side_second (u v : Option Addr) (w : World) : (Instr.index 333 (.agg #[.pointer u, .pointer v]) (.int .i64 1)).run Tryz.prog w = .ok (.pointer v) w := by kernel_rfl
def lastAt (a : Int) (T1 T2 : Tr) : Nat -> Int
 | 0 => a
 | 1 => T1.upd a
 | _ => T2.upd (T1.upd a)
theorem ptr_form (T : Tr) : ∃ u, T.ptr = .pointer u := by
 cases T using Tr.cs with
 | nil => exact ⟨none, rfl⟩
 | node b e last l r => exact ⟨some ⟨b, 0, none⟩, rfl⟩
theorem linkT_at (X : List (Nat × Ent)) (k : Nat) (hk : k = X.length / 2) (h : k < X.length) (x : Nat × Ent) (hx : X[k] = x) : linkT X = .node x.1 x.2 (Tr.upd (Tr.upd x.2.hi (linkT (X.take k))) (linkT (X.drop (k + 1)))) (linkT (X.take k)) (linkT (X.drop (k + 1))) := by
 subst hx
 subst hk
 exact linkT_cons X h
theorem Rows.first {w w' : World} {ad : Option Addr} {q o : Nat} {X : List (Nat × Ent)} (h : Rows w ad q o X) (k : Nat) (hk : Keeps (fun _ => False) w w') : Rows w' ad q o (X.take k) := by
 refine ⟨fun j hj => ?_, fun x hx => (h.node x (List.mem_of_mem_take hx)).keeps hk (fun f => f), List.Pairwise.sublist ((List.take_sublist _ _).map _) h.nodup, fun x hx => h.out x (List.mem_of_mem_take hx)⟩
 have hj' : j < X.length := by simp at hj; omega
 obtain ⟨h1, h2⟩ := h.at_ j hj'
 exact ⟨h1, by rw [hk.cell (p := ⟨q, o + j, none⟩) (lt_of_cell h2) (fun f => f), h2, List.getElem_take]⟩
theorem inX_apart {X : List (Nat × Ent)} (h : (X.map (·.1)).Nodup) (k : Nat) {x : Nat × Ent} (hx : x ∈ X.drop k) : ¬ inX (X.take k) x.1 := by
 intro hf
 rw [<- List.take_append_drop k X, List.map_append] at h
 exact (List.nodup_append.1 h).2.2 _ hf _ (List.mem_map.2 ⟨x, hx, rfl⟩) rfl
theorem Rows.second {w w' : World} {q o c : Nat} {X : List (Nat × Ent)} (h : Rows w (some ⟨q, o, none⟩) q o X) (k : Nat) (hc : X.length <= c) (hk : Keeps (inX (X.take k)) w w') : Rows w' (if c = k + 1 then some ⟨q, o, none⟩ else some ⟨q, o + (k + 1), none⟩) q (o + (k + 1)) (X.drop (k + 1)) := by
 have hsub : ∀ x, x ∈ X.drop (k + 1) -> x ∈ X.drop k := fun x hx => by
  rw [<- List.drop_drop] at hx
  exact List.mem_of_mem_drop hx
 refine ⟨fun j hj => ?_, fun x hx => (h.node x (List.mem_of_mem_drop hx)).keeps hk (inX_apart h.nodup k (hsub x hx)), List.Pairwise.sublist ((List.drop_sublist _ _).map _) h.nodup, fun x hx => h.out x (List.mem_of_mem_drop hx)⟩
 have hj' : k + 1 + j < X.length := by simp at hj; omega
 obtain ⟨h1, h2⟩ := h.at_ _ hj'
 refine ⟨by rw [if_neg (by omega)], ?_⟩
 rw [show o + (k + 1) + j = o + (k + 1 + j) by omega, hk.cell (p := ⟨q, o + (k + 1 + j), none⟩) (lt_of_cell h2) (fun f => ?_), h2, List.getElem_drop]
 obtain ⟨x, hx, e⟩ := List.mem_map.1 f
 exact h.out x (List.mem_of_mem_take hx) e
theorem tree_link (n : Nat) : ∀ (X : List (Nat × Ent)) (ad : Option Addr) (q o c : Nat) (w : World), X.length = n -> X.length <= c -> c <= 1099511627776 -> Rows w ad q o X ->
  Calls Tryz.prog 279 #[.slice ad X.length c] w (LinkSays X w) := by
 induction n using Nat.strongRecOn with
 | ind n ih =>
  intro X ad q o c w hn hc hc2 hX
  by_cases h0 : X.length / 2 < X.length
  ·obtain ⟨k, hk⟩ : ∃ k, k = X.length / 2 := ⟨_, rfl⟩
   have h0' : k < X.length := by omega
   obtain ⟨rfl, cm⟩ := hX.at_ _ h0'
   have HX := zh hX
   have hq : (X.length : Int) / 2 = (k : Int) := by omega
   have hk1 : (k : Int) < (X.length : Int) := by omega
   have hk2 : (k : Int) <= (c : Int) := by omega
   have hk3 : (k : Int) + 1 <= (X.length : Int) := by omega
   have hl1 : (X.take k).length = k := by simp; omega
   have hl2 : (X.drop (k + 1)).length = X.length - (k + 1) := by simp
   obtain ⟨u1, hu1⟩ := ptr_form (linkT (X.take k))
   obtain ⟨u2, hu2⟩ := ptr_form (linkT (X.drop (k + 1)))
   have HL : Hid (Calls Tryz.prog 279 #[.slice (some ⟨q, o, none⟩) k c] w.drew fun e W => e = .returned (.pointer u1) /\ (linkT (X.take k)).Lies W /\ Keeps (inX (X.take k)) w.drew W) := by
    have := ih k (by omega) (X.take k) (some ⟨q, o, none⟩) q o c w.drew hl1 (by omega) hc2 (hX.first k (keeps_drew _ _))
    rw [hl1] at this
    refine this.mono ?_
    rintro e W ⟨rfl, h1, h2⟩
    exact ⟨by rw [hu1], h1, h2⟩
   obtain ⟨A, hA⟩ : ∃ A : Addr, (if c = k + 1 then some (⟨q, o, none⟩ : Addr) else some ⟨q, o + (k + 1), none⟩) = some A := by split <;> exact ⟨_, rfl⟩
   have HR : Hid (∀ W, Keeps (inX (X.take k)) w.drew W -> Calls Tryz.prog 279 #[.slice (some A) (X.length - (k + 1)) (c - (k + 1))] W fun e W' => e = .returned (.pointer u2) /\ (linkT (X.drop (k + 1))).Lies W' /\ Keeps (inX (X.drop (k + 1))) W W') := fun W hW => by
    have := ih (X.length - (k + 1)) (by omega) (X.drop (k + 1)) (if c = k + 1 then some ⟨q, o, none⟩ else some ⟨q, o + (k + 1), none⟩) q (o + (k + 1)) (c - (k + 1)) W hl2 (by omega) (by omega) (hX.second k hc ((keeps_drew _ w).trans hW))
    rw [hl2, hA] at this
    refine this.mono ?_
    rintro e W' ⟨rfl, h1, h2⟩
    exact ⟨by rw [hu2], h1, h2⟩
   obtain ⟨last, p, r, hNd⟩ := hX.node X[k] (List.getElem_mem h0')
   have HNd := zh hNd
   clear ih hX hNd
   generalize hx : X[k] = x at *
   have HN := zh (linkT_at X k hk h0' x hx)
   have HM : Hid (x ∈ X) := by unfold Hid; rw [<- hx]; exact List.getElem_mem h0'
   have HXk := zh hx
   obtain ⟨b, e⟩ := x
   clear hx
   have cm' : w.cell? ⟨q, o + k, none⟩ = some (.pointer (some ⟨b, 0, none⟩)) := cm
   have hqn : X.length / 2 = k := hk.symm
   have hw1 : IntKind.i64.wrap ((k : Int) + 1) = (k : Int) + 1 := by rw [IntKind.wrap_i64]; omega
   have hb1 : (0 : Int) <= (k : Int) + 1 := by omega
   have hb0 : (0 : Int) <= (k : Int) := by omega
   have hb3 : (X.length : Int) <= (c : Int) := by omega
   have hb4 : (k : Int) <= (X.length : Int) := by omega
   have hb5 : k <= X.length := by omega
   have hb6 : k + 1 <= X.length := by omega
   have htn : ((k : Int) + 1).toNat = k + 1 := by omega
   have hz : ((X.length : Int) == 0) = false := by rw [beq_eq_false_iff_ne]; omega
   have hkk : Hid (X.length = n) := hn
   clear cm hk hn h0
   go_enter Tryz.func279, Tryz.ntmps279
   go_wp2
   have HO1 : Hid (¬ inX (X.take k) b) := by
    have := inX_apart (uh HX).nodup k (x := (b, e)) (by rw [<- List.getElem_cons_drop h0', uh HXk]; simp)
    exact this
   have HO2 : Hid (¬ inX (X.drop (k + 1)) b) := by
    intro hf
    have h1 : ((X.drop k).map (·.1)).Nodup := List.Pairwise.sublist ((List.drop_sublist _ _).map _) (uh HX).nodup
    rw [<- List.getElem_cons_drop h0', uh HXk, List.map_cons, List.nodup_cons] at h1
    exact h1.1 hf
   go_region_held3 (fun _ => True) (exact trivial)
    (first
     | (go_at_call 279; with_reducible refine (uh HL).mono ?_; rintro e1 W1 ⟨rfl, l1, p1⟩)
     | (go_at_call 279; with_reducible refine (uh HR _ (by assumption)).mono ?_; rintro e2 W2 ⟨rfl, l2, p2⟩; have nd2 := ((uh HNd).keeps (Keeps.then (keeps_drew _ w) (by assumption) (fun _ _ h => h)) (uh HO1)).keeps p2 (uh HO2); have nc4 := nd2.c4; have nc5 := nd2.c5; have nf4 := nd2.f 4; have nf5 := nd2.f 5))
   have HS : Hid (Seen X b e (linkT (X.take k)) (linkT (X.drop (k + 1))) last w ((W2.setCell ⟨b, 4, none⟩ (.pointer u1)).setCell ⟨b, 5, none⟩ (.pointer u2))) := by
    have hbX : inX X b := List.mem_map.2 ⟨(b, e), uh HM, rfl⟩
    have o1 : ∀ y, y ∈ (linkT (X.take k)).items -> y.1 ≠ b := fun y hy q => by
     rw [items_link] at hy
     exact uh HO1 (List.mem_map.2 ⟨y, hy, q⟩)
    have o2 : ∀ y, y ∈ (linkT (X.drop (k + 1))).items -> y.1 ≠ b := fun y hy q => by
     rw [items_link] at hy
     exact uh HO2 (List.mem_map.2 ⟨y, hy, q⟩)
    have o3 : ∀ y, y ∈ (linkT (X.take k)).items -> ¬ inX (X.drop (k + 1)) y.1 := fun y hy q => by
     rw [items_link] at hy
     obtain ⟨z, hz, hzy⟩ := List.mem_map.1 q
     have hz' : z ∈ X.drop k := by
      rw [<- List.drop_drop] at hz
      exact List.mem_of_mem_drop hz
     exact inX_apart (uh HX).nodup k hz' (List.mem_map.2 ⟨y, hy, hzy.symm⟩)
    refine ⟨?_, ?_, ?_, ?_⟩
    ·rw [hu1, hu2]
     exact nd2.sides _ _
    ·exact ((l1.keeps p2 o3).keeps (keeps_set _ b 4 _) o1).keeps (keeps_set _ b 5 _) o1
    ·exact (l2.keeps (keeps_set _ b 4 _) o2).keeps (keeps_set _ b 5 _) o2
    ·have k1 : Keeps (inX X) w W1 := ((keeps_drew _ w).trans p1).mono (fun i _ h => by
      obtain ⟨z, hz, hzi⟩ := List.mem_map.1 h
      exact List.mem_map.2 ⟨z, List.mem_of_mem_take hz, hzi⟩)
     have k2 : Keeps (inX X) w W2 := k1.then p2 (fun i _ h => by
      obtain ⟨z, hz, hzi⟩ := List.mem_map.1 h
      exact List.mem_map.2 ⟨z, List.mem_of_mem_drop hz, hzi⟩)
     exact (k2.then (keeps_set _ b 4 _) (fun i _ q => by cases q; exact hbX)).then (keeps_set _ b 5 _) (fun i _ q => by cases q; exact hbX)
   have HO : Hid (inX X b /\ (∀ y, y ∈ (linkT (X.take k)).items -> y.1 ≠ b) /\ ∀ y, y ∈ (linkT (X.drop (k + 1))).items -> y.1 ≠ b) := by
    refine ⟨List.mem_map.2 ⟨(b, e), uh HM, rfl⟩, fun y hy q => ?_, fun y hy q => ?_⟩
    ·rw [items_link] at hy
     exact uh HO1 (List.mem_map.2 ⟨y, hy, q⟩)
    ·rw [items_link] at hy
     exact uh HO2 (List.mem_map.2 ⟨y, hy, q⟩)
   clear nc4 nc5 nf4 nf5 nd2 l1 l2 p1 p2 HL HR HNd HM HXk HO1 HO2 HX cm' hA hq hk1 hk2 hk3 hl1 hl2 hqn hw1 hb1 hb0 hb3 hb4 hb5 hb6 htn hz hkk h0'
   generalize hW3 : (W2.setCell ⟨b, 4, none⟩ (.pointer u1)).setCell ⟨b, 5, none⟩ (.pointer u2) = W3 at HS ⊢
   clear hW3
   generalize linkT (X.take k) = T1 at *
   generalize linkT (X.drop (k + 1)) = T2 at *
   have d2 := (uh HS).node.c2
   have d3 := (uh HS).node.c3
   have d4 := (uh HS).node.c4
   have d5 := (uh HS).node.c5
   have g3 := (uh HS).node.f 3
   rw [hu1] at d4
   rw [hu2] at d5
   go_wp2
   have HS1 := zh ((uh HS).to (uh HO).1 (uh HO).2.1 (uh HO).2.2 e.hi)
   generalize hW4 : W3.setCell ⟨b, 3, none⟩ (.int .i64 e.hi) = W4 at HS1 ⊢
   clear HS d2 d3 d4 d5 g3 hW4
   go_loopw [42] (fun i x => ∃ j : Nat, j <= 2 /\ i = .int .i64 j /\ Seen X b e T1 T2 (lastAt e.hi T1 T2 j) w x) (fun i _ => 2 - (intOf i).toNat)
   case atStart => exact ⟨0, by omega, rfl, uh HS1⟩
   case round =>
    obtain ⟨j, hj, rfl, hS⟩ := hrel
    clear HS1
    have HS := zh hS
    clear hS
    rcases (show j = 0 \/ j = 1 \/ j = 2 by omega) with rfl | rfl | rfl
    ·cases T1 using Tr.cs with
     | nil =>
      obtain rfl : u1 = none := by simpa [ptr_nil] using hu1.symm
      clear hc hc2
      have hi0 := side_first
      have hi1 := side_second
      go_wp2
      go_roundw
      case rel => exact ⟨0 + 1, by omega, by go_num, uh HS⟩
      case measure => simp [intOf]
     | node b1 e1 last1 l1 r1 =>
      obtain rfl : u1 = some ⟨b1, 0, none⟩ := by simpa [ptr_node] using hu1.symm
      have d3 := (uh HS).node.c3
      have g3 := (uh HS).node.f 3
      have x3 := ((lies_node _ _ _ _ _ _).mp (uh HS).l1).1.c3
      have HU : Hid (lastAt e.hi (Tr.node b1 e1 last1 l1 r1) T2 (0 + 1) = max (lastAt e.hi (Tr.node b1 e1 last1 l1 r1) T2 0) last1) := rfl
      generalize lastAt e.hi (Tr.node b1 e1 last1 l1 r1) T2 0 = y at *
      clear hc hc2
      have hi0 := side_first
      have hi1 := side_second
      go_wp2
      clear hi0 hi1
      refine wp_region_tail (fun x => x = wr.drew) 12 (by kernel_rfl) (by kernel_rfl) rfl (fun hHeld => ?_)
      refine takeH 0 (h := ?_)
      try simp only [Act.put, sI, sZ, sS]
      refine takeH 1 (h := ?_)
      try simp only [Act.put, sI, sZ, sS]
      refine takeH 2 (h := ?_)
      try simp only [Act.put, sI, sZ, sS]
      refine takeH 3 (h := ?_)
      try simp only [Act.put, sI, sZ, sS]
      refine takeH 4 (h := ?_)
      try simp only [Act.put, sI, sZ, sS]
      refine takeH 5 (h := ?_)
      try simp only [Act.put, sI, sZ, sS]
      refine takeH 6 (h := ?_)
      try simp only [Act.put, sI, sZ, sS]
      refine takeH 7 (h := ?_)
      try simp only [Act.put, sI, sZ, sS]
      refine takeH 8 (h := ?_)
      try simp only [Act.put, sI, sZ, sS]
      refine takeH 9 (h := ?_)
      try simp only [Act.put, sI, sZ, sS]
      refine takeH 10 (h := ?_)
      try simp only [Act.put, sI, sZ, sS]
      refine takeH 11 (h := ?_)
      try simp only [Act.put, sI, sZ, sS]
      refine wpAnyH_done (by kernel_rfl) ?_ _
      show wpList _ _ _ _ _ _
      clear hHeld
      go_wp2
      go_roundw
      case rel => exact ⟨0 + 1, by omega, by go_num, by rw [uh HU, show max y last1 = (if y < last1 then last1 else y) by split <;> omega]; exact ((uh HS).to (uh HO).1 (uh HO).2.1 (uh HO).2.2 _).drew⟩
      case measure => simp [intOf]
    ·cases T2 using Tr.cs with
     | nil =>
      obtain rfl : u2 = none := by simpa [ptr_nil] using hu2.symm
      clear hc hc2
      have hi0 := side_first
      have hi1 := side_second
      go_wp2
      go_roundw
      case rel => exact ⟨1 + 1, by omega, by go_num, uh HS⟩
      case measure => simp [intOf]
     | node b1 e1 last1 l1 r1 =>
      obtain rfl : u2 = some ⟨b1, 0, none⟩ := by simpa [ptr_node] using hu2.symm
      have d3 := (uh HS).node.c3
      have g3 := (uh HS).node.f 3
      have x3 := ((lies_node _ _ _ _ _ _).mp (uh HS).l2).1.c3
      have HU : Hid (lastAt e.hi T1 (Tr.node b1 e1 last1 l1 r1) (1 + 1) = max (lastAt e.hi T1 (Tr.node b1 e1 last1 l1 r1) 1) last1) := rfl
      generalize lastAt e.hi T1 (Tr.node b1 e1 last1 l1 r1) 1 = y at *
      clear hc hc2
      have hi0 := side_first
      have hi1 := side_second
      go_wp2
      clear hi0 hi1
      refine wp_region_tail (fun x => x = wr.drew) 12 (by kernel_rfl) (by kernel_rfl) rfl (fun hHeld => ?_)
      refine takeH 0 (h := ?_)
      try simp only [Act.put, sI, sZ, sS]
      refine takeH 1 (h := ?_)
      try simp only [Act.put, sI, sZ, sS]
      refine takeH 2 (h := ?_)
      try simp only [Act.put, sI, sZ, sS]
      refine takeH 3 (h := ?_)
      try simp only [Act.put, sI, sZ, sS]
      refine takeH 4 (h := ?_)
      try simp only [Act.put, sI, sZ, sS]
      refine takeH 5 (h := ?_)
      try simp only [Act.put, sI, sZ, sS]
      refine takeH 6 (h := ?_)
      try simp only [Act.put, sI, sZ, sS]
      refine takeH 7 (h := ?_)
      try simp only [Act.put, sI, sZ, sS]
      refine takeH 8 (h := ?_)
      try simp only [Act.put, sI, sZ, sS]
      refine takeH 9 (h := ?_)
      try simp only [Act.put, sI, sZ, sS]
      refine takeH 10 (h := ?_)
      try simp only [Act.put, sI, sZ, sS]
      refine takeH 11 (h := ?_)
      try simp only [Act.put, sI, sZ, sS]
      refine wpAnyH_done (by kernel_rfl) ?_ _
      show wpList _ _ _ _ _ _
      clear hHeld
      go_wp2
      go_roundw
      case rel => exact ⟨1 + 1, by omega, by go_num, by rw [uh HU, show max y last1 = (if y < last1 then last1 else y) by split <;> omega]; exact ((uh HS).to (uh HO).1 (uh HO).2.1 (uh HO).2.2 _).drew⟩
      case measure => simp [intOf]
    ·have HE := zh hu1
     clear hc hc2
     go_wp2
     go_ret
     exact ⟨by rw [uh HN]; rfl, by rw [uh HN, lies_node]; exact ⟨(uh HS).node, (uh HS).l1, (uh HS).l2⟩, (uh HS).keeps⟩
  ·have e0 : X = [] := List.length_eq_zero_iff.1 (by omega)
   subst e0
   clear ih hX
   show Calls _ _ #[.slice ad 0 c] _ _
   go_enter Tryz.func279, Tryz.ntmps279
   go_wp2
   go_ret
   exact ⟨by rw [linkT_nil]; rfl, by rw [linkT_nil]; trivial, Keeps.refl _ _⟩
end Go.Proofs.YtbmkmfoaoganeaaGreatDoor
