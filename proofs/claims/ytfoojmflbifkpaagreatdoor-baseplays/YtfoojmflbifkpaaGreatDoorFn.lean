/- Texts of one proof, one behind the other. -/
import Derived.Test.YtfoojmflbifkpaaGreatDoorFj
import Derived.Test.YtfoojmflbifkpaaGreatDoorEz
import Derived.Test.YtfoojmflbifkpaaGreatDoorEl
import Derived.Test.YtfoojmflbifkpaaGreatDoorEa
import Derived.Laws.AppendOwnNone
set_option maxRecDepth 100000
set_option maxHeartbeats 16000000
namespace Go.Proofs.YtfoojmflbifkpaaGreatDoor
open Go.RowKit Go.Maps
theorem wpList_appLv (w : World) {ops : Array Oper} {rest : List Oper} {o : Oper} {a : Act} {Q : Exit -> Act -> World -> Prop} (hgd : o.guard = none) (s x : Operand)
  (ho : o.op = .call { callee := .builtin .append, args := #[s, x], argTypes := #[28, 28] })
  (base : Nat) (v : Value) (L : List Value) (hs : a.eval s = v) (hown : RowL w base v L)
  (ad : Option Addr) (cap : Nat) (vs : List Value) (hx : a.eval x = .slice ad vs.length cap) (hc : (ad = none /\ vs = [] /\ cap = 0) \/ ∃ b f, ad = some ⟨b, f, none⟩ /\ ∀ j, (h : j < vs.length) -> w.cell? ⟨b, f + j, none⟩ = some vs[j]) (h1 : ∀ u, u ∈ vs -> u.oneCell' = true)
  (hlen : L.length + vs.length <= 1000) (hbase : base <= w.heap.size)
  (h : ∀ v' w', RowL w' base v' (L ++ vs) -> w.grownBy w' v.ownBlock -> wpList Tryz.prog ops Q rest (a.put o.dst v') w') : wpList Tryz.prog ops Q (o :: rest) a w := by
 obtain ⟨i0, hi0, hz0, hz1, hz2⟩ := info_parts infoL
 rcases hc with ⟨rfl, rfl, rfl⟩ | ⟨b, f, rfl, hc⟩
 ·refine wpList_append_own_none hgd s x 28 ho base 37 i0 1 Tryz.underlying28 hi0 v L.length L hs hown hx ?_
  exact h _ _ (by simpa using hown) ⟨rfl, rfl, rfl, Nat.le_refl _, fun _ _ _ => rfl⟩
 ·refine wpList_append_own w hgd s x 28 ho base 37 i0 (.slice none 0 0) 1 24 Tryz.underlying28 hi0 hz0 hz1 hz2 rfl (by decide) v L.length L hs hown ⟨b, f, none⟩ vs.length cap vs hx (by simp) ?_ h1 ?_ ?_ hbase ?_
  ·intro j u hj
   obtain ⟨hjl, rfl⟩ := List.getElem?_eq_some_iff.1 hj
   rw [add_at]
   exact hc j hjl
  ·unfold maxLen; omega
  ·omega
  ·intro v' w' k1 k2 _
   refine h v' w' ?_ k2
   unfold RowL
   simpa using k1
theorem wpList_appOv (w : World) {ops : Array Oper} {rest : List Oper} {o : Oper} {a : Act} {Q : Exit -> Act -> World -> Prop} (hgd : o.guard = none) (s x : Operand)
  (ho : o.op = .call { callee := .builtin .append, args := #[s, x], argTypes := #[37, 37] })
  (base : Nat) (v : Value) (L : List Fop) (hs : a.eval s = v) (hown : RowO w base v L)
  (b f cap : Nat) (l : List Fop) (hx : a.eval x = .slice (some ⟨b, f, none⟩) l.length cap) (hc : OpsAt w b f l)
  (hlen : L.length + l.length <= 1000) (hbase : base <= w.heap.size)
  (h : ∀ v' w', RowO w' base v' (L ++ l) -> w.grownBy w' v.ownBlock -> wpList Tryz.prog ops Q rest (a.put o.dst v') w') : wpList Tryz.prog ops Q (o :: rest) a w := by
 obtain ⟨i0, hi0, hz0, hz1, hz2⟩ := info_parts infoO
 have hcl : ∀ l : List Fop, (cellsO l).length = l.length * 7 := fun l => by
  induction l with
  | nil => rfl
  | cons x l ih =>
   show (cells7 x ++ cellsO l).length = _
   rw [List.length_append, ih]
   simp [cells7]
   omega
 refine wpList_append_own w hgd s x 37 ho base 36 i0 (.agg #[.int .i64 0, .int .i64 0, .string ⟨#[]⟩, .int .i64 0, .int .i64 0, .int .i64 0, .string ⟨#[]⟩]) 7 72 Tryz.underlying37 hi0 hz0 hz1 hz2 rfl (by decide) v L.length (cellsO L) hs hown ⟨b, f, none⟩ l.length cap (cellsO l) hx (hcl l) ?_ ?_ ?_ ?_ hbase ?_
 ·intro j u hj
  have hjl : j < l.length * 7 := by
   obtain ⟨q, _⟩ := List.getElem?_eq_some_iff.1 hj
   rwa [hcl] at q
  have hd : j = (j / 7) * 7 + j % 7 := by omega
  have hk : j / 7 < l.length := by omega
  have hm : j % 7 < 7 := Nat.mod_lt _ (by decide)
  rw [hd, cellsO_at l (j / 7) hk (j % 7) hm] at hj
  obtain ⟨c0, c1, c2, c3, c4, c5, c6⟩ := hc.2 (j / 7) hk
  rw [add_at, hd, <- Nat.add_assoc]
  generalize j % 7 = m at *
  match m, hj with
  | 0, hj => simp [cells7] at hj; subst hj; exact c0
  | 1, hj => simp [cells7] at hj; subst hj; exact c1
  | 2, hj => simp [cells7] at hj; subst hj; exact c2
  | 3, hj => simp [cells7] at hj; subst hj; exact c3
  | 4, hj => simp [cells7] at hj; subst hj; exact c4
  | 5, hj => simp [cells7] at hj; subst hj; exact c5
  | 6, hj => simp [cells7] at hj; subst hj; exact c6
  | m + 7, hj => omega
 ·intro u hu
  unfold cellsO at hu
  obtain ⟨y, _, hu⟩ := List.mem_flatMap.1 hu
  simp [cells7] at hu
  rcases hu with rfl | rfl | rfl | rfl | rfl | rfl | rfl <;> rfl
 ·unfold maxLen; omega
 ·omega
 ·intro v' w' k1 k2 _
  refine h v' w' ?_ k2
  unfold RowO
  have : cellsO (L ++ l) = cellsO L ++ cellsO l := by simp [cellsO]
  rw [this]
  simpa using k1
theorem fault_box (w : World) : Place0 w (w.alloc (.cells #[.int .i64 0, .int .i64 0] 45)) := ⟨⟨by simp, by simp⟩, by simp, by simp⟩
def TxsG (w : World) (b o R : Nat) (G : Nat -> Prop) (txs : List (List Fop)) : Prop :=
 ∀ j, (hj : j < txs.length) -> ∃ g f cap, w.cell? ⟨b, o + j, none⟩ = some (.slice (some ⟨g, f, none⟩) (txs[j]).length cap) /\ OpsAt w g f txs[j] /\ txs[j].length <= 8 /\ G g /\ g ≠ R
structure RefQ (w : World) (R : Nat) (txs : List (List Fop)) (known : Int) (G : Nat -> Prop) : Prop where
 r : G R
 c0 : (txs = [] /\ w.cell? ⟨R, 0, none⟩ = some (.slice none 0 0)) \/ ∃ b o cap, w.cell? ⟨R, 0, none⟩ = some (.slice (some ⟨b, o, none⟩) txs.length cap) /\ txs.length <= cap /\ G b /\ b ≠ R /\ TxsG w b o R G txs
 c1 : w.cell? ⟨R, 1, none⟩ = some (.int .i64 known)
 f0 : w.frozen? ⟨R, 0, none⟩ = false
 f1 : w.frozen? ⟨R, 1, none⟩ = false
 most : txs.length <= 150
 ok : ∀ l, l ∈ txs -> okL l
 lt : ∀ i, G i -> i < w.heap.size
theorem RefQ.refP {w : World} {R : Nat} {txs : List (List Fop)} {known : Int} {G : Nat -> Prop} (h : RefQ w R txs known G) : RefP w R txs known := by
 refine ⟨?_, h.c1, h.most⟩
 rcases h.c0 with q | ⟨b, o, cap, c, hc, _, _, ht⟩
 ·exact .inl q
 ·exact .inr ⟨b, o, cap, c, hc, fun j hj => by
   obtain ⟨g, f, cp, h1, h2, h3, _⟩ := ht j hj
   exact ⟨g, f, cp, h1, h2, h3⟩⟩
theorem opsAt_keeps {w w' : World} {F : Nat -> Prop} {b off : Nat} {l : List Fop} (h : OpsAt w b off l) (hk : Keeps F w w') (hf : ¬ F b) : OpsAt w' b off l := by
 obtain ⟨h1, h2⟩ := h
 refine ⟨Nat.lt_of_lt_of_le h1 hk.size, fun k hkk => ?_⟩
 obtain ⟨c0, c1, c2, c3, c4, c5, c6⟩ := h2 k hkk
 have t : ∀ {o : Nat} {v : Value}, w.cell? ⟨b, o, none⟩ = some v -> w'.cell? ⟨b, o, none⟩ = some v := fun {o v} e => (hk.cell (p := ⟨b, o, none⟩) h1 hf).trans e
 exact ⟨t c0, t c1, t c2, t c3, t c4, t c5, t c6⟩
theorem TxsG.keeps {w w' : World} {b o R : Nat} {G F : Nat -> Prop} {txs : List (List Fop)} (h : TxsG w b o R G txs) (hk : Keeps F w w') (hb : ¬ F b) (hG : ∀ i, G i -> i ≠ R -> ¬ F i) : TxsG w' b o R G txs := fun j hj => by
 obtain ⟨g, f, cp, h1, h2, h3, h4, h5⟩ := h j hj
 exact ⟨g, f, cp, (hk.cell (p := ⟨b, o + j, none⟩) (lt_of_cell h1) hb).trans h1, opsAt_keeps h2 hk (hG g h4 h5), h3, h4, h5⟩
theorem RefQ.keeps {w w' : World} {R : Nat} {txs : List (List Fop)} {known : Int} {G F : Nat -> Prop} (h : RefQ w R txs known G) (hk : Keeps F w w') (hG : ∀ i, G i -> ¬ F i) : RefQ w' R txs known G := by
 have hR := h.lt R h.r
 have t : ∀ {o : Nat} {v : Value}, w.cell? ⟨R, o, none⟩ = some v -> w'.cell? ⟨R, o, none⟩ = some v := fun {o v} e => (hk.cell (p := ⟨R, o, none⟩) hR (hG R h.r)).trans e
 refine ⟨h.r, ?_, t h.c1, (hk.frozen (p := ⟨R, 0, none⟩) hR (hG R h.r)).trans h.f0, (hk.frozen (p := ⟨R, 1, none⟩) hR (hG R h.r)).trans h.f1, h.most, h.ok, fun i hi => Nat.lt_of_lt_of_le (h.lt i hi) hk.size⟩
 rcases h.c0 with ⟨e, c⟩ | ⟨b, o, cap, c, hc, hb, hbR, ht⟩
 ·exact .inl ⟨e, t c⟩
 ·exact .inr ⟨b, o, cap, t c, hc, hb, hbR, ht.keeps hk (hG b hb) (fun i hi _ => hG i hi)⟩
theorem RefQ.below {w w' : World} {R : Nat} {txs : List (List Fop)} {known : Int} {G : Nat -> Prop} (h : RefQ w R txs known G) (hb : Below w.heap.size w w') : RefQ w' R txs known G := h.keeps (Keeps.of_below (fun _ => False) hb zr) (fun _ _ q => q)
theorem RefQ.forgot {w : World} {R : Nat} {txs : List (List Fop)} {known : Int} {G : Nat -> Prop} (h : RefQ w R txs known G) (at_ : Int) : RefQ (w.setCell ⟨R, 1, none⟩ (.int .i64 at_)) R txs at_ G := by
 have hk := keeps_set w R 1 (.int .i64 at_)
 refine ⟨h.r, ?_, World.cell?_setCell_same _ _ _ h.c1, by rw [World.frozen?_setCell]; exact h.f0, by rw [World.frozen?_setCell]; exact h.f1, h.most, h.ok, fun i hi => Nat.lt_of_lt_of_le (h.lt i hi) hk.size⟩
 rcases h.c0 with ⟨e, c⟩ | ⟨b, o, cap, c, hc, hb, hbR, ht⟩
 ·exact .inl ⟨e, by rw [World.cell?_setCell_other _ _ _ _ (by simp)]; exact c⟩
 ·exact .inr ⟨b, o, cap, by rw [World.cell?_setCell_other _ _ _ _ (by simp)]; exact c, hc, hb, hbR, ht.keeps hk hbR (fun i _ hi => hi)⟩
theorem rowL_at {w : World} {base : Nat} {v : Value} {L : List Value} (h : RowL w base v L) (hL : L ≠ []) : ∃ g cap, v = .slice (some ⟨g, 0, none⟩) L.length cap /\ L.length <= cap /\ base <= g /\ ∀ j, j < L.length -> w.cell? ⟨g, j, none⟩ = L[j]? := by
 obtain ⟨_, h2⟩ := h
 rcases h2 with ⟨hv, h2⟩ | ⟨g, cap, cur, hv, hg, hh, h3, h4, h5, h6⟩
 ·exact absurd (List.eq_nil_of_length_eq_zero h2) hL
 ·refine ⟨g, cap, hv, h3, hg, fun j hj => ?_⟩
  unfold World.cell?
  simp only [hh]
  rw [<- Array.getElem?_toList, <- h6, List.getElem?_take_of_lt (by omega)]
  rfl
theorem txs_vals {w : World} {ad : Option Addr} {cap R : Nat} {G : Nat -> Prop} {txs : List (List Fop)} (h : (txs = [] /\ ad = none /\ cap = 0) \/ ∃ b o, ad = some ⟨b, o, none⟩ /\ TxsG w b o R G txs) :
  ∃ vs : List Value, vs.length = txs.length /\ ((ad = none /\ vs = [] /\ cap = 0) \/ ∃ b f, ad = some ⟨b, f, none⟩ /\ ∀ j, (h : j < vs.length) -> w.cell? ⟨b, f + j, none⟩ = some vs[j]) /\ (∀ u, u ∈ vs -> u.oneCell' = true) /\ ∀ j, (hj : j < txs.length) -> ∃ g f c, vs[j]? = some (.slice (some ⟨g, f, none⟩) (txs[j]).length c) /\ OpsAt w g f txs[j] /\ txs[j].length <= 8 /\ G g /\ g ≠ R := by
 rcases h with ⟨rfl, rfl, rfl⟩ | ⟨b, o, rfl, hv⟩
 ·exact ⟨[], rfl, .inl ⟨rfl, rfl, rfl⟩, by simp, fun j hj => absurd hj (Nat.not_lt_zero _)⟩
 ·refine ⟨(List.range txs.length).map fun j => (w.cell? ⟨b, o + j, none⟩).getD .nilIface, by simp, .inr ⟨b, o, rfl, fun j hj => ?_⟩, fun u hu => ?_, fun j hj => ?_⟩
  ·have hj' : j < txs.length := by simpa using hj
   obtain ⟨g, f, c, h1, _⟩ := hv j hj'
   simp [h1]
  ·obtain ⟨j, hj, rfl⟩ := List.mem_map.1 hu
   obtain ⟨g, f, c, h1, _⟩ := hv j (List.mem_range.1 hj)
   rw [h1]
   rfl
  ·obtain ⟨g, f, c, h1, h2⟩ := hv j hj
   exact ⟨g, f, c, by simp [hj, h1], h2⟩
theorem rp_commit_ok {w : World} {R : Nat} {txs : List (List Fop)} {known : Int} {G : Nat -> Prop} (h : RefQ w R txs known G) {b off cap : Nat} {l : List Fop} (hO : OpsAt w b off l) (hok : okL l) {s : ByteArray} {i : Int} (hW : ∀ W, Below w.heap.size w W -> RefSays (.slice (some ⟨b, off, none⟩) l.length cap) s 0 i W) (hf : txs.length < 150) :
  Calls Tryz.prog 8 #[.pointer (some ⟨R, 0, none⟩), .slice (some ⟨b, off, none⟩) l.length cap] w fun e w' => e = .returned (.agg #[.int .i64 0, .int .i64 (-1)]) /\ (∃ G', RefQ w' R (txs ++ [l]) known G' /\ ∀ j, G' j -> G j \/ w.heap.size <= j) /\ Keeps (fun j => j = R) w w' := by
 have hl : 1 <= l.length /\ l.length <= 8 := ⟨hok.1, hok.2.1⟩
 have HOk := zh hok
 have hb := below_box w (.cells #[.int .i64 0, .int .i64 0] 45)
 have HB := zh hb
 have HP := zh (fault_box w)
 have HW := zh (hW _ hb)
 have HR := zh h
 have HBa := zh (fun W => ref_Bare 0 W)
 have HO := zh hO
 clear hW hb h hO hok
 go_enter Tryz.func8, Tryz.ntmps8
 go_wp2_with fail
 unfold RefSays at HW
 generalize w.alloc (.cells #[.int .i64 0, .int .i64 0] 45) = W0 at *
 refine (uh HW).mono ?_
 rintro e W1 ⟨rfl, b1⟩
 have b2 : Below W0.heap.size W0 (W1.alloc (.cells #[.int .i64 0, .int .i64 i] 45)) := b1.trans ((below_box _ _).mono b1.size)
 have HB2 := zh ((uh HB).trans (b2.mono (uh HB).size))
 have HP2 := zh ((uh HP).carry b2)
 have HR2 := zh ((uh HR).below (uh HB2))
 have HO2 := zh ((uh HO).carry (uh HB2))
 have x0 : (W1.alloc (.cells #[.int .i64 0, .int .i64 i] 45)).cell? ⟨W1.heap.size, 0, none⟩ = some (.int .i64 0) := by simp
 clear HP HW b1 b2 HO
 go_upto_region 2 with fail
 generalize W1.alloc (.cells #[.int .i64 0, .int .i64 i] 45) = W2 at *
 obtain ⟨ad, cp, c0, hc0⟩ : ∃ ad cp, W2.cell? ⟨R, 0, none⟩ = some (.slice ad txs.length cp) /\ ((txs = [] /\ ad = none /\ cp = 0) \/ ∃ b o, ad = some ⟨b, o, none⟩ /\ TxsG W2 b o R G txs) := by
  rcases (uh HR2).c0 with ⟨e, c⟩ | ⟨b, o, cap, c, _, _, _, ht⟩
  ·exact ⟨none, 0, by rw [e]; exact c, .inl ⟨e, rfl, rfl⟩⟩
  ·exact ⟨_, cap, c, .inr ⟨b, o, rfl, ht⟩⟩
 obtain ⟨vs, hvl, hvc, hv1, hvt⟩ := txs_vals hc0
 have HVc := zh hvc
 have HVt := zh hvt
 have HV1 := zh hv1
 have HN := zh (rp_Now c0)
 obtain ⟨n, hn⟩ : ∃ n, n = txs.length := ⟨_, rfl⟩
 have HNn := zh hn
 have HVl := zh hvl
 rw [<- hn] at c0 HN hf
 clear hc0 hvc hvt hv1 hvl hn
 go_wp2_with fail
 refine (uh HN).mono ?_
 rintro e W3 ⟨rfl, hW3⟩
 obtain rfl : W2 = W3 := hW3.symm
 clear hW3 x0
 have hf' : ¬ (150 : Int) <= (n : Int) := by omega
 have HBa1 := zh (below_box W2 (.cells #[] 37))
 have d0 := there_yet c0 (uh HBa1)
 have HRw1 : Hid (RowL (W2.alloc (.cells #[] 37)) W2.heap.size (.slice (some ⟨W2.heap.size, 0, none⟩) 0 0) []) := World.ownsRow_lit (base := W2.heap.size) (e := 37) (size := 1) W2 #[] 0 zr (by decide) rfl
 have HVc1 : Hid ((ad = none /\ vs = [] /\ cp = 0) \/ ∃ b f, ad = some ⟨b, f, none⟩ /\ ∀ j, (h : j < vs.length) -> (W2.alloc (.cells #[] 37)).cell? ⟨b, f + j, none⟩ = some vs[j]) := by
  rcases uh HVc with q | ⟨b, f, e, q⟩
  ·exact .inl q
  ·exact .inr ⟨b, f, e, fun j hj => there_yet (q j hj) (uh HBa1)⟩
 have hnv : n = vs.length := (uh HNn).trans (uh HVl).symm
 have HNv := zh hnv
 have HXx : Hid (Value.slice ad n cp = .slice ad vs.length cp) := by rw [<- hnv]; rfl
 have hv150 : vs.length <= 150 := by omega
 clear hnv
 go_wp2_with (first | (at_builtin; refine wpList_appLv _ rfl (.tmp 21) (.tmp 25) rfl W2.heap.size _ [] rfl (uh HRw1) ad cp vs (uh HXx) (uh HVc1) (uh HV1) ?e1 ?e2 ?_))
 case e1 => simp; omega
 case e2 => simp
 intro v1 W4 r1 g1
 have hb4 : Below W2.heap.size W2 W4 := (uh HBa1).grown g1 (uh HBa1).size (fun i hi => by cases hi; exact Nat.le_refl _)
 have HB4 := zh hb4
 have HR1 : Hid (RowL W4 W2.heap.size v1 vs) := r1
 obtain ⟨ad1, n1, cap1, rfl⟩ : ∃ ad n cap, v1 = .slice ad n cap := by
  obtain ⟨ad, cap, e⟩ := row_slice (show World.ownsRow _ _ _ _ _ _ _ from r1)
  exact ⟨ad, _, cap, e⟩
 clear r1 g1 d0 HBa1 HRw1 hb4 HVc1
 have HBa2 := zh (below_box W4 (.cells #[] 36))
 have HRw2 : Hid (RowO (W4.alloc (.cells #[] 36)) W4.heap.size (.slice (some ⟨W4.heap.size, 0, none⟩) 0 0) []) := World.ownsRow_lit (base := W4.heap.size) (e := 36) (size := 7) W4 #[] 0 zr (by decide) rfl
 have HO4 := zh (((uh HO2).carry (uh HB4)).carry (uh HBa2))
 go_wp2_with (first | (at_builtin; refine wpList_appOv _ rfl (.tmp 27) (.tmp 28) rfl W4.heap.size _ [] rfl (uh HRw2) b off cap l rfl (uh HO4) ?e3 ?e4 ?_))
 case e3 => simp; omega
 case e4 => simp
 intro v2 W5 r2 g2
 have hb5 : Below W4.heap.size W4 W5 := (uh HBa2).grown g2 (uh HBa2).size (fun i hi => by cases hi; exact Nat.le_refl _)
 have HB5 := zh hb5
 have HR2o : Hid (RowO W5 W4.heap.size v2 l) := r2
 obtain ⟨g5, c5, rfl, ho5, hg5⟩ := RowO.at (show RowO W5 W4.heap.size v2 l from r2) (by intro q; rw [q] at hl; simp at hl)
 have HO5 := zh ho5
 clear r2 g2 HBa2 HRw2 hb5 HO4 ho5
 have HBa3 := zh (below_box W5 (.cells #[.slice (some ⟨g5, 0, none⟩) l.length c5] 37))
 have HR5 : Hid (RowL (W5.alloc (.cells #[.slice (some ⟨g5, 0, none⟩) l.length c5] 37)) W2.heap.size (.slice ad1 n1 cap1) vs) := ((uh HR1).carry (uh HB5)).carry (uh HBa3)
 have hz : W2.heap.size <= W5.heap.size := Nat.le_trans (uh HB4).size (uh HB5).size
 go_wp2_with (first | (at_builtin; refine wpList_appL _ rfl (.tmp 26) (.tmp 30) rfl W2.heap.size _ vs rfl (uh HR5) W5.heap.size (some ⟨g5, 0, none⟩) l.length c5 rfl ?e5 ?e6 ?e7 ?_))
 case e5 => simp
 case e6 => omega
 case e7 => simp; omega
 intro v3 W6 r3 g3
 have hb6 : Below w.heap.size w W6 := by
  have q1 := (uh HB2).trans ((uh HB4).mono (uh HB2).size)
  have q2 := q1.trans ((uh HB5).mono q1.size)
  have q3 := q2.trans ((uh HBa3).mono q2.size)
  refine q3.grown g3 q3.size (fun i hi => ?_)
  have := (World.ownsRow.lt (uh HR5) i hi).1
  have := (uh HB2).size
  omega
 have hb26 : Below W2.heap.size W2 W6 := by
  have q2 := (uh HB4).trans ((uh HB5).mono (uh HB4).size)
  have q3 := q2.trans ((uh HBa3).mono q2.size)
  exact q3.grown g3 q3.size (fun i hi => (World.ownsRow.lt (uh HR5) i hi).1)
 have hO6 : OpsAt W6 g5 0 l := by
  have q := (uh HO5).carry (uh HBa3)
  refine opsAt_keeps q (keeps_grown g3) (fun e => ?_)
  have h1 := (World.ownsRow.lt (uh HR1) g5 (show (Value.slice ad1 n1 cap1).ownBlock = some g5 from e.symm)).2
  omega
 have HO6 := zh hO6
 have HB6 := zh hb6
 have HB26 := zh hb26
 obtain ⟨g6, cap6, rfl, hnc6, hbg6, hc6⟩ := rowL_at (show RowL W6 W2.heap.size v3 _ from r3) (by simp)
 have hl6 : (vs ++ [Value.slice (some ⟨g5, 0, none⟩) l.length c5]).length = n + 1 := by
  have := uh HNv
  rw [List.length_append]
  simp
  omega
 rw [hl6] at hnc6 hc6 ⊢
 have HC6 := zh hc6
 have hRlt : R < w.heap.size := (uh HR).lt R (uh HR).r
 have hz2 := (uh HB2).size
 have hz4 := (uh HB4).size
 have hz3 : w.heap.size < W2.heap.size := lt_of_cell (uh HP2).1.1
 obtain ⟨u0, hu0⟩ : ∃ u, w.cell? ⟨R, 0, none⟩ = some u := by
  obtain ⟨_, _, q⟩ := (uh HR).refP.len
  exact ⟨_, q⟩
 have m0 := there_yet hu0 hb6
 have m1 : W6.frozen? ⟨R, 0, none⟩ = false := (hb6.frozen (p := ⟨R, 0, none⟩) hRlt).trans (uh HR).f0
 have HP6 := zh ((uh HP2).carry hb26)
 have HK6 : Hid (Keeps (fun j => j = R) w (W6.setCell ⟨R, 0, none⟩ (.slice (some ⟨g6, 0, none⟩) (n + 1) cap6))) := (Keeps.of_below (fun j => j = R) hb6 zr).then (keeps_set W6 R 0 _) (fun _ _ q => q)
 have HM0 := zh m0
 clear hu0 hb6 hb26 r3 g3 hO6 hc6 HR5 HBa3 HR1 HB5 HB4 hl6
 go_upto_region 7 with fail
 clear m0 m1
 have HP7 : Hid (Place0 w (W6.setCell ⟨R, 0, none⟩ (.slice (some ⟨g6, 0, none⟩) (n + 1) cap6))) := by
  obtain ⟨⟨p0, f0⟩, p1, f1⟩ := uh HP6
  refine ⟨⟨?_, ?_⟩, ?_, ?_⟩
  ·rw [World.cell?_setCell_far _ _ _ _ (by show R ≠ w.heap.size; omega)]; exact p0
  ·rw [World.frozen?_setCell]; exact f0
  ·rw [World.cell?_setCell_far _ _ _ _ (by show R ≠ w.heap.size; omega)]; exact p1
  ·rw [World.frozen?_setCell]; exact f1
 have HQ7 : Hid (∃ G', RefQ (W6.setCell ⟨R, 0, none⟩ (.slice (some ⟨g6, 0, none⟩) (n + 1) cap6)) R (txs ++ [l]) known G' /\ (∀ j, G' j -> G j \/ w.heap.size <= j) /\ ¬ G' w.heap.size) := by
  have hks := keeps_set W6 R 0 (.slice (some ⟨g6, 0, none⟩) (n + 1) cap6)
  have hR6 := (uh HR).below (uh HB6)
  have hlen : (txs ++ [l]).length = n + 1 := by rw [List.length_append, uh HNn]; rfl
  have hg6R : g6 ≠ R := by omega
  have hg5R : g5 ≠ R := by omega
  have hg6l : g6 < W6.heap.size := by
   have := uh HC6 0 (by omega)
   rcases Nat.lt_or_ge g6 W6.heap.size with q | q
   ·exact q
   ·unfold World.cell? at this
    rw [Array.getElem?_eq_none q] at this
    cases vs with
    | nil => simp at this
    | cons x y => simp at this
  refine ⟨fun j => G j \/ j = g6 \/ j = g5, ⟨.inl (uh HR).r, .inr ⟨g6, 0, cap6, ?_, by rw [hlen]; exact hnc6, .inr (.inl rfl), hg6R, fun j hj => ?_⟩, ?_, ?_, ?_, ?_, ?_, ?_⟩, ?_, ?_⟩
  ·rw [hlen]
   exact World.cell?_setCell_same _ _ _ (uh HM0)
  ·have hjn : j < n + 1 := by rw [<- hlen]; exact hj
   have hcj := uh HC6 j hjn
   have hcs : (W6.setCell ⟨R, 0, none⟩ (.slice (some ⟨g6, 0, none⟩) (n + 1) cap6)).cell? ⟨g6, 0 + j, none⟩ = W6.cell? ⟨g6, j, none⟩ := by
    rw [World.cell?_setCell_far _ _ _ _ (by show R ≠ g6; omega), Nat.zero_add]
   rw [hcs, hcj]
   by_cases hlt : j < txs.length
   ·obtain ⟨g, f, c, e1, e2, e3, e4, e5⟩ := uh HVt j hlt
    refine ⟨g, f, c, ?_, ?_, ?_, .inl e4, e5⟩
    ·rw [List.getElem?_append_left (by rw [uh HVl]; exact hlt), List.getElem_append_left hlt]
     exact e1
    ·rw [List.getElem_append_left hlt]
     exact opsAt_keeps (e2.carry (uh HB26)) hks e5
    ·rw [List.getElem_append_left hlt]
     exact e3
   ·obtain rfl : j = txs.length := by have := uh HNn; omega
    refine ⟨g5, 0, c5, ?_, ?_, ?_, .inr (.inr rfl), hg5R⟩
    ·rw [List.getElem?_append_right (by rw [uh HVl]; exact Nat.le_refl _), uh HVl]
     simp
    ·rw [List.getElem_concat_length (by rfl)]
     exact opsAt_keeps (uh HO6) hks hg5R
    ·rw [List.getElem_concat_length (by rfl)]
     exact hl.2
  ·rw [World.cell?_setCell_other _ _ _ _ (by simp)]
   exact hR6.c1
  ·rw [World.frozen?_setCell]
   exact hR6.f0
  ·rw [World.frozen?_setCell]
   exact hR6.f1
  ·rw [hlen]
   omega
  ·intro x hx
   rcases List.mem_append.1 hx with q | q
   ·exact (uh HR).ok x q
   ·obtain rfl := List.mem_singleton.1 q
    exact uh HOk
  ·intro i hi
   refine Nat.lt_of_lt_of_le ?_ hks.size
   rcases hi with q | rfl | rfl
   ·exact hR6.lt i q
   ·exact hg6l
   ·exact (uh HO6).1
  ·intro j hj
   rcases hj with q | rfl | rfl
   ·exact .inl q
   ·exact .inr (by omega)
   ·exact .inr (by omega)
  ·rintro (q | q | q)
   ·exact absurd ((uh HR).lt _ q) (Nat.lt_irrefl _)
   ·omega
   ·omega
 generalize W6.setCell ⟨R, 0, none⟩ (.slice (some ⟨g6, 0, none⟩) (n + 1) cap6) = W7 at *
 go_wp2_with fail
 refine (uh HBa _).mono ?_
 rintro e W8 ⟨rfl, hW8⟩
 have b8 : Below W7.heap.size W7 W8 := by rw [hW8]; exact below_box _ _
 obtain ⟨⟨p0, f0⟩, p1, f1⟩ := (uh HP7).carry b8
 have q := two_set W8 w.heap.size (.int .i64 0) (.int .i64 (-1)) _ _ p0 p1
 have hk1 : Keeps (fun j => j = w.heap.size) W8 ((W8.setCell ⟨w.heap.size, 0, none⟩ (.int .i64 0)).setCell ⟨w.heap.size, 1, none⟩ (.int .i64 (-1))) := (keeps_set W8 w.heap.size 0 _).then (keeps_set _ w.heap.size 1 _) (fun _ _ q => q)
 have HF1 : Hid (Keeps (fun j => j = R) w ((W8.setCell ⟨w.heap.size, 0, none⟩ (.int .i64 0)).setCell ⟨w.heap.size, 1, none⟩ (.int .i64 (-1)))) := ((uh HK6).then (Keeps.of_below (fun j => j = R) b8 zr) (fun _ _ q => q)).then hk1 (fun i hi q => by subst q; omega)
 have HF2 : Hid (∃ G', RefQ ((W8.setCell ⟨w.heap.size, 0, none⟩ (.int .i64 0)).setCell ⟨w.heap.size, 1, none⟩ (.int .i64 (-1))) R (txs ++ [l]) known G' /\ ∀ j, G' j -> G j \/ w.heap.size <= j) := by
  obtain ⟨G', h1, h2, h3⟩ := uh HQ7
  exact ⟨G', (h1.below b8).keeps hk1 (fun i hi q => h3 (by rw [<- q]; exact hi)), h2⟩
 clear hW8 b8 hk1
 go_wp2
 exact bodyPost_ret (v := .agg #[.int .i64 0, .int .i64 (-1)]) (by simp [results, Tryz.results8, go_sem, q.1, q.2]) rfl ⟨rfl, uh HF2, uh HF1⟩
theorem says_ok (l : List Fop) (v : Value) (w : World) (hs : ∀ x, x ∈ l -> Small x) (h : ReadsOps w v l) (ht : Tab w) (hl : okL l) : ∀ W, Below w.heap.size w W -> RefSays v ⟨(opsL l).toArray⟩ 0 (-1) W := fun W hW => by
 obtain ⟨ad, cap, rfl, h'⟩ := h.carry hW
 rcases h' with rfl | ⟨b, off, rfl, h'⟩
 ·exact absurd hl.1 (by simp)
 ·exact (refw_main l l.length b off cap W ⟨hl.1, hl.2.1⟩ hs h' (ht.carry hW) zr (fun j hj _ => hl.2.2 _ (List.getElem_mem hj)) (fun hj => absurd hj (Nat.lt_irrefl _))).mono fun e w' ⟨hb, hr⟩ => by
   rcases hr with ⟨_, he⟩ | ⟨hlt, _⟩
   ·exact ⟨he, hb⟩
   ·exact absurd hlt (Nat.lt_irrefl _)
theorem says_bad (l : List Fop) (v : Value) (w : World) (hs : ∀ x, x ∈ l -> Small x) (h : ReadsOps w v l) (ht : Tab w) (hl : 1 <= l.length /\ l.length <= 8) (i0 : Nat) (hb : FirstBad l i0) : ∀ W, Below w.heap.size w W -> RefSays v ⟨#[]⟩ 1 i0 W := fun W hW => by
 obtain ⟨ad, cap, rfl, h'⟩ := h.carry hW
 rcases h' with rfl | ⟨b, off, rfl, h'⟩
 ·simp at hl
 ·obtain ⟨b1, b2, b3⟩ := hb
  exact (refw_main l i0 b off cap W hl hs h' (ht.carry hW) (Nat.le_of_lt b1) (fun j hj hji => b3 j hji) (fun _ => b2)).mono fun e w' ⟨hb, hr⟩ => by
   rcases hr with ⟨heq, _⟩ | ⟨_, he⟩
   ·exact absurd b1 (by omega)
   ·exact ⟨he, hb⟩
end Go.Proofs.YtfoojmflbifkpaaGreatDoor
