/- Texts of one proof, one behind the other. -/
import Derived.Test.YtfoojmflbifkpaaGreatDoorBj
import Derived.Test.YtfoojmflbifkpaaGreatDoorBg
import Derived.Test.YtfoojmflbifkpaaGreatDoorShelfG
import Derived.Maps.RangeWalk
import Derived.Laws.OwnMore

/- Forgetting: plain; and maps that are gone through. -/
namespace Go.Proofs.YtfoojmflbifkpaaGreatDoor
open Go.RowKit Go.Maps
theorem Tells.later {V : List Ver} {known at_ now : Int} {S : Int → Int → ByteArray} (h : Tells V known now S) (hk : known ≤ at_) : Tells V at_ now S := fun c h1 h2 t => h c (Int.le_trans hk h1) h2 t
theorem Pst.later {X : List (Ky × Nat)} {Ln : Nat → List Ver × Int} {now known at_ bd : Int} {S : Ky → Int → Int → ByteArray} (h : Pst X Ln now known bd S) (hk : known ≤ at_) : Pst X Ln now at_ bd S :=
  ⟨h.ok, h.m0, fun x hx => (h.tells x hx).later hk, fun k hkn c c1 c2 t => h.none k hkn c (Int.le_trans hk c1) c2 t⟩
theorem Pst.still {X : List (Ky × Nat)} {Ln : Nat → List Ver × Int} {now known bd : Int} {S : Ky → Int → Int → ByteArray} (h : Pst X Ln now known bd S) {x : Ky × Nat} (hx : x ∈ X) (hkeys : ∀ y, y ∈ X → y ≠ x → y.2 ≠ x.2) {V' : List Ver} {made' : Int} (hO : LineOk V' made' now) (h0 : 0 ≤ made' ∧ made' ≤ bd) (hT : Tells V' known now (S x.1)) :
    Pst X (upd Ln x.2 (V', made')) now known bd S := by
  have other : ∀ y, y ∈ X → y = x ∨ y.2 ≠ x.2 := fun y hy => by
    rcases Classical.em (y = x) with e | e
    · exact .inl e
    · exact .inr (hkeys y hy e)
  refine ⟨fun y hy => ?_, fun y hy => ?_, fun y hy => ?_, h.none⟩
  · rcases other y hy with rfl | e
    · rw [upd_same]; exact hO
    · rw [upd_other _ _ e]; exact h.ok y hy
  · rcases other y hy with rfl | e
    · rw [upd_same]; exact h0
    · rw [upd_other _ _ e]; exact h.m0 y hy
  · rcases other y hy with rfl | e
    · rw [upd_same]; exact hT
    · rw [upd_other _ _ e]; exact h.tells y hy
theorem Pst.congr {X : List (Ky × Nat)} {Ln : Nat → List Ver × Int} {now known bd : Int} {S S' : Ky → Int → Int → ByteArray} (h : Pst X Ln now known bd S) (he : ∀ k c, known ≤ c → c ≤ now → ∀ t, S k c t = S' k c t) : Pst X Ln now known bd S' :=
  ⟨h.ok, h.m0, fun x hx => (h.tells x hx).congr (he x.1), fun k hkn c c1 c2 t => (he k c c1 c2 t).symm.trans (h.none k hkn c c1 c2 t)⟩
theorem PastW.congr {w : World} {P : Pl} {now known bd : Int} {S S' : Ky → Int → Int → ByteArray} {F : Nat → Prop} (h : PastW w P now known bd S F) (he : ∀ k c, known ≤ c → c ≤ now → ∀ t, S k c t = S' k c t) : PastW w P now known bd S' F := by
  obtain ⟨mv, X, Ln, Fs, h1, h2, h3, h4⟩ := h
  exact ⟨mv, X, Ln, Fs, h1, h2.congr he, h3, h4⟩
theorem ranges_keeps {w w' : World} {k : TypeId} {R : Value → Option (DataW Unit × List MemPlace)} {b r n cnt : Nat} {D : DataW Unit} {left : Lit → Bool} {F : Nat → Prop} (h : w.ranges Tryz.prog k R b r n D left cnt) (hk : Keeps F w w') (hb : ¬ F b) (hr : ¬ F r) : w'.ranges Tryz.prog k R b r n D left cnt := by
  have h1 := h.owns.lt
  have h2 := h.lt
  obtain ⟨es, clock, since, seen, c0, q1, F1, hs, hD, q2, rest⟩ := h
  exact ⟨es, clock, since, seen, c0, (hk.block b h1 hb).trans q1, F1, hs, hD, (hk.block r h2 hr).trans q2, rest⟩
theorem ranges_below {w w' : World} {k : TypeId} {R : Value → Option (DataW Unit × List MemPlace)} {b r n cnt : Nat} {D : DataW Unit} {left : Lit → Bool} (h : w.ranges Tryz.prog k R b r n D left cnt) (hb : Below w.heap.size w w') : w'.ranges Tryz.prog k R b r n D left cnt :=
  ranges_keeps h (Keeps.of_below (fun _ => False) hb (Nat.le_refl _)) (fun q => q) (fun q => q)
theorem has_of_at {D : DataW Unit} {kl : Lit} {d : DataW Unit} (h : ∀ z, D.atKey kl z = d) : Maps.has D kl = true := by
  cases e : Maps.has D kl with
  | true => rfl
  | false =>
    have h1 := h (.lit (.int .i64 0))
    have h2 := h (.lit (.int .i64 1))
    rw [Maps.atKey_of_not_has e] at h1 h2
    rw [← h2] at h1
    cases h1
theorem verElem_inv (u : Value) (y : DataW Unit × List MemPlace) (h : verElem u = some y) : ∃ c, u = verV c := by
  unfold verElem at h
  split at h
  · rename_i a
    split at h
    · rename_i lo hi val s0 s1 e
      refine ⟨⟨0, lo, hi, val, s0, s1⟩, ?_⟩
      cases a
      simp at e
      subst e
      rfl
    · cases h
  · cases h
theorem KeysV.met {D : DataW Unit} {V : List Ver} (h : KeysV D V) {x : Int} {u : Value} {y : DataW Unit} {ps : List MemPlace} (hu : verElem u = some (y, ps)) (hat : ∀ z, D.atKey (.int .i64 x) z = y) : ∃ v, v ∈ V ∧ v.n = x ∧ u = verV v := by
  rcases Classical.em (∃ v, v ∈ V ∧ v.n = x) with ⟨v, hv, rfl⟩ | q
  · refine ⟨v, hv, rfl, verElem_at (ps := ps) ?_⟩
    have := h.there v hv
    rw [hat] at this
    rw [hu, this]
    rfl
  · have := h.hasn x (fun v hv e => q ⟨v, hv, e⟩)
    rw [has_of_at hat] at this
    cases this
theorem keeps_grown {w w' : World} {row : Option Nat} (h : w.grownBy w' row) : Keeps (fun i => some i = row) w w' := ⟨h.os, h.tape, h.output, h.size, fun k hk hne => h.block k hk (fun e => hne e)⟩
theorem nodup_len {α : Type} : ∀ (L M : List α), L.Nodup → (∀ k, k ∈ L → k ∈ M) → L.length ≤ M.length
  | [], _, _, _ => Nat.zero_le _
  | a :: L, M, hn, h => by
    obtain ⟨s, t, rfl⟩ := List.append_of_mem (h a (by simp))
    obtain ⟨h1, h2⟩ := List.nodup_cons.1 hn
    have := nodup_len L (s ++ t) h2 (fun k hk => by
      have := h k (by simp [hk])
      rw [List.mem_append, List.mem_cons] at this
      rw [List.mem_append]
      rcases this with q | q | q
      · exact .inl q
      · rw [q] at hk; exact absurd hk h1
      · exact .inr q)
    simp at this ⊢
    omega
end Go.Proofs.YtfoojmflbifkpaaGreatDoor

/- The pieces of a key that were said: walked. -/
namespace Go.Proofs.YtfoojmflbifkpaaGreatDoor
open Go.RowKit Go.Maps
def encP : List (Int × Int × ByteArray) → List Value
  | [] => []
  | x :: l => .int .i64 x.1 :: .int .i64 x.2.1 :: .string x.2.2 :: encP l
theorem encP_append (l m : List (Int × Int × ByteArray)) : encP (l ++ m) = encP l ++ encP m := by
  induction l with
  | nil => rfl
  | cons x l ih => simp [encP, ih]
theorem encP_at : ∀ (l : List (Int × Int × ByteArray)) (j : Nat) (h : j < l.length), (encP l)[j * 3]? = some (.int .i64 l[j].1) ∧ (encP l)[j * 3 + 1]? = some (.int .i64 l[j].2.1) ∧ (encP l)[j * 3 + 2]? = some (.string l[j].2.2)
  | e :: l, 0, _ => ⟨rfl, rfl, rfl⟩
  | e :: l, j + 1, h => by
    have := encP_at l j (by simpa using h)
    have e1 : (j + 1) * 3 = j * 3 + 1 + 1 + 1 := by omega
    rw [e1]
    simpa [encP] using this
theorem infoP : (Tryz.prog.info? 177).map (fun i => (i.zero, i.size, i.bytes)) = some (some (.agg #[.int .i64 0, .int .i64 0, .string ⟨#[]⟩]), 3, 32) := by kernel_rfl
theorem wpList_appP (w : World) {ops : Array Oper} {rest : List Oper} {o : Oper} {a : Act} {Q : Exit → Act → World → Prop} (hgd : o.guard = none) (s x : Operand)
    (ho : o.op = .call { callee := .builtin .append, args := #[s, x], argTypes := #[111, 111] })
    (base : Nat) (v : Value) (l : List (Int × Int × ByteArray)) (hs : a.eval s = v) (hown : w.ownsRow base 177 3 v l.length (encP l))
    (b : Nat) (x1 x2 : Int) (x3 : ByteArray) (hx : a.eval x = .slice (some ⟨b, 0, none⟩) 1 1) (hc0 : w.cell? ⟨b, 0, none⟩ = some (.int .i64 x1)) (hc1 : w.cell? ⟨b, 1, none⟩ = some (.int .i64 x2)) (hc2 : w.cell? ⟨b, 2, none⟩ = some (.string x3))
    (hlen : l.length < 1099511627776) (hbase : base ≤ w.heap.size)
    (h : ∀ v' w', w'.ownsRow base 177 3 v' (l ++ [(x1, x2, x3)]).length (encP (l ++ [(x1, x2, x3)])) → w.grownBy w' v.ownBlock → wpList Tryz.prog ops Q rest (a.put o.dst v') w') : wpList Tryz.prog ops Q (o :: rest) a w := by
  obtain ⟨i0, hi0, hz0, hz1, hz2⟩ := info_parts infoP
  refine wpList_append_own w hgd s x 111 ho base 177 i0 (.agg #[.int .i64 0, .int .i64 0, .string ⟨#[]⟩]) 3 32 Tryz.underlying111 hi0 hz0 hz1 hz2 rfl (by decide) v l.length (encP l) hs hown ⟨b, 0, none⟩ 1 1 [.int .i64 x1, .int .i64 x2, .string x3] hx rfl ?_ ?_ ?_ ?_ hbase ?_
  · intro j u hj
    match j, hj with
    | 0, hj => simp at hj; subst hj; simpa [Addr.add] using hc0
    | 1, hj => simp at hj; subst hj; simpa [Addr.add] using hc1
    | 2, hj => simp at hj; subst hj; simpa [Addr.add] using hc2
  · intro u hu
    simp at hu
    rcases hu with rfl | rfl | rfl <;> rfl
  · unfold maxLen; omega
  · omega
  · intro v' w' k1 k2 _
    refine h v' w' ?_ k2
    rw [encP_append]
    simpa [encP] using k1
def GivesP (w : World) (l : List (Int × Int × ByteArray)) (e : Ending) (w' : World) : Prop :=
  ∃ v, e = .returned v ∧ w'.ownsRow w.heap.size 177 3 v l.length (encP l) ∧ Below w.heap.size w w'
def RowP (y : World) (base : Nat) (v : Value) (l : List (Int × Int × ByteArray)) : Prop := y.ownsRow base 177 3 v l.length (encP l)
theorem RowP.carry {w w' : World} {base : Nat} {v : Value} {l : List (Int × Int × ByteArray)} (h : RowP w base v l) (hb : Below w.heap.size w w') : RowP w' base v l := ownsRow_carry h hb
def Ver.pc (v : Ver) : Int × Int × ByteArray := (v.lo, v.hi, v.val)
def liveB (from_ to : Int) (v : Ver) : Bool := decide (v.s0 ≤ to ∧ from_ < v.s1)
def metV (V : List Ver) (lo hi : Int) : List Ver := V.filter (fun v => meetB lo hi v.ent)
def saidV (V : List Ver) (from_ to lo hi : Int) : List (Int × Int × ByteArray) := ((metV V lo hi).filter (liveB from_ to)).map Ver.pc
def saidX0 (X : List (Ky × Nat)) (Ln : Nat → List Ver × Int) (k : Ky) (from_ to lo hi : Int) (out : List (Int × Int × ByteArray)) : Prop :=
  (∃ x, x ∈ X ∧ x.1 = k ∧ out = saidV (Ln x.2).1 from_ to lo hi) ∨ ((∀ x, x ∈ X → x.1 ≠ k) ∧ out = [])
def saidX (X : List (Ky × Nat)) (Ln : Nat → List Ver × Int) (k : Ky) (from_ to lo hi : Int) (out : List (Int × Int × ByteArray)) : Prop := ∃ o, saidX0 X Ln k from_ to lo hi o ∧ out.Perm o
theorem keeps_below0 {F : Nat → Prop} {n : Nat} {w w' : World} (hk : Keeps F w w') (hF : ∀ i, F i → n ≤ i) (hn : n ≤ w.heap.size) : Below n w w' :=
  ⟨hk.os, hk.tape, hk.output, hk.size, fun k h => hk.block k (by omega) (fun q => by have := hF k q; omega)⟩
theorem filter_one {v : Ver} (q q' : Ver → Bool) : ∀ {V : List Ver}, V.Pairwise (fun a b => a.n < b.n) → v ∈ V → (∀ u, u ∈ V → u.n ≠ v.n → q' u = q u) → q v = false → q' v = true → (V.filter q').Perm (V.filter q ++ [v])
  | [], _, h, _, _, _ => by cases h
  | a :: V, hr, h, h1, h2, h3 => by
    have hlt : ∀ b, b ∈ V → a.n < b.n := fun b hb => List.rel_of_pairwise_cons hr hb
    by_cases e : a.n = v.n
    · have ev : v = a := by
        rcases List.mem_cons.1 h with r | r
        · exact r
        · have := hlt v r; omega
      subst ev
      rw [List.filter_cons_of_pos h3, List.filter_cons_of_neg (by simp [h2])]
      have : V.filter q' = V.filter q := List.filter_congr fun u hu => h1 u (List.mem_cons_of_mem _ hu) (by have := hlt u hu; omega)
      rw [this]
      exact (List.perm_append_singleton v _).symm
    · have hv : v ∈ V := by
        rcases List.mem_cons.1 h with r | r
        · subst r; exact absurd rfl e
        · exact r
      have ih := filter_one q q' (List.Pairwise.of_cons hr) hv (fun u hu => h1 u (List.mem_cons_of_mem _ hu)) h2 h3
      have ea := h1 a (by simp) e
      cases hq : q a with
      | true =>
        rw [List.filter_cons_of_pos (by rw [ea]; exact hq), List.filter_cons_of_pos hq, List.cons_append]
        exact ih.cons a
      | false =>
        rw [List.filter_cons_of_neg (by rw [ea, hq]; decide), List.filter_cons_of_neg (by rw [hq]; decide)]
        exact ih
structure SdI (w : World) (b mm r n : Nat) (V : List Ver) (made : Int) (D : DataW Unit) (G F : Nat → Prop) (from_ to lo hi : Int) (sb : Nat) (left was : Lit → Bool) (cnt : Nat) (u : Value) (out : List (Int × Int × ByteArray)) (y : World) : Prop where
  line : LineX y b mm (openE V) V made D G F
  rg : y.ranges Tryz.prog 3 verElem mm r n D left cnt
  row : RowP y (r + 1) u out
  perm : out.Perm ((V.filter (fun v => !was (.int .i64 v.n) && (liveB from_ to v && meetB lo hi v.ent))).map Ver.pc)
  low : Below w.heap.size w y
  pr : ∀ i, F i → i < r
  wr : w.heap.size ≤ r
  rs : r < y.heap.size
  sr : sb < r
  s0 : y.cell? ⟨sb, 0, none⟩ = some (.int .i64 lo)
  s1 : y.cell? ⟨sb, 1, none⟩ = some (.int .i64 hi)
section
variable {w : World} {b mm r n : Nat} {V : List Ver} {made : Int} {D : DataW Unit} {G F : Nat → Prop} {from_ to lo hi : Int} {sb : Nat} {left was : Lit → Bool} {cnt : Nat} {u : Value} {out : List (Int × Int × ByteArray)} {y y' : World}
theorem SdI.below (h : SdI w b mm r n V made D G F from_ to lo hi sb left was cnt u out y) (hb : Below y.heap.size y y') : SdI w b mm r n V made D G F from_ to lo hi sb left was cnt u out y' :=
  ⟨h.line.below hb, ranges_below h.rg hb, h.row.carry hb, h.perm, h.low.trans (hb.mono h.low.size), h.pr, h.wr, Nat.lt_of_lt_of_le h.rs hb.size, h.sr, (hb.cell (p := ⟨sb, 0, none⟩) (lt_of_cell h.s0)).trans h.s0, (hb.cell (p := ⟨sb, 1, none⟩) (lt_of_cell h.s1)).trans h.s1⟩
theorem SdI.came {cnt' : Nat} {left' : Lit → Bool} (h : SdI w b mm r n V made D G F from_ to lo hi sb left was cnt u out y) (hg : y.grownBy y' (some r)) (hrg : y'.ranges Tryz.prog 3 verElem mm r n D left' cnt') : SdI w b mm r n V made D G F from_ to lo hi sb left' was cnt' u out y' := by
  have hk := keeps_grown hg
  have hsr := h.sr
  refine ⟨h.line.keeps hk (fun i hi e => by cases e; exact Nat.lt_irrefl _ (h.pr _ hi)), hrg, World.ownsRow.kept h.row hg ?_, h.perm, h.low.trans (keeps_below0 hk (fun i e => by cases e; exact h.wr) h.low.size), h.pr, h.wr, Nat.lt_of_lt_of_le h.rs hg.size, h.sr, (hk.cell (p := ⟨sb, 0, none⟩) (lt_of_cell h.s0) (fun e => by have e' : sb = r := Option.some.inj e; omega)).trans h.s0, (hk.cell (p := ⟨sb, 1, none⟩) (lt_of_cell h.s1) (fun e => by have e' : sb = r := Option.some.inj e; omega)).trans h.s1⟩
  rcases e : u.ownBlock with _ | g
  · exact .inl rfl
  · refine .inr (fun q => ?_)
    have := (World.ownsRow.lt h.row g e).1
    cases q
    omega
theorem key_int_other {left : Lit → Bool} {a n : Int} (h : a ≠ n) : (left (.int .i64 a) && !(Lit.int .i64 a).sameKey (.int .i64 n)) = left (.int .i64 a) := by
  have : (Lit.int .i64 a).sameKey (.int .i64 n) = false := by
    cases e : (Lit.int .i64 a).sameKey (.int .i64 n) with
    | false => rfl
    | true =>
      have := WideAt.sameKey_eq e
      injection this with _ q
      exact absurd q h
  rw [this]
  simp
theorem key_int_same {left : Lit → Bool} {n : Int} : (left (.int .i64 n) && !(Lit.int .i64 n).sameKey (.int .i64 n)) = false := by
  have : (Lit.int .i64 n).sameKey (.int .i64 n) = true := WideAt.sameKey_self trivial
  rw [this]
  simp
theorem SdI.skip {v : Ver} (h : SdI w b mm r n V made D G F from_ to lo hi sb (fun z => left z && !z.sameKey (.int .i64 v.n)) left cnt u out y) (hL : ∀ x, x ∈ V → x.n = v.n → x = v) (hn : (liveB from_ to v && meetB lo hi v.ent) = false) : SdI w b mm r n V made D G F from_ to lo hi sb (fun z => left z && !z.sameKey (.int .i64 v.n)) (fun z => left z && !z.sameKey (.int .i64 v.n)) cnt u out y := by
  refine ⟨h.line, h.rg, h.row, ?_, h.low, h.pr, h.wr, h.rs, h.sr, h.s0, h.s1⟩
  refine h.perm.trans (List.Perm.of_eq ?_)
  congr 1
  refine List.filter_congr fun x hx => ?_
  by_cases e : x.n = v.n
  · rw [hL x hx e, hn]
    simp
  · rw [key_int_other e]
theorem SdI.add {v : Ver} {u' : Value} (h : SdI w b mm r n V made D G F from_ to lo hi sb (fun z => left z && !z.sameKey (.int .i64 v.n)) left cnt u out y) (hr : V.Pairwise (fun a b => a.n < b.n)) (hv : v ∈ V) (hl : left (.int .i64 v.n) = true) (hn : (liveB from_ to v && meetB lo hi v.ent) = true) (hg : y.grownBy y' u.ownBlock) (hrow : RowP y' (r + 1) u' (out ++ [v.pc])) : SdI w b mm r n V made D G F from_ to lo hi sb (fun z => left z && !z.sameKey (.int .i64 v.n)) (fun z => left z && !z.sameKey (.int .i64 v.n)) cnt u' (out ++ [v.pc]) y' := by
  have hkp := keeps_grown hg
  have hge : ∀ i, some i = u.ownBlock → r + 1 ≤ i := fun i e => (World.ownsRow.lt h.row i e.symm).1
  have hsr := h.sr
  refine ⟨h.line.keeps hkp (fun i hi e => by have := hge i e; have := h.pr i hi; omega), ranges_keeps h.rg hkp (fun e => by have := hge mm e; have := h.pr mm h.line.fm; omega) (fun e => by have := hge r e; omega), hrow, ?_, h.low.trans (keeps_below0 hkp (fun i e => by have := hge i e; have := h.wr; omega) h.low.size), h.pr, h.wr, Nat.lt_of_lt_of_le h.rs hg.size, h.sr, (hkp.cell (p := ⟨sb, 0, none⟩) (lt_of_cell h.s0) (fun e => by have := hge sb e; omega)).trans h.s0, (hkp.cell (p := ⟨sb, 1, none⟩) (lt_of_cell h.s1) (fun e => by have := hge sb e; omega)).trans h.s1⟩
  have k := (filter_one (v := v) (fun x => !left (.int .i64 x.n) && (liveB from_ to x && meetB lo hi x.ent)) (fun x => !(left (.int .i64 x.n) && !(Lit.int .i64 x.n).sameKey (.int .i64 v.n)) && (liveB from_ to x && meetB lo hi x.ent)) hr hv (fun x _ e => by rw [key_int_other e]) (by rw [hl]; rfl) (by rw [key_int_same, hn]; rfl)).map Ver.pc
  rw [List.map_append] at k
  exact (h.perm.append_right [v.pc]).trans k.symm
theorem SdI.short (h : SdI w b mm r n V made D G F from_ to lo hi sb left was cnt u out y) : out.length ≤ V.length := by
  rw [h.perm.length_eq, List.length_map]
  exact List.length_filter_le _ _
end
theorem meet_is (v : Ver) (lo hi : Int) : meetB lo hi v.ent = decide (mlo v.lo lo < mhi v.hi hi) := by
  unfold meetB mlo mhi
  congr 1
  have : max lo v.ent.lo = if v.lo < lo then lo else v.lo := by
    show max lo v.lo = _
    split <;> omega
  have h2 : min hi v.ent.hi = if hi < v.hi then hi else v.hi := by
    show min hi v.hi = _
    split <;> omega
  rw [this, h2]
set_option maxRecDepth 100000 in
set_option maxHeartbeats 8000000 in
theorem past_said {w : World} {P : Pl} {now known bd : Int} {S : Ky → Int → Int → ByteArray} {mv : Option Nat} {X : List (Ky × Nat)} {Ln : Nat → List Ver × Int} {Fs : Nat → Nat → Prop} (h : PastX w P now known mv X Ln Fs) (hS : Pst X Ln now known bd S) (hb1 : bd ≤ 4000) (k : Ky) (hk : KyOk k) (from_ to lo hi : Int) :
    Calls Tryz.prog 103 #[.pointer (some ⟨P.b, P.o, none⟩), .agg #[.int .i64 k.kind, .int .i64 k.a, .string k.word, .int .i64 k.b], .int .i64 from_, .int .i64 to, .agg #[.int .i64 lo, .int .i64 hi]] w fun e w' => ∃ out, saidX X Ln k from_ to lo hi out ∧ GivesP w out e w' := by
  have HB1 := hide (below_box w (.cells #[.int .i64 k.kind, .int .i64 k.a, .string k.word, .int .i64 k.b] 32))
  have HB2 := hide (below_box (w.alloc (.cells #[.int .i64 k.kind, .int .i64 k.a, .string k.word, .int .i64 k.b] 32)) (.cells #[.int .i64 lo, .int .i64 hi] 34))
  have HB := hide ((unhide HB1).trans ((unhide HB2).mono (unhide HB1).size))
  have e1 : (w.alloc (.cells #[.int .i64 k.kind, .int .i64 k.a, .string k.word, .int .i64 k.b] 32)).heap.size = w.heap.size + 1 := by simp
  have HP := hide (h.below (unhide HB))
  have HK := hide ((boxK_new w k).below (unhide HB2))
  have HSp : Hid (((w.alloc (.cells #[.int .i64 k.kind, .int .i64 k.a, .string k.word, .int .i64 k.b] 32)).alloc (.cells #[.int .i64 lo, .int .i64 hi] 34)).cell? ⟨w.heap.size + 1, 0, none⟩ = some (.int .i64 lo) ∧ ((w.alloc (.cells #[.int .i64 k.kind, .int .i64 k.a, .string k.word, .int .i64 k.b] 32)).alloc (.cells #[.int .i64 lo, .int .i64 hi] 34)).cell? ⟨w.heap.size + 1, 1, none⟩ = some (.int .i64 hi)) := by
    unfold Hid
    rw [← e1]
    exact ⟨by simp, by simp⟩
  have HS := hide hS
  have hpi := ptr_is
  clear h hS e1 HB1 HB2
  have k0 := (unhide HK).c0
  have k1 := (unhide HK).c1
  have k2 := (unhide HK).c2
  have k3 := (unhide HK).c3
  have c2 := (unhide HP).c2
  rcases Classical.em (∃ x, x ∈ X ∧ x.1 = k) with ⟨x, hx, hxk⟩ | hno
  · have hlk := lookL_at ((unhide HP).below (below_drew _)).map x hx
    rw [hxk] at hlk
    unfold keyV at hlk
    go_enter Tryz.func103, Tryz.ntmps103
    go_wp2
    generalize ((w.alloc (.cells #[.int .i64 k.kind, .int .i64 k.a, .string k.word, .int .i64 k.b] 32)).alloc (.cells #[.int .i64 lo, .int .i64 hi] 34)) = W0 at *
    refine wp_region_tail (fun y => y = W0.drew) 6 (by kernel_rfl) (by kernel_rfl) rfl (fun hHeld => ?_)
    refine wpAnyH_take (i := 0) (oi := ?to0_1) (v := ?tv0_1) ?th0_1 (by kernel_rfl) (by kernel_rfl) (by kernel_rfl) ?tq0_1 (Or.inl ⟨?tw0_1, ?ty0_1⟩) (by assumption) ?tr0_1
    case th0_1 => (simp only [List.getElem?_toArray, List.getElem?_cons_zero]; rfl)
    case tq0_1 => exact fun _ _ _ h => h
    case tw0_1 => rfl
    case ty0_1 => (intro w' hSw; (try dsimp only at hSw); go_simp <;> with_reducible rfl)
    try simp only [Act.put, List.setIfInBounds_toArray, List.set_cons_zero, List.set_cons_succ]
    refine wpAnyH_take (i := 1) (oi := ?to1_1) (v := ?tv1_1) ?th1_1 (by kernel_rfl) (by kernel_rfl) (by kernel_rfl) ?tq1_1 (Or.inl ⟨?tw1_1, ?ty1_1⟩) (by assumption) ?tr1_1
    case th1_1 => (simp only [List.getElem?_toArray, List.getElem?_cons_zero, List.getElem?_cons_succ]; rfl)
    case tq1_1 => exact fun _ _ _ h => h
    case tw1_1 => rfl
    case ty1_1 => (intro w' hSw; (try dsimp only at hSw); go_simp <;> with_reducible rfl)
    try simp only [Act.put, List.setIfInBounds_toArray, List.set_cons_zero, List.set_cons_succ]
    refine wpAnyH_take (i := 2) (oi := ?to2_1) (v := ?tv2_1) ?th2_1 (by kernel_rfl) (by kernel_rfl) (by kernel_rfl) ?tq2_1 (Or.inl ⟨?tw2_1, ?ty2_1⟩) (by assumption) ?tr2_1
    case th2_1 => (simp only [List.getElem?_toArray, List.getElem?_cons_zero, List.getElem?_cons_succ]; rfl)
    case tq2_1 => exact fun _ _ _ h => h
    case tw2_1 => rfl
    case ty2_1 => (intro w' hSw; (try dsimp only at hSw); go_simp <;> with_reducible rfl)
    try simp only [Act.put, List.setIfInBounds_toArray, List.set_cons_zero, List.set_cons_succ]
    refine wpAnyH_take (i := 3) (oi := ?to3_1) (v := ?tv3_1) ?th3_1 (by kernel_rfl) (by kernel_rfl) (by kernel_rfl) ?tq3_1 (Or.inl ⟨?tw3_1, ?ty3_1⟩) (by assumption) ?tr3_1
    case th3_1 => (simp only [List.getElem?_toArray, List.getElem?_cons_zero, List.getElem?_cons_succ]; rfl)
    case tq3_1 => exact fun _ _ _ h => h
    case tw3_1 => rfl
    case ty3_1 => (intro w' hSw; (try dsimp only at hSw); go_simp <;> with_reducible rfl)
    try simp only [Act.put, List.setIfInBounds_toArray, List.set_cons_zero, List.set_cons_succ]
    refine wpAnyH_take (i := 4) (oi := ?to4_1) (v := ?tv4_1) ?th4_1 (by kernel_rfl) (by kernel_rfl) (by kernel_rfl) ?tq4_1 (Or.inl ⟨?tw4_1, ?ty4_1⟩) (by assumption) ?tr4_1
    case th4_1 => (simp only [List.getElem?_toArray, List.getElem?_cons_zero, List.getElem?_cons_succ]; rfl)
    case tq4_1 => exact fun _ _ _ h => h
    case tw4_1 => rfl
    case ty4_1 => (intro w' hSw; (try dsimp only at hSw); go_simp <;> with_reducible rfl)
    try simp only [Act.put, List.setIfInBounds_toArray, List.set_cons_zero, List.set_cons_succ]
    refine wpAnyH_take (i := 5) (oi := ?to5_1) (v := ?tv5_1) ?th5_1 (by kernel_rfl) (by kernel_rfl) (by kernel_rfl) ?tq5_1 (Or.inl ⟨?tw5_1, ?ty5_1⟩) (by assumption) ?tr5_1
    case th5_1 => (simp only [List.getElem?_toArray, List.getElem?_cons_zero, List.getElem?_cons_succ]; rfl)
    case tq5_1 => exact fun _ _ _ h => h
    case tw5_1 => rfl
    case ty5_1 => (intro w' hSw; (try dsimp only at hSw); go_simp <;> with_reducible rfl)
    try simp only [Act.put, List.setIfInBounds_toArray, List.set_cons_zero, List.set_cons_succ]
    refine wpAnyH_done (by kernel_rfl) ?_ _
    show wpList _ _ _ _ _ _
    clear hHeld hlk k0 k1 k2 k3 c2
    have HL := hide (((unhide HP).line x hx).below (below_drew W0))
    have HBd := hide ((unhide HB).trans ((below_drew W0).mono (unhide HB).size))
    have s0 : W0.drew.cell? ⟨w.heap.size + 1, 0, none⟩ = some (.int .i64 lo) := (unhide HSp).1
    have s1 : W0.drew.cell? ⟨w.heap.size + 1, 1, none⟩ = some (.int .i64 hi) := (unhide HSp).2
    clear HP HK HB HSp
    obtain ⟨mm, D, G, hLX⟩ := unhide HL
    have HLX := hide hLX
    have v0 := hLX.c0
    have hVl : (Ln x.2).1.length ≤ 4000 := by
      have q1 := ((unhide HS).ok x hx).len
      have q2 := ((unhide HS).m0 x hx).2
      omega
    have HOk := hide ((unhide HS).ok x hx)
    clear hLX HL
    generalize hWd : W0.drew = Wd at *
    clear hWd
    generalize hV : (Ln x.2).1 = V at *
    have HVe := hide hV
    clear hV
    go_wp2_with (first | (at_range; refine wpList_range_own _ rfl _ 179 rfl 3 188 keyedV Tryz.underlying179 verElem mm V.length D rfl (unhide HLX).own ?_; intro w0 hrg0 hg0 hs0))
    try go_frame
    have HS0 : Hid (SdI w x.2 mm Wd.heap.size V.length V (Ln x.2).2 D G (Fs x.2) from_ to lo hi (w.heap.size + 1) (Maps.has D) (Maps.has D) (Maps.size D) (.slice none 0 0) [] w0) := by
      have hb0 := below_grown_none hg0
      have hsl := lt_of_cell s0
      refine ⟨(unhide HLX).below hb0, hrg0, World.ownsRow_nil _ _ _ _, ?_, (unhide HBd).trans (hb0.mono (unhide HBd).size), (unhide HLX).lt, (unhide HBd).size, by omega, hsl, (hb0.cell (p := ⟨w.heap.size + 1, 0, none⟩) hsl).trans s0, (hb0.cell (p := ⟨w.heap.size + 1, 1, none⟩) hsl).trans s1⟩
      rw [List.filter_eq_nil_iff.2 (fun v hv => by rw [(unhide HLX).keys.has v hv]; simp)]
      exact List.Perm.refl _
    have HKv := hide (unhide HLX).keys
    clear hrg0 hg0 hs0 HLX v0 s0 s1 HBd
    go_loopw [12] (fun u y => ∃ left cnt out, SdI w x.2 mm Wd.heap.size V.length V (Ln x.2).2 D G (Fs x.2) from_ to lo hi (w.heap.size + 1) left left cnt u out y) (fun _ y => y.rangeLeft mm Wd.heap.size)
    case atStart => exact ⟨_, _, [], unhide HS0⟩
    case round =>
      clear HS0
      obtain ⟨left, cnt, out, hI⟩ := hrel
      have HI := hide hI
      clear hI
      go_wp2_with (first | (at_next; refine wpList_next_ranges _ rfl _ rfl 3 keyedV verElem (Value.int .i64) verV (fun key kl hkey => by obtain ⟨x, rfl, _⟩ := Maps.keyOf_int_inv Tryz.underlying3 hkey; exact ⟨x, rfl⟩) verElem_inv mm Wd.heap.size V.length D left cnt rfl (unhide HI).rg ?done ?more))
      case done =>
        intro _ hl0
        have HG : Hid (∃ out, saidX X Ln k from_ to lo hi out ∧ GivesP w out (.returned u12) wr) := by
          refine ⟨out, ⟨_, .inl ⟨x, hx, hxk, rfl⟩, ?_⟩, u12, rfl, ownsRow_rebase (show World.ownsRow _ _ _ _ _ _ _ from (unhide HI).row) (Nat.le_succ_of_le (unhide HI).wr), (unhide HI).low⟩
          have q := (unhide HI).perm
          unfold saidV metV
          rw [unhide HVe, List.filter_filter]
          refine q.trans (List.Perm.of_eq ?_)
          congr 1
          refine List.filter_congr fun v _ => ?_
          rw [hl0]
          rfl
        obtain ⟨ad, c, rfl⟩ := row_slice (show World.ownsRow _ _ _ _ _ _ _ from (unhide HI).row)
        clear hl0 HI
        go_wp2
        go_ret
        exact unhide HG
      case more =>
        intro xk c kl y ps w1 cnt1 hkey hlx hv hat hrg1 hlt hg1 hs1 hen
        obtain ⟨x', ex, rfl, hwx⟩ := Maps.keyOf_int_inv Tryz.underlying3 hkey
        cases ex
        obtain ⟨v, hvV, rfl, hc⟩ := (unhide HKv).met hv hat
        rw [hc] at hen ⊢
        unfold verV at hen ⊢
        have HL1 := hide ((unhide HI).came hg1 hrg1)
        have HB2 := hide (below_box w1 (.cells #[.int .i64 v.lo, .int .i64 v.hi, .string v.val, .int .i64 v.s0, .int .i64 v.s1] 188))
        have HL2 := hide ((unhide HL1).below (unhide HB2))
        have p0 : (w1.alloc (.cells #[.int .i64 v.lo, .int .i64 v.hi, .string v.val, .int .i64 v.s0, .int .i64 v.s1] 188)).cell? ⟨w1.heap.size, 0, none⟩ = some (.int .i64 v.lo) := by simp
        have p1 : (w1.alloc (.cells #[.int .i64 v.lo, .int .i64 v.hi, .string v.val, .int .i64 v.s0, .int .i64 v.s1] 188)).cell? ⟨w1.heap.size, 1, none⟩ = some (.int .i64 v.hi) := by simp
        have p2 : (w1.alloc (.cells #[.int .i64 v.lo, .int .i64 v.hi, .string v.val, .int .i64 v.s0, .int .i64 v.s1] 188)).cell? ⟨w1.heap.size, 2, none⟩ = some (.string v.val) := by simp
        have p3 : (w1.alloc (.cells #[.int .i64 v.lo, .int .i64 v.hi, .string v.val, .int .i64 v.s0, .int .i64 v.s1] 188)).cell? ⟨w1.heap.size, 3, none⟩ = some (.int .i64 v.s0) := by simp
        have p4 : (w1.alloc (.cells #[.int .i64 v.lo, .int .i64 v.hi, .string v.val, .int .i64 v.s0, .int .i64 v.s1] 188)).cell? ⟨w1.heap.size, 4, none⟩ = some (.int .i64 v.s1) := by simp
        have t0 := (unhide HL2).s0
        have t1 := (unhide HL2).s1
        have HMs := hide hlt
        have HCt := hide (unhide HI).rg.left_eq
        have HLk := hide hlx
        have HVV := hide hvV
        have HOn : Hid (∀ z, z ∈ V → z.n = v.n → z = v) := fun z hz e => one_of (unhide HOk) hz hvV e
        have hmt := meet_is v lo hi
        clear hkey hv hat hrg1 hlt hlx hg1 hs1 hc HI HL1 HB2 hvV
        by_cases hm : mlo v.lo lo < mhi v.hi hi
        · rw [decide_eq_true hm] at hmt
          have HM := hide hm
          clear hm
          go_wp2_with fail
          refine (span_Meet_yes v.lo v.hi lo hi _ (by have := unhide HM; omega)).mono ?_
          rintro e Wm ⟨rfl, bm⟩
          have HB3 := hide (below_box Wm (.cells #[.int .i64 (mlo v.lo lo), .int .i64 (mhi v.hi hi)] 34))
          have hbm := bm.trans ((unhide HB3).mono bm.size)
          have r0 := (hbm.cell (p := ⟨w1.heap.size, 0, none⟩) (lt_of_cell p0)).trans p0
          have r1 := (hbm.cell (p := ⟨w1.heap.size, 1, none⟩) (lt_of_cell p1)).trans p1
          have r2 := (hbm.cell (p := ⟨w1.heap.size, 2, none⟩) (lt_of_cell p2)).trans p2
          have r3 := (hbm.cell (p := ⟨w1.heap.size, 3, none⟩) (lt_of_cell p3)).trans p3
          have r4 := (hbm.cell (p := ⟨w1.heap.size, 4, none⟩) (lt_of_cell p4)).trans p4
          have HL4 := hide ((unhide HL2).below hbm)
          clear bm hbm p0 p1 p2 p3 p4 t0 t1 HL2 hen HB3
          by_cases q1 : v.s0 ≤ to
          · by_cases q2 : from_ < v.s1
            · have HLv : Hid ((liveB from_ to v && meetB lo hi v.ent) = true) := by
                unfold Hid
                rw [hmt]
                unfold liveB
                rw [decide_eq_true ⟨q1, q2⟩]
                rfl
              have HB5 := hide (below_box (Wm.alloc (.cells #[.int .i64 (mlo v.lo lo), .int .i64 (mhi v.hi hi)] 34)) (.cells #[.int .i64 v.lo, .int .i64 v.hi, .string v.val] 177))
              have HL5 := hide ((unhide HL4).below (unhide HB5))
              have hsh : out.length ≤ 4000 := Nat.le_trans (unhide HL4).short hVl
              have hrs := (unhide HL5).rs
              have y0 : ((Wm.alloc (.cells #[.int .i64 (mlo v.lo lo), .int .i64 (mhi v.hi hi)] 34)).alloc (.cells #[.int .i64 v.lo, .int .i64 v.hi, .string v.val] 177)).cell? ⟨Wm.heap.size + 1, 0, none⟩ = some (.int .i64 v.lo) := by
                rw [show Wm.heap.size + 1 = (Wm.alloc (.cells #[.int .i64 (mlo v.lo lo), .int .i64 (mhi v.hi hi)] 34)).heap.size by simp]
                simp
              have y1 : ((Wm.alloc (.cells #[.int .i64 (mlo v.lo lo), .int .i64 (mhi v.hi hi)] 34)).alloc (.cells #[.int .i64 v.lo, .int .i64 v.hi, .string v.val] 177)).cell? ⟨Wm.heap.size + 1, 1, none⟩ = some (.int .i64 v.hi) := by
                rw [show Wm.heap.size + 1 = (Wm.alloc (.cells #[.int .i64 (mlo v.lo lo), .int .i64 (mhi v.hi hi)] 34)).heap.size by simp]
                simp
              have y2 : ((Wm.alloc (.cells #[.int .i64 (mlo v.lo lo), .int .i64 (mhi v.hi hi)] 34)).alloc (.cells #[.int .i64 v.lo, .int .i64 v.hi, .string v.val] 177)).cell? ⟨Wm.heap.size + 1, 2, none⟩ = some (.string v.val) := by
                rw [show Wm.heap.size + 1 = (Wm.alloc (.cells #[.int .i64 (mlo v.lo lo), .int .i64 (mhi v.hi hi)] 34)).heap.size by simp]
                simp
              have hd3 : out.length < 1099511627776 := by omega
              have HY0 := hide y0
              have HY1 := hide y1
              have HY2 := hide y2
              have HD3 := hide hd3
              have HD4 : Hid (Wd.heap.size + 1 ≤ ((Wm.alloc (.cells #[.int .i64 (mlo v.lo lo), .int .i64 (mhi v.hi hi)] 34)).alloc (.cells #[.int .i64 v.lo, .int .i64 v.hi, .string v.val] 177)).heap.size) := hrs
              clear HL4 hmt y0 y1 y2 hd3 hrs
              go_wp2_with (first
                | (at_builtin; refine wpList_appP _ rfl (.tmp 57) (.tmp 60) rfl (Wd.heap.size + 1) _ out rfl (unhide HL5).row (Wm.heap.size + 1) v.lo v.hi v.val rfl (unhide HY0) (unhide HY1) (unhide HY2) (unhide HD3) (unhide HD4) ?_))
              intro v2 w2 e1 e2
              have e1' : RowP w2 (Wd.heap.size + 1) v2 (out ++ [v.pc]) := by
                unfold RowP
                rw [List.length_append]
                exact e1
              have HL6 := hide ((unhide HL5).add (unhide HOk).rising (unhide HVV) (unhide HLk) (unhide HLv) e2 e1')
              obtain ⟨ad2, cap2, rfl⟩ := row_slice (show World.ownsRow _ _ _ _ _ _ _ from e1)
              have HCn : Hid (w2.rangeLeft mm Wd.heap.size < wr.rangeLeft mm Wd.heap.size) := by
                have := unhide HMs
                show _ < _
                rw [(unhide HL6).rg.left_eq, unhide HCt]
                omega
              clear e1 e1' e2 HL5 HB5 r0 r1 r2 r3 r4 HY0 HY1 HY2 HD3 HD4
              go_wp2
              go_roundw
              case rel => exact ⟨_, _, _, unhide HL6⟩
              case measure => exact unhide HCn
            · have HL6 := hide ((unhide HL4).skip (unhide HOn) (by unfold liveB; rw [decide_eq_false (fun z => q2 z.2)]; rfl))
              have HCn : Hid ((Wm.alloc (.cells #[.int .i64 (mlo v.lo lo), .int .i64 (mhi v.hi hi)] 34)).rangeLeft mm Wd.heap.size < wr.rangeLeft mm Wd.heap.size) := by
                have := unhide HMs
                show _ < _
                rw [(unhide HL6).rg.left_eq, unhide HCt]
                omega
              clear HL4 hmt
              go_wp2
              go_roundw
              case rel => exact ⟨_, _, _, unhide HL6⟩
              case measure => exact unhide HCn
          · have HL6 := hide ((unhide HL4).skip (unhide HOn) (by unfold liveB; rw [decide_eq_false (fun z => q1 z.1)]; rfl))
            have HCn : Hid ((Wm.alloc (.cells #[.int .i64 (mlo v.lo lo), .int .i64 (mhi v.hi hi)] 34)).rangeLeft mm Wd.heap.size < wr.rangeLeft mm Wd.heap.size) := by
              have := unhide HMs
              show _ < _
              rw [(unhide HL6).rg.left_eq, unhide HCt]
              omega
            clear HL4 hmt
            go_wp2
            go_roundw
            case rel => exact ⟨_, _, _, unhide HL6⟩
            case measure => exact unhide HCn
        · rw [decide_eq_false hm] at hmt
          have HM := hide hm
          clear hm
          go_wp2_with fail
          refine (span_Meet_no v.lo v.hi lo hi _ (by have := unhide HM; omega)).mono ?_
          rintro e Wm ⟨rfl, bm⟩
          have HB3 := hide (below_box Wm (.cells #[.int .i64 0, .int .i64 0] 34))
          have HL6 := hide (((unhide HL2).below (bm.trans ((unhide HB3).mono bm.size))).skip (unhide HOn) (by rw [hmt]; simp))
          have HCn : Hid ((Wm.alloc (.cells #[.int .i64 0, .int .i64 0] 34)).rangeLeft mm Wd.heap.size < wr.rangeLeft mm Wd.heap.size) := by
            have := unhide HMs
            show _ < _
            rw [(unhide HL6).rg.left_eq, unhide HCt]
            omega
          clear bm p0 p1 p2 p3 p4 t0 t1 HL2 hen HB3 hmt
          go_wp2
          go_roundw
          case rel => exact ⟨_, _, _, unhide HL6⟩
          case measure => exact unhide HCn
  · have hno' : ∀ x, x ∈ X → x.1 ≠ k := fun x hx e => hno ⟨x, hx, e⟩
    have hlk := lookL_none ((unhide HP).below (below_drew _)).map k hk hno'
    unfold keyV at hlk
    go_enter Tryz.func103, Tryz.ntmps103
    go_wp2
    generalize ((w.alloc (.cells #[.int .i64 k.kind, .int .i64 k.a, .string k.word, .int .i64 k.b] 32)).alloc (.cells #[.int .i64 lo, .int .i64 hi] 34)) = W0 at *
    refine wp_region_tail (fun y => y = W0.drew) 6 (by kernel_rfl) (by kernel_rfl) rfl (fun hHeld => ?_)
    refine wpAnyH_take (i := 0) (oi := ?to0_2) (v := ?tv0_2) ?th0_2 (by kernel_rfl) (by kernel_rfl) (by kernel_rfl) ?tq0_2 (Or.inl ⟨?tw0_2, ?ty0_2⟩) (by assumption) ?tr0_2
    case th0_2 => (simp only [List.getElem?_toArray, List.getElem?_cons_zero]; rfl)
    case tq0_2 => exact fun _ _ _ h => h
    case tw0_2 => rfl
    case ty0_2 => (intro w' hSw; (try dsimp only at hSw); go_simp <;> with_reducible rfl)
    try simp only [Act.put, List.setIfInBounds_toArray, List.set_cons_zero, List.set_cons_succ]
    refine wpAnyH_take (i := 1) (oi := ?to1_2) (v := ?tv1_2) ?th1_2 (by kernel_rfl) (by kernel_rfl) (by kernel_rfl) ?tq1_2 (Or.inl ⟨?tw1_2, ?ty1_2⟩) (by assumption) ?tr1_2
    case th1_2 => (simp only [List.getElem?_toArray, List.getElem?_cons_zero, List.getElem?_cons_succ]; rfl)
    case tq1_2 => exact fun _ _ _ h => h
    case tw1_2 => rfl
    case ty1_2 => (intro w' hSw; (try dsimp only at hSw); go_simp <;> with_reducible rfl)
    try simp only [Act.put, List.setIfInBounds_toArray, List.set_cons_zero, List.set_cons_succ]
    refine wpAnyH_take (i := 2) (oi := ?to2_2) (v := ?tv2_2) ?th2_2 (by kernel_rfl) (by kernel_rfl) (by kernel_rfl) ?tq2_2 (Or.inl ⟨?tw2_2, ?ty2_2⟩) (by assumption) ?tr2_2
    case th2_2 => (simp only [List.getElem?_toArray, List.getElem?_cons_zero, List.getElem?_cons_succ]; rfl)
    case tq2_2 => exact fun _ _ _ h => h
    case tw2_2 => rfl
    case ty2_2 => (intro w' hSw; (try dsimp only at hSw); go_simp <;> with_reducible rfl)
    try simp only [Act.put, List.setIfInBounds_toArray, List.set_cons_zero, List.set_cons_succ]
    refine wpAnyH_take (i := 3) (oi := ?to3_2) (v := ?tv3_2) ?th3_2 (by kernel_rfl) (by kernel_rfl) (by kernel_rfl) ?tq3_2 (Or.inl ⟨?tw3_2, ?ty3_2⟩) (by assumption) ?tr3_2
    case th3_2 => (simp only [List.getElem?_toArray, List.getElem?_cons_zero, List.getElem?_cons_succ]; rfl)
    case tq3_2 => exact fun _ _ _ h => h
    case tw3_2 => rfl
    case ty3_2 => (intro w' hSw; (try dsimp only at hSw); go_simp <;> with_reducible rfl)
    try simp only [Act.put, List.setIfInBounds_toArray, List.set_cons_zero, List.set_cons_succ]
    refine wpAnyH_take (i := 4) (oi := ?to4_2) (v := ?tv4_2) ?th4_2 (by kernel_rfl) (by kernel_rfl) (by kernel_rfl) ?tq4_2 (Or.inl ⟨?tw4_2, ?ty4_2⟩) (by assumption) ?tr4_2
    case th4_2 => (simp only [List.getElem?_toArray, List.getElem?_cons_zero, List.getElem?_cons_succ]; rfl)
    case tq4_2 => exact fun _ _ _ h => h
    case tw4_2 => rfl
    case ty4_2 => (intro w' hSw; (try dsimp only at hSw); go_simp <;> with_reducible rfl)
    try simp only [Act.put, List.setIfInBounds_toArray, List.set_cons_zero, List.set_cons_succ]
    refine wpAnyH_take (i := 5) (oi := ?to5_2) (v := ?tv5_2) ?th5_2 (by kernel_rfl) (by kernel_rfl) (by kernel_rfl) ?tq5_2 (Or.inl ⟨?tw5_2, ?ty5_2⟩) (by assumption) ?tr5_2
    case th5_2 => (simp only [List.getElem?_toArray, List.getElem?_cons_zero, List.getElem?_cons_succ]; rfl)
    case tq5_2 => exact fun _ _ _ h => h
    case tw5_2 => rfl
    case ty5_2 => (intro w' hSw; (try dsimp only at hSw); go_simp <;> with_reducible rfl)
    try simp only [Act.put, List.setIfInBounds_toArray, List.set_cons_zero, List.set_cons_succ]
    refine wpAnyH_done (by kernel_rfl) ?_ _
    show wpList _ _ _ _ _ _
    clear hHeld hlk k0 k1 k2 k3 c2
    have HBd := hide ((unhide HB).trans ((below_drew W0).mono (unhide HB).size))
    clear HP HK HB HSp
    go_wp2
    go_ret
    exact ⟨[], ⟨[], .inr ⟨hno', rfl⟩, List.Perm.refl _⟩, _, rfl, by simpa [encP] using World.ownsRow_nil _ _ _ _, unhide HBd⟩
end Go.Proofs.YtfoojmflbifkpaaGreatDoor

/- The value of a key, of a time: walked. -/
namespace Go.Proofs.YtfoojmflbifkpaaGreatDoor
open Go.RowKit Go.Maps
def countErr (now known at_ : Int) : Int := if at_ < 0 ∨ now < at_ then 2 else if at_ < known then 7 else 0
set_option maxHeartbeats 1000000 in
theorem past_count {w : World} {P : Pl} {now known : Int} (c0 : w.cell? ⟨P.b, P.o, none⟩ = some (.int .i64 now)) (c1 : w.cell? ⟨P.b, P.o + 1, none⟩ = some (.int .i64 known)) (at_ : Int) :
    Calls Tryz.prog 99 #[.pointer (some ⟨P.b, P.o, none⟩), .int .i64 at_] w fun e w' => e = .returned (errV (countErr now known at_)) ∧ w' = w := by
  by_cases h1 : at_ < 0
  · have e : Hid (countErr now known at_ = 2) := by unfold Hid countErr; rw [if_pos (.inl h1)]
    go_enter Tryz.func99, Tryz.ntmps99
    go_wp2
    go_ret
    exact ⟨by rw [unhide e]; rfl, rfl⟩
  · by_cases h2 : now < at_
    · have e : Hid (countErr now known at_ = 2) := by unfold Hid countErr; rw [if_pos (.inr h2)]
      go_enter Tryz.func99, Tryz.ntmps99
      go_wp2
      go_ret
      exact ⟨by rw [unhide e]; rfl, rfl⟩
    · by_cases h3 : at_ < known
      · have e : Hid (countErr now known at_ = 7) := by unfold Hid countErr; rw [if_neg (by omega), if_pos h3]
        go_enter Tryz.func99, Tryz.ntmps99
        go_wp2
        go_ret
        exact ⟨by rw [unhide e]; rfl, rfl⟩
      · have e : Hid (countErr now known at_ = 0) := by unfold Hid countErr; rw [if_neg (by omega), if_neg h3]
        go_enter Tryz.func99, Tryz.ntmps99
        go_wp2
        go_ret
        exact ⟨by rw [unhide e]; rfl, rfl⟩
set_option maxHeartbeats 1000000 in
theorem past_moment (t : Int) (w : World) (h0 : -1099511627776 ≤ t) (h1 : t < 1099511627776) :
    Calls Tryz.prog 102 #[.int .i64 t] w fun e w' => e = .returned (.agg #[.int .i64 t, .int .i64 (t + 1)]) ∧ Below w.heap.size w w' := by
  go_enter Tryz.func102, Tryz.ntmps102
  go_wp2
  exact bodyPost_ret (v := .agg #[.int .i64 t, .int .i64 (t + 1)]) (by simp [results, Tryz.results102, go_sem]) rfl ⟨rfl, below_box _ _⟩
theorem metV_iff {V : List Ver} {lo hi : Int} (_hR : rightB lo hi = true) {v : Ver} : v ∈ metV V lo hi ↔ v ∈ V ∧ meetB lo hi v.ent = true := by
  unfold metV
  rw [List.mem_filter]
theorem said_value {X : List (Ky × Nat)} {Ln : Nat → List Ver × Int} {now known bd : Int} {S : Ky → Int → Int → ByteArray} (h : Pst X Ln now known bd S) {k : Ky} {at_ t : Int} (h1 : known ≤ at_) (h2 : at_ ≤ now) (hR : rightB t (t + 1) = true) {out : List (Int × Int × ByteArray)} (ho : saidX X Ln k at_ at_ t (t + 1) out) :
    (out = [] ∧ S k at_ t = ByteArray.empty) ∨ ∃ p r, out = p :: r ∧ p.2.2 = S k at_ t := by
  obtain ⟨o, ho, hp⟩ := ho
  rcases ho with ⟨x, hx, rfl, rfl⟩ | ⟨hno, rfl⟩
  · obtain ⟨k1, k2⟩ := h.tells x hx at_ h1 h2 t
    have lv : ∀ v, v ∈ (metV (Ln x.2).1 t (t + 1)).filter (liveB at_ at_) ↔ v ∈ (Ln x.2).1 ∧ v.live at_ ∧ v.has t := fun v => by
      rw [List.mem_filter, metV_iff hR]
      unfold liveB meetB
      rw [decide_eq_true_eq, decide_eq_true_eq]
      constructor
      · rintro ⟨⟨q1, q2⟩, q3⟩
        have q2' : max t v.lo < min (t + 1) v.hi := q2
        exact ⟨q1, ⟨q3.1, q3.2⟩, ⟨by omega, by omega⟩⟩
      · rintro ⟨q1, q2, q3⟩
        have a : v.lo ≤ t := q3.1
        have b : t < v.hi := q3.2
        refine ⟨⟨q1, ?_⟩, q2.1, q2.2⟩
        show max t v.lo < min (t + 1) v.hi
        omega
    rcases out with _ | ⟨p, r⟩
    · left
      refine ⟨rfl, ?_⟩
      rcases Classical.em (S x.1 at_ t = ByteArray.empty) with e | e
      · exact e
      · obtain ⟨v, hv, hl, hh⟩ := k2 e
        have := hp.mem_iff.2 (List.mem_map.2 ⟨v, (lv v).2 ⟨hv, hl, hh⟩, rfl⟩)
        cases this
    · right
      obtain ⟨v, hv, e⟩ := List.mem_map.1 (hp.mem_iff.1 (show p ∈ p :: r by simp))
      obtain ⟨hv, hl, hh⟩ := (lv v).1 hv
      exact ⟨p, r, rfl, by rw [← e]; exact k1 v hv hl hh⟩
  · exact .inl ⟨List.perm_nil.1 hp, h.none k hno at_ h1 h2 t⟩
theorem own_pieces {w : World} {base : Nat} {v : Value} {l : List (Int × Int × ByteArray)} (h : w.ownsRow base 177 3 v l.length (encP l)) : ∃ g ad c, v = .slice ad l.length c ∧ ∀ j, (hj : j < l.length) → ad = some ⟨g, 0, none⟩ ∧ base ≤ g ∧ w.cell? ⟨g, j * 3, none⟩ = some (.int .i64 l[j].1) ∧ w.cell? ⟨g, j * 3 + 1, none⟩ = some (.int .i64 l[j].2.1) ∧ w.cell? ⟨g, j * 3 + 2, none⟩ = some (.string l[j].2.2) := by
  obtain ⟨_, h2⟩ := h
  rcases h2 with ⟨h2, h3⟩ | ⟨g, cap, cur, hv, hg, hh, h3, h4, h5, h6⟩
  · exact ⟨0, none, 0, by rw [h2, h3], fun j hj => by omega⟩
  · refine ⟨g, _, cap, hv, fun j hj => ⟨rfl, hg, ?_⟩⟩
    have hc0 : cur.toList[j * 3]? = some (.int .i64 l[j].1) := by
      rw [← List.getElem?_take_of_lt (show j * 3 < l.length * 3 by omega), h6]; exact (encP_at l j hj).1
    have hc1 : cur.toList[j * 3 + 1]? = some (.int .i64 l[j].2.1) := by
      rw [← List.getElem?_take_of_lt (show j * 3 + 1 < l.length * 3 by omega), h6]; exact (encP_at l j hj).2.1
    have hc2 : cur.toList[j * 3 + 2]? = some (.string l[j].2.2) := by
      rw [← List.getElem?_take_of_lt (show j * 3 + 2 < l.length * 3 by omega), h6]; exact (encP_at l j hj).2.2
    unfold World.cell?
    simp only [hh]
    rw [← Array.getElem?_toList, ← Array.getElem?_toList, ← Array.getElem?_toList]
    exact ⟨hc0, hc1, hc2⟩
set_option maxRecDepth 100000 in
set_option maxHeartbeats 4000000 in
theorem value_ok {w : World} {P : Pl} {now known bd : Int} {S : Ky → Int → Int → ByteArray} {F : Nat → Prop} (h : PastW w P now known bd S F) (hb1 : bd ≤ 4000) (k : Ky) (hk : KyOk k) (hkb : keyB k.kind k.a k.word k.b = true) (at_ t : Int) (h0 : 0 ≤ at_) (h1 : known ≤ at_) (h2 : at_ ≤ now) (t0 : -1099511627776 ≤ t) (t1 : t < 1099511627776) :
    Calls Tryz.prog 49 #[.pointer (some ⟨P.b, P.o, none⟩), .agg #[.int .i64 k.kind, .int .i64 k.a, .string k.word, .int .i64 k.b], .int .i64 at_, .int .i64 t] w fun e w' => e = .returned (.tuple #[.string (S k at_ t), .nilIface]) ∧ Below w.heap.size w w' := by
  have HB1 := hide (below_box w (.cells #[.int .i64 k.kind, .int .i64 k.a, .string k.word, .int .i64 k.b] 32))
  have HP := hide (h.below (unhide HB1))
  have HK := hide (boxK_new w k)
  have hR : rightB t (t + 1) = true := decide_eq_true ⟨t0, by omega, by omega⟩
  have hce : errV (countErr now known at_) = .nilIface := by
    have : countErr now known at_ = 0 := by unfold countErr; rw [if_neg (by omega), if_neg (by omega)]
    rw [this]; rfl
  have HC : Hid (∀ W, PastW W P now known bd S F → Calls Tryz.prog 99 #[.pointer (some ⟨P.b, P.o, none⟩), .int .i64 at_] W fun e w' => e = .returned .nilIface ∧ w' = W) := fun W hW => by
    obtain ⟨mv, X, Ln, Fs, p, _⟩ := hW
    rw [← hce]
    exact past_count p.c0 p.c1 at_
  have HKy := hide (fun W => fact_Key k.kind k.a k.word k.b W hk.word)
  rw [hkb] at HKy
  have HM := hide (fun W => past_moment t W t0 t1)
  have HRt := hide (fun W => span_Right t (t + 1) W)
  rw [hR] at HRt
  have k0 := (unhide HK).c0
  have k1 := (unhide HK).c1
  have k2 := (unhide HK).c2
  have k3 := (unhide HK).c3
  have HRr := hide hR
  clear h hce hkb hR
  go_enter Tryz.func49, Tryz.ntmps49
  go_wp2_with fail
  generalize w.alloc (.cells #[.int .i64 k.kind, .int .i64 k.a, .string k.word, .int .i64 k.b] 32) = W0 at *
  refine (unhide HC _ (unhide HP)).mono ?_
  rintro e W1 ⟨rfl, rfl⟩
  go_wp2_with fail
  refine (unhide HKy _).mono ?_
  rintro e W2 ⟨rfl, hW2⟩
  have b2 : Below W1.heap.size W1 W2 := by rw [hW2]; exact below_box _ _
  have HP2 := hide ((unhide HP).below b2)
  have HK2 := hide ((unhide HK).below b2)
  have HB2 := hide ((unhide HB1).trans (b2.mono (unhide HB1).size))
  clear hW2 b2 HP HK HB1 k0 k1 k2 k3 HC HKy
  go_wp2_with fail
  refine (unhide HM _).mono ?_
  rintro e W3 ⟨rfl, b3⟩
  have HP3 := hide ((unhide HP2).below b3)
  have HK3 := hide ((unhide HK2).below b3)
  have HB3 := hide ((unhide HB2).trans (b3.mono (unhide HB2).size))
  clear b3 HP2 HK2 HB2
  go_wp2_with fail
  refine (unhide HRt _).mono ?_
  rintro e W4 ⟨rfl, hW4⟩
  have b4 : Below W3.heap.size W3 W4 := by rw [hW4]; exact below_box _ _
  have HP4 := hide ((unhide HP3).below b4)
  have HK4 := hide ((unhide HK3).below b4)
  have HB4 := hide ((unhide HB3).trans (b4.mono (unhide HB3).size))
  clear hW4 b4 HP3 HK3 HB3 HRt
  go_wp2
  have k0 := (unhide HK4).c0
  have k1 := (unhide HK4).c1
  have k2 := (unhide HK4).c2
  have k3 := (unhide HK4).c3
  obtain ⟨mv, X, Ln, Fs, pX, pS, _, _⟩ := unhide HP4
  have HPX := hide pX
  have HPS := hide pS
  clear pX pS
  go_region_held3 (fun y => y.cell? ⟨w.heap.size, 0, none⟩ = some (.int .i64 k.kind) ∧ y.cell? ⟨w.heap.size, 1, none⟩ = some (.int .i64 k.a) ∧ y.cell? ⟨w.heap.size, 2, none⟩ = some (.string k.word) ∧ y.cell? ⟨w.heap.size, 3, none⟩ = some (.int .i64 k.b))
    (first | exact vs2 | exact vs1 | exact ⟨k0, k1, k2, k3⟩)
    (first
      | (go_at_call 103; refine (past_said ((unhide HPX).below bm') (unhide HPS) hb1 k hk at_ at_ t (t + 1)).mono ?_; rintro e Ws ⟨out, hx, v, rfl, ho, bs⟩; have vs2 : Ws.cell? ⟨w.heap.size, 0, none⟩ = some (.int .i64 k.kind) ∧ Ws.cell? ⟨w.heap.size, 1, none⟩ = some (.int .i64 k.a) ∧ Ws.cell? ⟨w.heap.size, 2, none⟩ = some (.string k.word) ∧ Ws.cell? ⟨w.heap.size, 3, none⟩ = some (.int .i64 k.b) := ⟨(vk1.below bs).c0, (vk1.below bs).c1, (vk1.below bs).c2, (vk1.below bs).c3⟩; obtain ⟨g, ad, c, rfl, hf⟩ := own_pieces ho)
      | (go_at_call 102; refine (unhide HM _).mono ?_; rintro e Wm ⟨rfl, bm⟩; have bm' := (below_drew W4).trans bm; have vk1 := (unhide HK4).below bm'; have vs1 : Wm.cell? ⟨w.heap.size, 0, none⟩ = some (.int .i64 k.kind) ∧ Wm.cell? ⟨w.heap.size, 1, none⟩ = some (.int .i64 k.a) ∧ Wm.cell? ⟨w.heap.size, 2, none⟩ = some (.string k.word) ∧ Wm.cell? ⟨w.heap.size, 3, none⟩ = some (.int .i64 k.b) := ⟨vk1.c0, vk1.c1, vk1.c2, vk1.c3⟩))
  rename_i hh
  have HBs := hide ((unhide HB4).trans ((bm'.trans (bs.mono bm'.size)).mono (unhide HB4).size))
  have hsv := said_value (unhide HPS) h1 h2 (unhide HRr) hx
  clear hh vs1 vs2 vk1 bm bm' bs ho hx HPX HPS HP4 HK4 HB4 k0 k1 k2 k3 HM HRr
  rcases hsv with ⟨rfl, hs⟩ | ⟨p, r, rfl, hs⟩
  · have HSv := hide hs
    clear hs hf
    go_wp2
    go_ret2
    exact ⟨by rw [unhide HSv]; rfl, unhide HBs⟩
  · obtain ⟨rfl, _, _, _, q2⟩ := hf 0 (by simp)
    have HSv := hide hs
    clear hs hf
    have q2' : Ws.cell? ⟨g, 2, none⟩ = some (.string p.2.2) := by simpa using q2
    clear q2
    generalize hn : (p :: r).length = n
    have hn0 : (0 : Int) < (n : Int) := by rw [← hn]; simp
    have hn1 : ¬ (n : Int) = 0 := by omega
    clear hn
    go_wp2
    go_ret2
    exact ⟨by rw [← unhide HSv]; rfl, unhide HBs⟩
end Go.Proofs.YtfoojmflbifkpaaGreatDoor

/- slices.SortFunc of a slice of pieces that is the call's own: the same pieces, by their first times. -/
namespace Go.Proofs.YtfoojmflbifkpaaGreatDoor
open Go.RowKit Go.Sort Go.Shelf Go.Lib
theorem heap_sortedG {w : World} {g n : Nat} {os : Array Obj} {cur : Array Value} {e : TypeId} {fr : Nat × Nat} (d : Array Value) (hb : w.heap[g]? = some (.cells cur e fr)) :
    (grow (putRow id (Sort.ahead w n) g 0 d) os).heap[g]? = some (.cells (putCells id 0 d cur) e fr) := by
  have hg : g < w.heap.size := (Array.getElem?_eq_some_iff.1 hb).1
  rw [heap_grow_old _ _ (by simpa using hg)]
  simp [putRow, mapBlock, Sort.ahead, Array.getElem?_modify, hb, onCells]
theorem grownBy_sortedG {w : World} {g n : Nat} {os : Array Obj} (d : Array Value) : w.grownBy (grow (putRow id (Sort.ahead w n) g 0 d) os) (some g) := by
  refine ⟨rfl, rfl, rfl, by simp, fun k hk hne => ?_⟩
  rw [heap_grow_old _ _ (by simpa using hk)]
  have : g ≠ k := fun e => hne (by rw [e])
  simp [putRow, mapBlock, Sort.ahead, Array.getElem?_modify, this]
theorem take_putCellsG (cur d : Array Value) (h : d.size ≤ cur.size) : (putCells id 0 d cur).toList.take d.size = d.toList := by
  apply List.ext_getElem?
  intro j
  by_cases hj : j < d.size
  · rw [List.getElem?_take_of_lt hj, Array.getElem?_toList]
    simp [putCells, hj, show j < cur.size by omega]
  · rw [List.getElem?_take_eq_none (by omega), List.getElem?_eq_none (by simp; omega)]
end Go.Proofs.YtfoojmflbifkpaaGreatDoor

/- Pieces that touch, and are alike, as one: walked. -/
namespace Go.Proofs.YtfoojmflbifkpaaGreatDoor
open Go.RowKit Go.Maps
end Go.Proofs.YtfoojmflbifkpaaGreatDoor
