/- Texts of one proof, one behind the other. -/
import Derived.Test.YtfoojmflbifkpaaGreatDoorBk
import Derived.Test.YtfoojmflbifkpaaGreatDoorBi
import Derived.Laws.IdiomRangeMap
import Derived.LoopN

/- What transactions say of a key, of a time: plain; and that a past says so. -/
namespace Go.Proofs.YtfoojmflbifkpaaGreatDoor
open Go.RowKit Go.Maps
def stepV (k : Ky) (t : Int) (v : ByteArray) (o : Fop) : ByteArray := if sameK (kyO o) k && decide (o.lo ≤ t ∧ t < o.hi) then o.value else v
def lastV (k : Ky) (t : Int) (v : ByteArray) (l : List Fop) : ByteArray := l.foldl (stepV k t) v
def refS (txs : List (List Fop)) (k : Ky) (c : Nat) (t : Int) : ByteArray := (txs.take c).foldl (lastV k t) ⟨#[]⟩
def refI (txs : List (List Fop)) (k : Ky) (c t : Int) : ByteArray := refS txs k c.toNat t
theorem lastV_snoc (k : Ky) (t : Int) (v : ByteArray) (l : List Fop) (o : Fop) : lastV k t v (l ++ [o]) = stepV k t (lastV k t v l) o := by simp [lastV]
theorem refS_snoc (txs : List (List Fop)) (k : Ky) (t : Int) (c : Nat) (h : c < txs.length) : refS txs k (c + 1) t = lastV k t (refS txs k c t) txs[c] := by
  unfold refS
  rw [List.take_succ_eq_append_getElem h, List.foldl_append]
  rfl
theorem sayL_last (now : Int) (k : Ky) (t : Int) : ∀ (l : List Fop) (S : Ky → Int → Int → ByteArray), sayL S now l k now t = lastV k t (S k now t) l
  | [], _ => rfl
  | o :: l, S => by
    have e : setS S (kyO o) now o.lo o.hi o.value k now t = stepV k t (S k now t) o := by
      unfold setS stepV
      by_cases h : kyO o = k
      · subst h
        by_cases q : o.lo ≤ t ∧ t < o.hi
        · rw [if_pos ⟨sameK_iff.2 rfl, rfl, q.1, q.2⟩, sameK_iff.2 rfl, decide_eq_true q]
          rfl
        · rw [if_neg (fun z => q z.2.2), decide_eq_false q, Bool.and_false]
          rfl
      · have e1 : sameK (kyO o) k = false := by
          cases z : sameK (kyO o) k with
          | false => rfl
          | true => exact absurd (sameK_iff.1 z) h
        rw [if_neg (fun z => h (sameK_iff.1 z.1).symm), e1, Bool.false_and]
        rfl
    show sayL (setS S (kyO o) now o.lo o.hi o.value) now l k now t = lastV k t (stepV k t (S k now t) o) l
    rw [sayL_last now k t l, e]
theorem sayL_old (S : Ky → Int → Int → ByteArray) (now : Int) (k : Ky) (c t : Int) (hc : c ≠ now) : ∀ (l : List Fop), sayL S now l k c t = S k c t := by
  intro l
  induction l generalizing S with
  | nil => rfl
  | cons o l ih =>
    show sayL (setS S (kyO o) now o.lo o.hi o.value) now l k c t = S k c t
    rw [ih]
    unfold setS
    rw [if_neg (fun z => hc z.2.1)]
theorem said_next (txs : List (List Fop)) (l : List Fop) (k : Ky) (c t : Int) (h1 : c ≤ (txs.length : Int) + 1) : sayL (nextS (refI txs) txs.length) ((txs.length : Int) + 1) l k c t = refI (txs ++ [l]) k c t := by
  by_cases hc : c ≤ (txs.length : Int)
  · rw [sayL_old _ _ _ _ _ (by omega)]
    unfold nextS
    rw [if_neg (by omega)]
    unfold refI refS
    rw [List.take_append_of_le_length (by omega)]
  · obtain rfl : c = (txs.length : Int) + 1 := by omega
    rw [sayL_last]
    unfold nextS
    rw [if_pos rfl]
    unfold refI
    rw [show ((txs.length : Int) + 1).toNat = txs.length + 1 by omega, show ((txs.length : Int)).toNat = txs.length by omega, refS_snoc (txs ++ [l]) k t txs.length (by simp)]
    unfold refS
    rw [List.take_append_of_le_length (Nat.le_refl _)]
    simp
def PastT (w : World) (P : Pl) (txs : List (List Fop)) (known : Int) (F : Nat → Prop) : Prop := PastW w P txs.length known (24 * txs.length) (refI txs) F
def ChangedT (w : World) (P : Pl) (txs : List (List Fop)) (known : Int) (F : Nat → Prop) (w' : World) : Prop := ∃ F', PastT w' P txs known F' ∧ Grew w F F' w'
theorem PastT.below {w w' : World} {P : Pl} {txs : List (List Fop)} {known : Int} {F : Nat → Prop} (h : PastT w P txs known F) (hb : Below w.heap.size w w') : PastT w' P txs known F := PastW.below h hb
theorem PastT.keeps {w w' : World} {P : Pl} {txs : List (List Fop)} {known : Int} {F H : Nat → Prop} (h : PastT w P txs known F) (hk : Keeps H w w') (hH : ∀ i, F i → ¬ H i) : PastT w' P txs known F := PastW.keeps h hk hH
theorem commit_txs {w : World} {P : Pl} {txs : List (List Fop)} {known : Int} {F : Nat → Prop} (h : PastT w P txs known F) (l : List Fop) (b off cap : Nat) (hl : okL l) (hO : OpsAt w b off l) (hb : ¬ F b) (ht : Tab w) (h1 : txs.length < 150) (hk0 : known ≤ txs.length) :
    Calls Tryz.prog 7 #[.pointer (some ⟨P.b, P.o, none⟩), .slice (some ⟨b, off, none⟩) l.length cap] w fun e w' => e = .returned .nilIface ∧ ChangedT w P (txs ++ [l]) known F w' := by
  refine (commit_ok h l b off cap hl hO hb ht (by omega) (by omega) hk0).mono ?_
  rintro e w' ⟨rfl, F', p, g⟩
  refine ⟨rfl, F', ?_, g⟩
  unfold PastT
  rw [List.length_append, List.length_singleton, Int.natCast_add, Int.natCast_one]
  exact p.congr (fun k c _ h2 t => said_next txs l k c t h2)
end Go.Proofs.YtfoojmflbifkpaaGreatDoor

/- A line forgets what had ended: walked. -/
namespace Go.Proofs.YtfoojmflbifkpaaGreatDoor
open Go.RowKit Go.Maps
def LineR (w : World) (b m r n : Nat) (V : List Ver) (made : Int) (F : Nat → Prop) (left : Lit → Bool) (cnt : Nat) : Prop := ∃ D G, LineX w b m (openE V) V made D G F ∧ w.ranges Tryz.prog 3 verElem m r n D left cnt
theorem LineR.keeps {w w' : World} {b m r n : Nat} {V : List Ver} {made : Int} {F H : Nat → Prop} {left : Lit → Bool} {cnt : Nat} (h : LineR w b m r n V made F left cnt) (hk : Keeps H w w') (hH : ∀ i, F i → ¬ H i) (hr : ¬ H r) : LineR w' b m r n V made F left cnt := by
  obtain ⟨D, G, hX, hg⟩ := h
  exact ⟨D, G, hX.keeps hk hH, ranges_keeps hg hk (hH m hX.fm) hr⟩
theorem LineR.below {w w' : World} {b m r n : Nat} {V : List Ver} {made : Int} {F : Nat → Prop} {left : Lit → Bool} {cnt : Nat} (h : LineR w b m r n V made F left cnt) (hb : Below w.heap.size w w') : LineR w' b m r n V made F left cnt :=
  h.keeps (Keeps.of_below (fun _ => False) hb (Nat.le_refl _)) (fun _ _ h => h) (fun h => h)
end Go.Proofs.YtfoojmflbifkpaaGreatDoor

/- What is a key of the map of lines. -/
namespace Go.Proofs.YtfoojmflbifkpaaGreatDoor
open Go.RowKit Go.Maps
set_option maxRecDepth 100000 in
theorem lits_int_inv {d : Nat} {x : Value} {ls : List Lit} (h : Tryz.prog.keyLits (d + 1) 3 [x] = some ls) : ∃ n, x = .int .i64 n ∧ (Lit.int .i64 n).wf = true := by
  unfold Program.keyLits at h
  rw [Tryz.underlying3] at h
  cases x <;> simp at h
  obtain ⟨⟨rfl, hw⟩, _⟩ := h
  exact ⟨_, rfl, hw⟩
set_option maxRecDepth 100000 in
theorem lits_string_inv {d : Nat} {x : Value} {ls : List Lit} (h : Tryz.prog.keyLits (d + 1) 9 [x] = some ls) : ∃ s, x = .string s ∧ s.size ≤ maxLen := by
  unfold Program.keyLits at h
  rw [Tryz.underlying9] at h
  cases x <;> simp at h
  exact ⟨_, rfl, h.1⟩
set_option maxRecDepth 100000 in
theorem keyOf_key_inv {key : Value} {kl : Lit} (h : keyOf Tryz.prog 32 key = some kl) : ∃ k, key = keyV k ∧ KyOk k ∧ kl = litK k := by
  have h0 := h
  unfold keyOf at h
  rw [Tryz.underlying32] at h
  simp only at h
  split at h
  · rename_i hc
    rw [typeK, Bool.true_and] at hc
    have hs : Tryz.prog.types.size - 1 + 2 = Tryz.prog.types.size + 1 := by
      have : 0 < Tryz.prog.types.size := of_decide_eq_true (by kernel_rfl)
      omega
    rw [← hs] at h
    generalize Tryz.prog.types.size - 1 = d at h
    unfold Value.formed at hc
    rw [Tryz.underlying32] at hc
    cases key with
    | agg cs =>
      simp only [cellsK, beq_iff_eq] at hc
      obtain ⟨x0, x1, x2, x3, rfl⟩ : ∃ x0 x1 x2 x3, cs = #[x0, x1, x2, x3] := by
        obtain ⟨l⟩ := cs
        match l, hc with
        | [x0, x1, x2, x3], _ => exact ⟨x0, x1, x2, x3, rfl⟩
      obtain ⟨ls, hl, _⟩ := Option.map_eq_some_iff.1 h
      have hl' : Tryz.prog.keyLits (d + 2) 32 [x0, x1, x2, x3] = some ls := hl
      unfold Program.keyLits at hl'
      rw [Tryz.underlying32] at hl'
      simp [cellsK, cellsI1, cellsS1, Option.bind_eq_some_iff] at hl'
      obtain ⟨_, e0, _, ⟨_, e1, _, ⟨_, e2, _, ⟨_, e3, _⟩, _⟩, _⟩, _⟩ := hl'
      obtain ⟨n0, rfl, w0⟩ := lits_int_inv e0
      obtain ⟨n1, rfl, w1⟩ := lits_int_inv e1
      obtain ⟨s2, rfl, w2⟩ := lits_string_inv e2
      obtain ⟨n3, rfl, w3⟩ := lits_int_inv e3
      have hk : KyOk ⟨n0, n1, s2, n3⟩ := ⟨w0, w1, w3, w2⟩
      refine ⟨⟨n0, n1, s2, n3⟩, rfl, hk, ?_⟩
      have := keyOf_key _ hk
      unfold keyV at this
      rw [this] at h0
      exact (Option.some.inj h0).symm
    | _ => simp at hc
  · cases h
end Go.Proofs.YtfoojmflbifkpaaGreatDoor

/- A past forgets: walked. -/
namespace Go.Proofs.YtfoojmflbifkpaaGreatDoor
open Go.RowKit Go.Maps
def PastR (w : World) (P : Pl) (now known : Int) (m r n : Nat) (X : List (Ky × Nat)) (Ln : Nat → List Ver × Int) (Fs : Nat → Nat → Prop) (left : Lit → Bool) (cnt : Nat) : Prop := PastX w P now known (some m) X Ln Fs ∧ ∃ D, KeysL D X ∧ w.ranges Tryz.prog 32 ptrElem m r n D left cnt
end Go.Proofs.YtfoojmflbifkpaaGreatDoor

/- A past forgets what was said ahead of a transaction: walked. -/
namespace Go.Proofs.YtfoojmflbifkpaaGreatDoor
open Go.RowKit Go.Maps
theorem ptrElem_inv (u : Value) (y : DataW Unit × List MemPlace) (h : ptrElem u = some y) : ∃ c, u = .pointer c := by
  unfold ptrElem at h
  split at h
  · exact ⟨_, rfl⟩
  · exact ⟨_, rfl⟩
  · cases h
theorem key_shape (key : Value) (kl : Lit) (h : keyOf Tryz.prog 32 key = some kl) : ∃ k, key = keyV k := by
  obtain ⟨k, e, _⟩ := keyOf_key_inv h
  exact ⟨k, e⟩
theorem KeysL.met {D : DataW Unit} {X : List (Ky × Nat)} (h : KeysL D X) {k : Ky} (hk : KyOk k) {u : Value} {y : DataW Unit} {ps : List MemPlace} (hu : ptrElem u = some (y, ps)) (hat : ∀ z, D.atKey (litK k) z = y) : ∃ b, (k, b) ∈ X ∧ u = .pointer (some ⟨b, 0, none⟩) := by
  rcases Classical.em (∃ x, x ∈ X ∧ x.1 = k) with ⟨x, hx, rfl⟩ | q
  · refine ⟨x.2, hx, ptrElem_at (ps := ps) ?_⟩
    have := h.there x hx
    rw [hat] at this
    rw [hu, this]
  · have := h.hasn k hk (fun x hx e => q ⟨x, hx, e⟩)
    rw [has_of_at hat] at this
    cases this
structure FgP (w : World) (P : Pl) (m r n : Nat) (now at_ bd : Int) (S : Ky → Int → Int → ByteArray) (F : Nat → Prop) (X : List (Ky × Nat)) (Ln : Nat → List Ver × Int) (Fs : Nat → Nat → Prop) (left : Lit → Bool) (cnt : Nat) (y : World) : Prop where
  past : PastR y P now at_ m r n X Ln Fs left cnt
  st : Pst X Ln now at_ bd S
  len : (X.length : Int) ≤ bd
  grew : Grew w F (pastF P (some m) X Fs) y
  nr : ¬ pastF P (some m) X Fs r
theorem PastX.map_own {w : World} {P : Pl} {now known : Int} {m : Nat} {X : List (Ky × Nat)} {Ln : Nat → List Ver × Int} {Fs : Nat → Nat → Prop} (h : PastX w P now known (some m) X Ln Fs) : ∃ D, w.ownsMap Tryz.prog 32 ptrElem m X.length D ∧ KeysL D X := by
  rcases h.map with ⟨q, _⟩ | ⟨m', D, q, k1, k2⟩
  · cases q
  · cases q
    exact ⟨D, k1, k2⟩
theorem PastX.other {w : World} {P : Pl} {now known : Int} {mv : Option Nat} {X : List (Ky × Nat)} {Ln : Nat → List Ver × Int} {Fs : Nat → Nat → Prop} (h : PastX w P now known mv X Ln Fs) {x : Ky × Nat} (hx : x ∈ X) (y : Ky × Nat) (hy : y ∈ X) (hne : y ≠ x) : y.2 ≠ x.2 := by
  intro e
  obtain ⟨i, hi, rfl⟩ := List.getElem_of_mem hx
  obtain ⟨j, hj, rfl⟩ := List.getElem_of_mem hy
  have hp := List.pairwise_iff_getElem.1 h.blocks
  rcases Nat.lt_trichotomy i j with k | k | k
  · exact hp i j hi hj k e.symm
  · subst k; exact hne rfl
  · exact hp j i hj hi k e
theorem FgP.line {w W2 W3 : World} {P : Pl} {m r n : Nat} {now at_ bd : Int} {S : Ky → Int → Int → ByteArray} {F : Nat → Prop} {X : List (Ky × Nat)} {Ln : Nat → List Ver × Int} {Fs : Nat → Nat → Prop} {left : Lit → Bool} {cnt : Nat} (h : FgP w P m r n now at_ bd S F X Ln Fs left cnt W2) {x : Ky × Nat} (hx : x ∈ X) {V' : List Ver} (ho : LineOk V' (Ln x.2).2 now) (ht : Tells V' at_ now (S x.1)) (hT : LineTurned W2 x.2 V' (Ln x.2).2 (Fs x.2) W3) :
    ∃ Fs', FgP w P m r n now at_ bd S F X (upd Ln x.2 (V', (Ln x.2).2)) Fs' left cnt W3 := by
  obtain ⟨F', hl, hg⟩ := hT
  obtain ⟨hX, D, hK, hrg⟩ := h.past
  obtain ⟨h1, h2⟩ := hX.turn hx hl hg
  have hrs : ¬ Fs x.2 r := fun q => h.nr (.inr (.inr ⟨x, hx, q⟩))
  refine ⟨upd Fs x.2 F', ⟨h1, D, hK, ranges_keeps hrg hg.2 (hX.nm x hx m rfl) hrs⟩, h.st.still hx (hX.other hx) ho (h.st.m0 x hx) ht, h.len, h.grew.trans h2, fun q => ?_⟩
  rcases h2.1 _ q with z | z
  · exact h.nr z
  · have := hrg.lt
    omega
theorem FgP.below {w y y' : World} {P : Pl} {m r n : Nat} {now at_ bd : Int} {S : Ky → Int → Int → ByteArray} {F : Nat → Prop} {X : List (Ky × Nat)} {Ln : Nat → List Ver × Int} {Fs : Nat → Nat → Prop} {left : Lit → Bool} {cnt : Nat} (h : FgP w P m r n now at_ bd S F X Ln Fs left cnt y) (hb : Below y.heap.size y y') : FgP w P m r n now at_ bd S F X Ln Fs left cnt y' := by
  obtain ⟨hX, D, hK, hrg⟩ := h.past
  exact ⟨⟨hX.below hb, D, hK, ranges_below hrg hb⟩, h.st, h.len, h.grew.trans (Grew.of_below _ hb), h.nr⟩
theorem FgP.left {w y : World} {P : Pl} {m r n : Nat} {now at_ bd : Int} {S : Ky → Int → Int → ByteArray} {F : Nat → Prop} {X : List (Ky × Nat)} {Ln : Nat → List Ver × Int} {Fs : Nat → Nat → Prop} {left : Lit → Bool} {cnt : Nat} (h : FgP w P m r n now at_ bd S F X Ln Fs left cnt y) : y.rangeLeft m r = cnt := by
  obtain ⟨_, D, _, hrg⟩ := h.past
  exact hrg.left_eq
end Go.Proofs.YtfoojmflbifkpaaGreatDoor
