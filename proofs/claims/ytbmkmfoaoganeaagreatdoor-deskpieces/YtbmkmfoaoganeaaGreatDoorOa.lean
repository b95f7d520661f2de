/- Texts of one proof, one behind the other. -/
import Derived.Test.YtbmkmfoaoganeaaGreatDoorNj
import Derived.Test.YtbmkmfoaoganeaaGreatDoorNg
import Derived.Test.YtbmkmfoaoganeaaGreatDoorShelfG
import Derived.Maps.RangeWalk
import Derived.Laws.OwnMore
set_option maxRecDepth 100000
set_option maxHeartbeats 16000000
namespace Go.Proofs.YtbmkmfoaoganeaaGreatDoor
open Go.RowKit Go.Maps
theorem Tells.later {V : List Ver} {known at_ now : Int} {S : Int -> Int -> ByteArray} (h : Tells V known now S) (hk : known <= at_) : Tells V at_ now S := fun c h1 h2 t => h c (Int.le_trans hk h1) h2 t
theorem drop_tells {V : List Ver} {made now at_ : Int} {S : Int -> Int -> ByteArray} {v : Ver} (h : LineOk V made now) (ht : Tells V at_ now S) (hv : v ∈ V) (he : v.s1 <= at_) : Tells (dropV V v.n) at_ now S := by
 intro c h1 h2 t
 obtain ⟨k1, k2⟩ := ht c h1 h2 t
 refine ⟨fun u hu => k1 u (mem_dropV.1 hu).1, fun q => ?_⟩
 obtain ⟨u, hu, hl, hh⟩ := k2 q
 refine ⟨u, mem_dropV.2 ⟨hu, fun e => ?_⟩, hl, hh⟩
 obtain rfl := one_of h hu hv e
 have := hl.2
 omega
theorem Pst.later {X : List (Ky × Nat)} {Ln : Nat -> List Ver × Int} {now known at_ bd : Int} {S : Ky -> Int -> Int -> ByteArray} (h : Pst X Ln now known bd S) (hk : known <= at_) : Pst X Ln now at_ bd S :=
 ⟨h.ok, h.m0, fun x hx => (h.tells x hx).later hk, fun k hkn c c1 c2 t => h.none k hkn c (Int.le_trans hk c1) c2 t⟩
theorem Pst.still {X : List (Ky × Nat)} {Ln : Nat -> List Ver × Int} {now known bd : Int} {S : Ky -> Int -> Int -> ByteArray} (h : Pst X Ln now known bd S) {x : Ky × Nat} (hx : x ∈ X) (hkeys : ∀ y, y ∈ X -> y ≠ x -> y.2 ≠ x.2) {V' : List Ver} {made' : Int} (hO : LineOk V' made' now) (h0 : 0 <= made' /\ made' <= bd) (hT : Tells V' known now (S x.1)) :
  Pst X (upd Ln x.2 (V', made')) now known bd S := by
 have other : ∀ y, y ∈ X -> y = x \/ y.2 ≠ x.2 := fun y hy => by
  rcases Classical.em (y = x) with e | e
  ·exact .inl e
  ·exact .inr (hkeys y hy e)
 refine ⟨fun y hy => ?_, fun y hy => ?_, fun y hy => ?_, h.none⟩
 ·rcases other y hy with rfl | e
  ·rw [upd_same]; exact hO
  ·rw [upd_other _ _ e]; exact h.ok y hy
 ·rcases other y hy with rfl | e
  ·rw [upd_same]; exact h0
  ·rw [upd_other _ _ e]; exact h.m0 y hy
 ·rcases other y hy with rfl | e
  ·rw [upd_same]; exact hT
  ·rw [upd_other _ _ e]; exact h.tells y hy
theorem Pst.congr {X : List (Ky × Nat)} {Ln : Nat -> List Ver × Int} {now known bd : Int} {S S' : Ky -> Int -> Int -> ByteArray} (h : Pst X Ln now known bd S) (he : ∀ k c, known <= c -> c <= now -> ∀ t, S k c t = S' k c t) : Pst X Ln now known bd S' :=
 ⟨h.ok, h.m0, fun x hx => (h.tells x hx).congr (he x.1), fun k hkn c c1 c2 t => (he k c c1 c2 t).symm.trans (h.none k hkn c c1 c2 t)⟩
theorem PastW.congr {w : World} {P : Pl} {now known bd : Int} {S S' : Ky -> Int -> Int -> ByteArray} {F : Nat -> Prop} (h : PastW w P now known bd S F) (he : ∀ k c, known <= c -> c <= now -> ∀ t, S k c t = S' k c t) : PastW w P now known bd S' F := by
 obtain ⟨mv, X, Ln, Fs, h1, h2, h3, h4⟩ := h
 exact ⟨mv, X, Ln, Fs, h1, h2.congr he, h3, h4⟩
theorem ranges_keeps {w w' : World} {k : TypeId} {R : Value -> Option (DataW Unit × List MemPlace)} {b r n cnt : Nat} {D : DataW Unit} {left : Lit -> Bool} {F : Nat -> Prop} (h : w.ranges Tryz.prog k R b r n D left cnt) (hk : Keeps F w w') (hb : ¬ F b) (hr : ¬ F r) : w'.ranges Tryz.prog k R b r n D left cnt := by
 have h1 := h.owns.lt
 have h2 := h.lt
 obtain ⟨es, clock, since, seen, c0, q1, F1, hs, hD, q2, rest⟩ := h
 exact ⟨es, clock, since, seen, c0, (hk.block b h1 hb).trans q1, F1, hs, hD, (hk.block r h2 hr).trans q2, rest⟩
theorem ranges_below {w w' : World} {k : TypeId} {R : Value -> Option (DataW Unit × List MemPlace)} {b r n cnt : Nat} {D : DataW Unit} {left : Lit -> Bool} (h : w.ranges Tryz.prog k R b r n D left cnt) (hb : Below w.heap.size w w') : w'.ranges Tryz.prog k R b r n D left cnt :=
 ranges_keeps h (Keeps.of_below (fun _ => False) hb zr) (fun q => q) (fun q => q)
theorem has_of_at {D : DataW Unit} {kl : Lit} {d : DataW Unit} (h : ∀ z, D.atKey kl z = d) : Maps.has D kl = true := by
 cases e : Maps.has D kl with
 | true => rfl
 | false =>
  have h1 := h (.lit (.int .i64 0))
  have h2 := h (.lit (.int .i64 1))
  rw [Maps.atKey_of_not_has e] at h1 h2
  rw [<- h2] at h1
  cases h1
theorem verElem_inv (u : Value) (y : DataW Unit × List MemPlace) (h : verElem u = some y) : ∃ c, u = verV c := by
 unfold verElem at h
 split at h
 ·rename_i a
  split at h
  ·rename_i lo hi val s0 s1 e
   refine ⟨⟨0, lo, hi, val, s0, s1⟩, ?_⟩
   cases a
   simp at e
   subst e
   rfl
  ·cases h
 ·cases h
theorem KeysV.met {D : DataW Unit} {V : List Ver} (h : KeysV D V) {x : Int} {u : Value} {y : DataW Unit} {ps : List MemPlace} (hu : verElem u = some (y, ps)) (hat : ∀ z, D.atKey (.int .i64 x) z = y) : ∃ v, v ∈ V /\ v.n = x /\ u = verV v := by
 rcases Classical.em (∃ v, v ∈ V /\ v.n = x) with ⟨v, hv, rfl⟩ | q
 ·refine ⟨v, hv, rfl, verElem_at (ps := ps) ?_⟩
  have := h.there v hv
  rw [hat] at this
  rw [hu, this]
  rfl
 ·have := h.hasn x (fun v hv e => q ⟨v, hv, e⟩)
  rw [has_of_at hat] at this
  cases this
theorem keeps_grown {w w' : World} {row : Option Nat} (h : w.grownBy w' row) : Keeps (fun i => some i = row) w w' := ⟨h.os, h.tape, h.output, h.size, fun k hk hne => h.block k hk (fun e => hne e)⟩
theorem nodup_len {α : Type} : ∀ (L M : List α), L.Nodup -> (∀ k, k ∈ L -> k ∈ M) -> L.length <= M.length
 | [], _, _, _ => Nat.zero_le _
 | a :: L, M, hn, h => by
  obtain ⟨s, t, rfl⟩ := List.append_of_mem (h a (by simp))
  obtain ⟨h1, h2⟩ := List.nodup_cons.1 hn
  have := nodup_len L (s ++ t) h2 (fun k hk => by
   have := h k (by simp [hk])
   rw [List.mem_append, List.mem_cons] at this
   rw [List.mem_append]
   rcases this with q | q | q
   ·exact .inl q
   ·rw [q] at hk; exact absurd hk h1
   ·exact .inr q)
  simp at this ⊢
  omega
def stepV (k : Ky) (t : Int) (v : ByteArray) (o : Fop) : ByteArray := if sameK (kyO o) k && decide (o.lo <= t /\ t < o.hi) then o.value else v
def lastV (k : Ky) (t : Int) (v : ByteArray) (l : List Fop) : ByteArray := l.foldl (stepV k t) v
def refS (txs : List (List Fop)) (k : Ky) (c : Nat) (t : Int) : ByteArray := (txs.take c).foldl (lastV k t) ⟨#[]⟩
def refI (txs : List (List Fop)) (k : Ky) (c t : Int) : ByteArray := refS txs k c.toNat t
theorem refS_snoc (txs : List (List Fop)) (k : Ky) (t : Int) (c : Nat) (h : c < txs.length) : refS txs k (c + 1) t = lastV k t (refS txs k c t) txs[c] := by
 unfold refS
 rw [List.take_succ_eq_append_getElem h, List.foldl_append]
 rfl
theorem sayL_last (now : Int) (k : Ky) (t : Int) : ∀ (l : List Fop) (S : Ky -> Int -> Int -> ByteArray), sayL S now l k now t = lastV k t (S k now t) l
 | [], _ => rfl
 | o :: l, S => by
  have e : setS S (kyO o) now o.lo o.hi o.value k now t = stepV k t (S k now t) o := by
   unfold setS stepV
   by_cases h : kyO o = k
   ·subst h
    by_cases q : o.lo <= t /\ t < o.hi
    ·rw [if_pos ⟨sameK_iff.2 rfl, rfl, q.1, q.2⟩, sameK_iff.2 rfl, decide_eq_true q]
     rfl
    ·rw [if_neg (fun z => q z.2.2), decide_eq_false q, Bool.and_false]
     rfl
   ·have e1 : sameK (kyO o) k = false := by
     cases z : sameK (kyO o) k with
     | false => rfl
     | true => exact absurd (sameK_iff.1 z) h
    rw [if_neg (fun z => h (sameK_iff.1 z.1).symm), e1, Bool.false_and]
    rfl
  show sayL (setS S (kyO o) now o.lo o.hi o.value) now l k now t = lastV k t (stepV k t (S k now t) o) l
  rw [sayL_last now k t l, e]
theorem sayL_old (S : Ky -> Int -> Int -> ByteArray) (now : Int) (k : Ky) (c t : Int) (hc : c ≠ now) : ∀ (l : List Fop), sayL S now l k c t = S k c t := by
 intro l
 induction l generalizing S with
 | nil => rfl
 | cons o l ih =>
  show sayL (setS S (kyO o) now o.lo o.hi o.value) now l k c t = S k c t
  rw [ih]
  unfold setS
  rw [if_neg (fun z => hc z.2.1)]
theorem said_next (txs : List (List Fop)) (l : List Fop) (k : Ky) (c t : Int) (h1 : c <= (txs.length : Int) + 1) : sayL (nextS (refI txs) txs.length) ((txs.length : Int) + 1) l k c t = refI (txs ++ [l]) k c t := by
 by_cases hc : c <= (txs.length : Int)
 ·rw [sayL_old _ _ _ _ _ (by omega)]
  unfold nextS
  rw [if_neg (by omega)]
  unfold refI refS
  rw [List.take_append_of_le_length (by omega)]
 ·obtain rfl : c = (txs.length : Int) + 1 := by omega
  rw [sayL_last]
  unfold nextS
  rw [if_pos rfl]
  unfold refI
  rw [show ((txs.length : Int) + 1).toNat = txs.length + 1 by omega, show ((txs.length : Int)).toNat = txs.length by omega, refS_snoc (txs ++ [l]) k t txs.length (by simp)]
  unfold refS
  rw [List.take_append_of_le_length zr]
  simp
def PastT (w : World) (P : Pl) (txs : List (List Fop)) (known : Int) (F : Nat -> Prop) : Prop := PastW w P txs.length known (24 * txs.length) (refI txs) F
def ChangedT (w : World) (P : Pl) (txs : List (List Fop)) (known : Int) (F : Nat -> Prop) (w' : World) : Prop := ∃ F', PastT w' P txs known F' /\ Grew w F F' w'
theorem PastT.below {w w' : World} {P : Pl} {txs : List (List Fop)} {known : Int} {F : Nat -> Prop} (h : PastT w P txs known F) (hb : Below w.heap.size w w') : PastT w' P txs known F := PastW.below h hb
theorem PastT.keeps {w w' : World} {P : Pl} {txs : List (List Fop)} {known : Int} {F H : Nat -> Prop} (h : PastT w P txs known F) (hk : Keeps H w w') (hH : ∀ i, F i -> ¬ H i) : PastT w' P txs known F := PastW.keeps h hk hH
theorem commit_txs {w : World} {P : Pl} {txs : List (List Fop)} {known : Int} {F : Nat -> Prop} (h : PastT w P txs known F) (l : List Fop) (b off cap : Nat) (hl : okL l) (hO : OpsAt w b off l) (hb : ¬ F b) (ht : Tab w) (h1 : txs.length < 150) (hk0 : known <= txs.length) :
  Calls Tryz.prog 156 #[.pointer (some ⟨P.b, P.o, none⟩), .slice (some ⟨b, off, none⟩) l.length cap] w fun e w' => e = .returned .nilIface /\ ChangedT w P (txs ++ [l]) known F w' := by
 refine (commit_ok h l b off cap hl hO hb ht (by omega) (by omega) hk0).mono ?_
 rintro e w' ⟨rfl, F', p, g⟩
 refine ⟨rfl, F', ?_, g⟩
 unfold PastT
 rw [List.length_append, List.length_singleton, Int.natCast_add, Int.natCast_one]
 exact p.congr (fun k c _ h2 t => said_next txs l k c t h2)
end Go.Proofs.YtbmkmfoaoganeaaGreatDoor

namespace Go.Proofs.YtbmkmfoaoganeaaGreatDoor
def forgetL : List UInt8 := [102, 111, 114, 103, 101, 116, 32]
def bodyL : List Fop ⊕ Int -> List UInt8
 | .inl l => opsL l
 | .inr n => forgetL ++ Lib.itoa n
def entL (x : List Fop ⊕ Int) : List UInt8 := bodyL x ++ [10]
def stepE (st : List (List Fop) × Int) : List Fop ⊕ Int -> List (List Fop) × Int
 | .inl l => (st.1 ++ [l], st.2)
 | .inr n => (st.1, n)
def stE (es : List (List Fop ⊕ Int)) : List (List Fop) × Int := es.foldl stepE ([], 0)
theorem stE_snoc (es : List (List Fop ⊕ Int)) (x : List Fop ⊕ Int) : stE (es ++ [x]) = stepE (stE es) x := by simp [stE]
def OkE (st : List (List Fop) × Int) : List Fop ⊕ Int -> Prop
 | .inl l => okL l
 | .inr n => st.2 <= n /\ n <= st.1.length
def GoodE (es : List (List Fop ⊕ Int)) : Prop := ∀ j, (h : j < es.length) -> OkE (stE (es.take j)) es[j]
theorem good_snoc {es : List (List Fop ⊕ Int)} {x : List Fop ⊕ Int} (h : GoodE es) (hx : OkE (stE es) x) : GoodE (es ++ [x]) := by
 intro j hj
 rw [List.length_append, List.length_singleton] at hj
 by_cases q : j < es.length
 ·rw [List.take_append_of_le_length (by omega), List.getElem_append_left q]
  exact h j q
 ·obtain rfl : j = es.length := by omega
  rw [List.take_append_of_le_length zr, List.take_length, List.getElem_append_right zr]
  simpa using hx
theorem good_take {es : List (List Fop ⊕ Int)} (h : GoodE es) (n : Nat) : GoodE (es.take n) := by
 intro j hj
 have hj' : j < n /\ j < es.length := by simp at hj; omega
 rw [List.take_take, Nat.min_eq_left (by omega), List.getElem_take]
 exact h j hj'.2
theorem stE_bounds {es : List (List Fop ⊕ Int)} (h : GoodE es) : (stE es).1.length <= es.length /\ 0 <= (stE es).2 /\ (stE es).2 <= (stE es).1.length := by
 obtain ⟨n, hn⟩ : ∃ n, n = es.length := ⟨_, rfl⟩
 induction n generalizing es with
 | zero =>
  obtain rfl := List.length_eq_zero_iff.1 hn.symm
  exact ⟨Nat.le_refl _, Int.le_refl _, Int.le_refl _⟩
 | succ n ih =>
  rcases List.eq_nil_or_concat es with rfl | ⟨m, x, rfl⟩
  ·simp at hn
  rw [List.concat_eq_append] at *
  have hm : GoodE m := by
   have := good_take h m.length
   rwa [List.take_append_of_le_length zr, List.take_length] at this
  have hx := h m.length (by simp)
  rw [List.take_append_of_le_length zr, List.take_length, List.getElem_append_right zr] at hx
  simp only [Nat.sub_self, List.getElem_cons_zero] at hx
  obtain ⟨i1, i2, i3⟩ := ih hm (by simpa using hn)
  rw [stE_snoc]
  rcases x with l | k
  ·show ((stE m).1 ++ [l]).length <= _ /\ 0 <= (stE m).2 /\ (stE m).2 <= (((stE m).1 ++ [l]).length : Int)
   simp only [List.length_append, List.length_singleton]
   omega
  ·obtain ⟨q1, q2⟩ := (hx : (stE m).2 <= k /\ k <= (stE m).1.length)
   show (stE m).1.length <= _ /\ 0 <= k /\ k <= ((stE m).1.length : Int)
   simp only [List.length_append, List.length_singleton]
   omega
theorem ops_mem (l : List Fop) (h : okL l) : ∀ c, c ∈ opsL l -> c.toNat = 32 \/ c.toNat = 43 \/ c.toNat = 45 \/ 48 <= c.toNat /\ c.toNat <= 57 \/ 97 <= c.toNat /\ c.toNat <= 122 := by
 intro c hc
 unfold opsL at hc
 rcases l with _ | ⟨o, l⟩
 ·exact absurd h.1 (by simp)
 rcases mem_join 43 c (l.map opL) (opL o) (by simpa using hc) with rfl | ⟨y, hy, hcy⟩
 ·right; left; rfl
 ·rw [<- List.map_cons] at hy
  obtain ⟨p, hp, rfl⟩ := List.mem_map.1 hy
  have := wr_mem p (h.2.2 p hp) c hcy
  omega
theorem body_mem (st : List (List Fop) × Int) (x : List Fop ⊕ Int) (h : OkE st x) : (10 : UInt8) ∉ bodyL x := by
 intro hc
 rcases x with l | n
 ·have := ops_mem l h 10 hc
  simp at this
 ·rcases List.mem_append.1 (show (10 : UInt8) ∈ forgetL ++ Lib.itoa n from hc) with q | q
  ·revert q; decide
  ·have := itoa_mem n 10 q
   simp at this
theorem ops_head (l : List Fop) (h : okL l) : ∃ c r, opsL l = c :: r /\ c.toNat ≠ 102 := by
 rcases l with _ | ⟨o, l⟩
 ·exact absurd h.1 (by simp)
 have ho := op_parts o (h.2.2 o (by simp))
 have e : ∃ c r, Lib.itoa o.kind = c :: r := by
  cases q : Lib.itoa o.kind with
  | nil =>
   exfalso
   unfold Lib.itoa at q
   split at q
   ·cases q
   ·exact decDigits_ne _ q
  | cons c r => exact ⟨c, r, rfl⟩
 obtain ⟨c, r, e⟩ := e
 have hc : c.toNat ≠ 102 := by
  have := itoa_mem o.kind c (by rw [e]; simp)
  omega
 have e1 : ∃ r1, opL o = c :: r1 := by
  unfold opL fieldsL
  rw [join_two, e]
  exact ⟨_, rfl⟩
 obtain ⟨r1, e1⟩ := e1
 have e2 : ∃ r2, opsL (o :: l) = c :: r2 := by
  unfold opsL
  rw [List.map_cons]
  rcases l with _ | ⟨p, l⟩
  ·refine ⟨r1, ?_⟩
   show Lib.join [opL o] [43] = _
   rw [<- e1]
   simp [Lib.join]
  ·rw [List.map_cons, join_two, e1]
   exact ⟨_, rfl⟩
 obtain ⟨r2, e2⟩ := e2
 exact ⟨c, r2, e2, hc⟩
structure Holds (ps : Nat -> ByteArray) (es : List (List Fop ⊕ Int)) : Prop where
 good : GoodE es
 there : ∀ j, (h : j < es.length) -> (ps j).data.toList = entL es[j]
 none : ∀ j, es.length <= j -> (10 : UInt8) ∉ (ps j).data.toList
theorem holds_nil : Holds (fun _ => ⟨#[]⟩) [] := ⟨fun j h => absurd h (by simp), fun j h => absurd h (by simp), fun j _ => by simp⟩
theorem Holds.wrote {ps : Nat -> ByteArray} {es : List (List Fop ⊕ Int)} (h : Holds ps es) {x : List Fop ⊕ Int} (hx : OkE (stE es) x) {s : ByteArray} (hs : s.data.toList = entL x) : Holds (fun j => if j = es.length then s else ps j) (es ++ [x]) := by
 refine ⟨good_snoc h.good hx, fun j hj => ?_, fun j hj => ?_⟩
 ·rw [List.length_append, List.length_singleton] at hj
  by_cases q : j < es.length
  ·rw [if_neg (by omega), List.getElem_append_left q]
   exact h.there j q
  ·obtain rfl : j = es.length := by omega
   rw [if_pos rfl, List.getElem_append_right zr]
   simpa using hs
 ·rw [List.length_append, List.length_singleton] at hj
  rw [if_neg (by omega)]
  exact h.none j (by omega)
theorem Holds.torn {ps : Nat -> ByteArray} {es : List (List Fop ⊕ Int)} (h : Holds ps es) {s : ByteArray} (hs : (10 : UInt8) ∉ s.data.toList) : Holds (fun j => if j = es.length then s else ps j) es := by
 refine ⟨h.good, fun j hj => ?_, fun j hj => ?_⟩
 ·rw [if_neg (by omega)]
  exact h.there j hj
 ·by_cases q : j = es.length
  ·rw [if_pos q]; exact hs
  ·rw [if_neg q]; exact h.none j hj
end Go.Proofs.YtbmkmfoaoganeaaGreatDoor

namespace Go.Proofs.YtbmkmfoaoganeaaGreatDoor
open Go.RowKit Go.Maps
def encP : List (Int × Int × ByteArray) -> List Value
 | [] => []
 | x :: l => .int .i64 x.1 :: .int .i64 x.2.1 :: .string x.2.2 :: encP l
theorem encP_length (l : List (Int × Int × ByteArray)) : (encP l).length = l.length * 3 := by
 induction l with
 | nil => rfl
 | cons x l ih => simp [encP, ih]; omega
theorem encP_append (l m : List (Int × Int × ByteArray)) : encP (l ++ m) = encP l ++ encP m := by
 induction l with
 | nil => rfl
 | cons x l ih => simp [encP, ih]
theorem encP_at : ∀ (l : List (Int × Int × ByteArray)) (j : Nat) (h : j < l.length), (encP l)[j * 3]? = some (.int .i64 l[j].1) /\ (encP l)[j * 3 + 1]? = some (.int .i64 l[j].2.1) /\ (encP l)[j * 3 + 2]? = some (.string l[j].2.2)
 | e :: l, 0, _ => ⟨rfl, rfl, rfl⟩
 | e :: l, j + 1, h => by
  have := encP_at l j (by simpa using h)
  have e1 : (j + 1) * 3 = j * 3 + 1 + 1 + 1 := by omega
  rw [e1]
  simpa [encP] using this
theorem infoP : (Tryz.prog.info? 107).map (fun i => (i.zero, i.size, i.bytes)) = some (some (.agg #[.int .i64 0, .int .i64 0, .string ⟨#[]⟩]), 3, 32) := by kernel_rfl
theorem wpList_appP (w : World) {ops : Array Oper} {rest : List Oper} {o : Oper} {a : Act} {Q : Exit -> Act -> World -> Prop} (hgd : o.guard = none) (s x : Operand)
  (ho : o.op = .call { callee := .builtin .append, args := #[s, x], argTypes := #[108, 108] })
  (base : Nat) (v : Value) (l : List (Int × Int × ByteArray)) (hs : a.eval s = v) (hown : w.ownsRow base 107 3 v l.length (encP l))
  (b : Nat) (x1 x2 : Int) (x3 : ByteArray) (hx : a.eval x = .slice (some ⟨b, 0, none⟩) 1 1) (hc0 : w.cell? ⟨b, 0, none⟩ = some (.int .i64 x1)) (hc1 : w.cell? ⟨b, 1, none⟩ = some (.int .i64 x2)) (hc2 : w.cell? ⟨b, 2, none⟩ = some (.string x3))
  (hlen : l.length < 1099511627776) (hbase : base <= w.heap.size)
  (h : ∀ v' w', w'.ownsRow base 107 3 v' (l ++ [(x1, x2, x3)]).length (encP (l ++ [(x1, x2, x3)])) -> w.grownBy w' v.ownBlock -> wpList Tryz.prog ops Q rest (a.put o.dst v') w') : wpList Tryz.prog ops Q (o :: rest) a w := by
 obtain ⟨i0, hi0, hz0, hz1, hz2⟩ := info_parts infoP
 refine wpList_append_own w hgd s x 108 ho base 107 i0 (.agg #[.int .i64 0, .int .i64 0, .string ⟨#[]⟩]) 3 32 Tryz.underlying108 hi0 hz0 hz1 hz2 rfl (by decide) v l.length (encP l) hs hown ⟨b, 0, none⟩ 1 1 [.int .i64 x1, .int .i64 x2, .string x3] hx rfl ?_ ?_ ?_ ?_ hbase ?_
 ·intro j u hj
  match j, hj with
  | 0, hj => simp at hj; subst hj; simpa [Addr.add] using hc0
  | 1, hj => simp at hj; subst hj; simpa [Addr.add] using hc1
  | 2, hj => simp at hj; subst hj; simpa [Addr.add] using hc2
 ·intro u hu
  simp at hu
  rcases hu with rfl | rfl | rfl <;> rfl
 ·unfold maxLen; omega
 ·omega
 ·intro v' w' k1 k2 _
  refine h v' w' ?_ k2
  rw [encP_append]
  simpa [encP] using k1
def GivesP (w : World) (l : List (Int × Int × ByteArray)) (e : Ending) (w' : World) : Prop :=
 ∃ v, e = .returned v /\ w'.ownsRow w.heap.size 107 3 v l.length (encP l) /\ Below w.heap.size w w'
def RowP (y : World) (base : Nat) (v : Value) (l : List (Int × Int × ByteArray)) : Prop := y.ownsRow base 107 3 v l.length (encP l)
theorem RowP.carry {w w' : World} {base : Nat} {v : Value} {l : List (Int × Int × ByteArray)} (h : RowP w base v l) (hb : Below w.heap.size w w') : RowP w' base v l := ownsRow_carry h hb
def Ver.pc (v : Ver) : Int × Int × ByteArray := (v.lo, v.hi, v.val)
def liveB (from_ to : Int) (v : Ver) : Bool := decide (v.s0 <= to /\ from_ < v.s1)
def metV (V : List Ver) (lo hi : Int) : List Ver := V.filter (fun v => meetB lo hi v.ent)
def saidV (V : List Ver) (from_ to lo hi : Int) : List (Int × Int × ByteArray) := ((metV V lo hi).filter (liveB from_ to)).map Ver.pc
def saidX0 (X : List (Ky × Nat)) (Ln : Nat -> List Ver × Int) (k : Ky) (from_ to lo hi : Int) (out : List (Int × Int × ByteArray)) : Prop :=
 (∃ x, x ∈ X /\ x.1 = k /\ out = saidV (Ln x.2).1 from_ to lo hi) \/ ((∀ x, x ∈ X -> x.1 ≠ k) /\ out = [])
def saidX (X : List (Ky × Nat)) (Ln : Nat -> List Ver × Int) (k : Ky) (from_ to lo hi : Int) (out : List (Int × Int × ByteArray)) : Prop := ∃ o, saidX0 X Ln k from_ to lo hi o /\ out.Perm o
theorem keeps_below0 {F : Nat -> Prop} {n : Nat} {w w' : World} (hk : Keeps F w w') (hF : ∀ i, F i -> n <= i) (hn : n <= w.heap.size) : Below n w w' :=
 ⟨hk.os, hk.tape, hk.output, hk.size, fun k h => hk.block k (by omega) (fun q => by have := hF k q; omega)⟩
theorem filter_one {v : Ver} (q q' : Ver -> Bool) : ∀ {V : List Ver}, V.Pairwise (fun a b => a.n < b.n) -> v ∈ V -> (∀ u, u ∈ V -> u.n ≠ v.n -> q' u = q u) -> q v = false -> q' v = true -> (V.filter q').Perm (V.filter q ++ [v])
 | [], _, h, _, _, _ => by cases h
 | a :: V, hr, h, h1, h2, h3 => by
  have hlt : ∀ b, b ∈ V -> a.n < b.n := fun b hb => List.rel_of_pairwise_cons hr hb
  by_cases e : a.n = v.n
  ·have ev : v = a := by
    rcases List.mem_cons.1 h with r | r
    ·exact r
    ·have := hlt v r; omega
   subst ev
   rw [List.filter_cons_of_pos h3, List.filter_cons_of_neg (by simp [h2])]
   have : V.filter q' = V.filter q := List.filter_congr fun u hu => h1 u (List.mem_cons_of_mem _ hu) (by have := hlt u hu; omega)
   rw [this]
   exact (List.perm_append_singleton v _).symm
  ·have hv : v ∈ V := by
    rcases List.mem_cons.1 h with r | r
    ·subst r; exact absurd rfl e
    ·exact r
   have ih := filter_one q q' (List.Pairwise.of_cons hr) hv (fun u hu => h1 u (List.mem_cons_of_mem _ hu)) h2 h3
   have ea := h1 a (by simp) e
   cases hq : q a with
   | true =>
    rw [List.filter_cons_of_pos (by rw [ea]; exact hq), List.filter_cons_of_pos hq, List.cons_append]
    exact ih.cons a
   | false =>
    rw [List.filter_cons_of_neg (by rw [ea, hq]; decide), List.filter_cons_of_neg (by rw [hq]; decide)]
    exact ih
structure SdI (w : World) (b mm r n : Nat) (V : List Ver) (made : Int) (D : DataW Unit) (G F : Nat -> Prop) (from_ to lo hi : Int) (sb : Nat) (left was : Lit -> Bool) (cnt : Nat) (u : Value) (out : List (Int × Int × ByteArray)) (y : World) : Prop where
 line : LineX y b mm (openE V) V made D G F
 rg : y.ranges Tryz.prog 3 verElem mm r n D left cnt
 row : RowP y (r + 1) u out
 perm : out.Perm ((V.filter (fun v => !was (.int .i64 v.n) && (liveB from_ to v && meetB lo hi v.ent))).map Ver.pc)
 low : Below w.heap.size w y
 pr : ∀ i, F i -> i < r
 wr : w.heap.size <= r
 rs : r < y.heap.size
 sr : sb < r
 s0 : y.cell? ⟨sb, 0, none⟩ = some (.int .i64 lo)
 s1 : y.cell? ⟨sb, 1, none⟩ = some (.int .i64 hi)
section
variable {w : World} {b mm r n : Nat} {V : List Ver} {made : Int} {D : DataW Unit} {G F : Nat -> Prop} {from_ to lo hi : Int} {sb : Nat} {left was : Lit -> Bool} {cnt : Nat} {u : Value} {out : List (Int × Int × ByteArray)} {y y' : World}
theorem SdI.below (h : SdI w b mm r n V made D G F from_ to lo hi sb left was cnt u out y) (hb : Below y.heap.size y y') : SdI w b mm r n V made D G F from_ to lo hi sb left was cnt u out y' :=
 ⟨h.line.below hb, ranges_below h.rg hb, h.row.carry hb, h.perm, h.low.trans (hb.mono h.low.size), h.pr, h.wr, Nat.lt_of_lt_of_le h.rs hb.size, h.sr, (hb.cell (p := ⟨sb, 0, none⟩) (lt_of_cell h.s0)).trans h.s0, (hb.cell (p := ⟨sb, 1, none⟩) (lt_of_cell h.s1)).trans h.s1⟩
theorem SdI.came {cnt' : Nat} {left' : Lit -> Bool} (h : SdI w b mm r n V made D G F from_ to lo hi sb left was cnt u out y) (hg : y.grownBy y' (some r)) (hrg : y'.ranges Tryz.prog 3 verElem mm r n D left' cnt') : SdI w b mm r n V made D G F from_ to lo hi sb left' was cnt' u out y' := by
 have hk := keeps_grown hg
 have hsr := h.sr
 refine ⟨h.line.keeps hk (fun i hi e => by cases e; exact Nat.lt_irrefl _ (h.pr _ hi)), hrg, World.ownsRow.kept h.row hg ?_, h.perm, h.low.trans (keeps_below0 hk (fun i e => by cases e; exact h.wr) h.low.size), h.pr, h.wr, Nat.lt_of_lt_of_le h.rs hg.size, h.sr, (hk.cell (p := ⟨sb, 0, none⟩) (lt_of_cell h.s0) (fun e => by have e' : sb = r := Option.some.inj e; omega)).trans h.s0, (hk.cell (p := ⟨sb, 1, none⟩) (lt_of_cell h.s1) (fun e => by have e' : sb = r := Option.some.inj e; omega)).trans h.s1⟩
 rcases e : u.ownBlock with _ | g
 ·exact .inl rfl
 ·refine .inr (fun q => ?_)
  have := (World.ownsRow.lt h.row g e).1
  cases q
  omega
theorem key_int_other {left : Lit -> Bool} {a n : Int} (h : a ≠ n) : (left (.int .i64 a) && !(Lit.int .i64 a).sameKey (.int .i64 n)) = left (.int .i64 a) := by
 have : (Lit.int .i64 a).sameKey (.int .i64 n) = false := by
  cases e : (Lit.int .i64 a).sameKey (.int .i64 n) with
  | false => rfl
  | true =>
   have := WideAt.sameKey_eq e
   injection this with _ q
   exact absurd q h
 rw [this]
 simp
theorem key_int_same {left : Lit -> Bool} {n : Int} : (left (.int .i64 n) && !(Lit.int .i64 n).sameKey (.int .i64 n)) = false := by
 have : (Lit.int .i64 n).sameKey (.int .i64 n) = true := WideAt.sameKey_self trivial
 rw [this]
 simp
theorem SdI.skip {v : Ver} (h : SdI w b mm r n V made D G F from_ to lo hi sb (fun z => left z && !z.sameKey (.int .i64 v.n)) left cnt u out y) (hL : ∀ x, x ∈ V -> x.n = v.n -> x = v) (hn : (liveB from_ to v && meetB lo hi v.ent) = false) : SdI w b mm r n V made D G F from_ to lo hi sb (fun z => left z && !z.sameKey (.int .i64 v.n)) (fun z => left z && !z.sameKey (.int .i64 v.n)) cnt u out y := by
 refine ⟨h.line, h.rg, h.row, ?_, h.low, h.pr, h.wr, h.rs, h.sr, h.s0, h.s1⟩
 refine h.perm.trans (List.Perm.of_eq ?_)
 congr 1
 refine List.filter_congr fun x hx => ?_
 by_cases e : x.n = v.n
 ·rw [hL x hx e, hn]
  simp
 ·rw [key_int_other e]
theorem SdI.add {v : Ver} {u' : Value} (h : SdI w b mm r n V made D G F from_ to lo hi sb (fun z => left z && !z.sameKey (.int .i64 v.n)) left cnt u out y) (hr : V.Pairwise (fun a b => a.n < b.n)) (hv : v ∈ V) (hl : left (.int .i64 v.n) = true) (hn : (liveB from_ to v && meetB lo hi v.ent) = true) (hg : y.grownBy y' u.ownBlock) (hrow : RowP y' (r + 1) u' (out ++ [v.pc])) : SdI w b mm r n V made D G F from_ to lo hi sb (fun z => left z && !z.sameKey (.int .i64 v.n)) (fun z => left z && !z.sameKey (.int .i64 v.n)) cnt u' (out ++ [v.pc]) y' := by
 have hkp := keeps_grown hg
 have hge : ∀ i, some i = u.ownBlock -> r + 1 <= i := fun i e => (World.ownsRow.lt h.row i e.symm).1
 have hsr := h.sr
 refine ⟨h.line.keeps hkp (fun i hi e => by have := hge i e; have := h.pr i hi; omega), ranges_keeps h.rg hkp (fun e => by have := hge mm e; have := h.pr mm h.line.fm; omega) (fun e => by have := hge r e; omega), hrow, ?_, h.low.trans (keeps_below0 hkp (fun i e => by have := hge i e; have := h.wr; omega) h.low.size), h.pr, h.wr, Nat.lt_of_lt_of_le h.rs hg.size, h.sr, (hkp.cell (p := ⟨sb, 0, none⟩) (lt_of_cell h.s0) (fun e => by have := hge sb e; omega)).trans h.s0, (hkp.cell (p := ⟨sb, 1, none⟩) (lt_of_cell h.s1) (fun e => by have := hge sb e; omega)).trans h.s1⟩
 have k := (filter_one (v := v) (fun x => !left (.int .i64 x.n) && (liveB from_ to x && meetB lo hi x.ent)) (fun x => !(left (.int .i64 x.n) && !(Lit.int .i64 x.n).sameKey (.int .i64 v.n)) && (liveB from_ to x && meetB lo hi x.ent)) hr hv (fun x _ e => by rw [key_int_other e]) (by rw [hl]; rfl) (by rw [key_int_same, hn]; rfl)).map Ver.pc
 rw [List.map_append] at k
 exact (h.perm.append_right [v.pc]).trans k.symm
theorem SdI.short (h : SdI w b mm r n V made D G F from_ to lo hi sb left was cnt u out y) : out.length <= V.length := by
 rw [h.perm.length_eq, List.length_map]
 exact List.length_filter_le _ _
end
theorem meet_is (v : Ver) (lo hi : Int) : meetB lo hi v.ent = decide (mlo v.lo lo < mhi v.hi hi) := by
 unfold meetB mlo mhi
 congr 1
 have : max lo v.ent.lo = if v.lo < lo then lo else v.lo := by
  show max lo v.lo = _
  split <;> omega
 have h2 : min hi v.ent.hi = if hi < v.hi then hi else v.hi := by
  show min hi v.hi = _
  split <;> omega
 rw [this, h2]
theorem past_said {w : World} {P : Pl} {now known bd : Int} {S : Ky -> Int -> Int -> ByteArray} {mv : Option Nat} {X : List (Ky × Nat)} {Ln : Nat -> List Ver × Int} {Fs : Nat -> Nat -> Prop} (h : PastX w P now known mv X Ln Fs) (hS : Pst X Ln now known bd S) (hb1 : bd <= 4000) (k : Ky) (hk : KyOk k) (from_ to lo hi : Int) :
  Calls Tryz.prog 99 #[.pointer (some ⟨P.b, P.o, none⟩), .agg #[.int .i64 k.kind, .int .i64 k.a, .string k.word, .int .i64 k.b], .int .i64 from_, .int .i64 to, .agg #[.int .i64 lo, .int .i64 hi]] w fun e w' => ∃ out, saidX X Ln k from_ to lo hi out /\ GivesP w out e w' := by
 have HB1 := zh (below_box w (.cells #[.int .i64 k.kind, .int .i64 k.a, .string k.word, .int .i64 k.b] 73))
 have HB2 := zh (below_box (w.alloc (.cells #[.int .i64 k.kind, .int .i64 k.a, .string k.word, .int .i64 k.b] 73)) (.cells #[.int .i64 lo, .int .i64 hi] 79))
 have HB := zh ((uh HB1).trans ((uh HB2).mono (uh HB1).size))
 have e1 : (w.alloc (.cells #[.int .i64 k.kind, .int .i64 k.a, .string k.word, .int .i64 k.b] 73)).heap.size = w.heap.size + 1 := by simp
 have HP := zh (h.below (uh HB))
 have HK := zh ((boxK_new w k).below (uh HB2))
 have HSp : Hid (((w.alloc (.cells #[.int .i64 k.kind, .int .i64 k.a, .string k.word, .int .i64 k.b] 73)).alloc (.cells #[.int .i64 lo, .int .i64 hi] 79)).cell? ⟨w.heap.size + 1, 0, none⟩ = some (.int .i64 lo) /\ ((w.alloc (.cells #[.int .i64 k.kind, .int .i64 k.a, .string k.word, .int .i64 k.b] 73)).alloc (.cells #[.int .i64 lo, .int .i64 hi] 79)).cell? ⟨w.heap.size + 1, 1, none⟩ = some (.int .i64 hi)) := by
  unfold Hid
  rw [<- e1]
  exact ⟨by simp, by simp⟩
 have HS := zh hS
 have hpi := ptr_is
 clear h hS e1 HB1 HB2
 have k0 := (uh HK).c0
 have k1 := (uh HK).c1
 have k2 := (uh HK).c2
 have k3 := (uh HK).c3
 have c2 := (uh HP).c2
 rcases Classical.em (∃ x, x ∈ X /\ x.1 = k) with ⟨x, hx, hxk⟩ | hno
 ·have hlk := lookL_at ((uh HP).below (below_drew _)).map x hx
  rw [hxk] at hlk
  unfold keyV at hlk
  go_enter Tryz.func99, Tryz.ntmps99
  go_wp2
  generalize ((w.alloc (.cells #[.int .i64 k.kind, .int .i64 k.a, .string k.word, .int .i64 k.b] 73)).alloc (.cells #[.int .i64 lo, .int .i64 hi] 79)) = W0 at *
  refine wp_region_tail (fun y => y = W0.drew) 6 (by kernel_rfl) (by kernel_rfl) rfl (fun hHeld => ?_)
  refine takeH 0 (h := ?_)
  try simp only [Act.put, sI, sZ, sS]
  refine takeH 1 (h := ?_)
  try simp only [Act.put, sI, sZ, sS]
  refine takeH 2 (h := ?_)
  try simp only [Act.put, sI, sZ, sS]
  refine takeH 3 (h := ?_)
  try simp only [Act.put, sI, sZ, sS]
  refine takeH 4 (h := ?_)
  try simp only [Act.put, sI, sZ, sS]
  refine takeH 5 (h := ?_)
  try simp only [Act.put, sI, sZ, sS]
  refine wpAnyH_done (by kernel_rfl) ?_ _
  show wpList _ _ _ _ _ _
  clear hHeld hlk k0 k1 k2 k3 c2
  have HL := zh (((uh HP).line x hx).below (below_drew W0))
  have HBd := zh ((uh HB).trans ((below_drew W0).mono (uh HB).size))
  have s0 : W0.drew.cell? ⟨w.heap.size + 1, 0, none⟩ = some (.int .i64 lo) := (uh HSp).1
  have s1 : W0.drew.cell? ⟨w.heap.size + 1, 1, none⟩ = some (.int .i64 hi) := (uh HSp).2
  clear HP HK HB HSp
  obtain ⟨mm, D, G, hLX⟩ := uh HL
  have HLX := zh hLX
  have v0 := hLX.c0
  have hVl : (Ln x.2).1.length <= 4000 := by
   have q1 := ((uh HS).ok x hx).len
   have q2 := ((uh HS).m0 x hx).2
   omega
  have HOk := zh ((uh HS).ok x hx)
  clear hLX HL
  generalize hWd : W0.drew = Wd at *
  clear hWd
  generalize hV : (Ln x.2).1 = V at *
  have HVe := zh hV
  clear hV
  go_wp2_with (first | (at_range; refine wpList_range_own _ rfl _ 199 rfl 3 207 keyedV Tryz.underlying199 verElem mm V.length D rfl (uh HLX).own ?_; intro w0 hrg0 hg0 hs0))
  try go_frame
  have HS0 : Hid (SdI w x.2 mm Wd.heap.size V.length V (Ln x.2).2 D G (Fs x.2) from_ to lo hi (w.heap.size + 1) (Maps.has D) (Maps.has D) (Maps.size D) (.slice none 0 0) [] w0) := by
   have hb0 := below_grown_none hg0
   have hsl := lt_of_cell s0
   refine ⟨(uh HLX).below hb0, hrg0, World.ownsRow_nil _ _ _ _, ?_, (uh HBd).trans (hb0.mono (uh HBd).size), (uh HLX).lt, (uh HBd).size, by omega, hsl, (hb0.cell (p := ⟨w.heap.size + 1, 0, none⟩) hsl).trans s0, (hb0.cell (p := ⟨w.heap.size + 1, 1, none⟩) hsl).trans s1⟩
   rw [List.filter_eq_nil_iff.2 (fun v hv => by rw [(uh HLX).keys.has v hv]; simp)]
   exact List.Perm.refl _
  have HKv := zh (uh HLX).keys
  clear hrg0 hg0 hs0 HLX v0 s0 s1 HBd
  go_loopw [12] (fun u y => ∃ left cnt out, SdI w x.2 mm Wd.heap.size V.length V (Ln x.2).2 D G (Fs x.2) from_ to lo hi (w.heap.size + 1) left left cnt u out y) (fun _ y => y.rangeLeft mm Wd.heap.size)
  case atStart => exact ⟨_, _, [], uh HS0⟩
  case round =>
   clear HS0
   obtain ⟨left, cnt, out, hI⟩ := hrel
   have HI := zh hI
   clear hI
   go_wp2_with (first | (at_next; refine wpList_next_ranges _ rfl _ rfl 3 keyedV verElem (Value.int .i64) verV (fun key kl hkey => by obtain ⟨x, rfl, _⟩ := Maps.keyOf_int_inv Tryz.underlying3 hkey; exact ⟨x, rfl⟩) verElem_inv mm Wd.heap.size V.length D left cnt rfl (uh HI).rg ?done ?more))
   case done =>
    intro _ hl0
    have HG : Hid (∃ out, saidX X Ln k from_ to lo hi out /\ GivesP w out (.returned u12) wr) := by
     refine ⟨out, ⟨_, .inl ⟨x, hx, hxk, rfl⟩, ?_⟩, u12, rfl, ownsRow_rebase (show World.ownsRow _ _ _ _ _ _ _ from (uh HI).row) (Nat.le_succ_of_le (uh HI).wr), (uh HI).low⟩
     have q := (uh HI).perm
     unfold saidV metV
     rw [uh HVe, List.filter_filter]
     refine q.trans (List.Perm.of_eq ?_)
     congr 1
     refine List.filter_congr fun v _ => ?_
     rw [hl0]
     rfl
    obtain ⟨ad, c, rfl⟩ := row_slice (show World.ownsRow _ _ _ _ _ _ _ from (uh HI).row)
    clear hl0 HI
    go_wp2
    go_ret
    exact uh HG
   case more =>
    intro xk c kl y ps w1 cnt1 hkey hlx hv hat hrg1 hlt hg1 hs1 hen
    obtain ⟨x', ex, rfl, hwx⟩ := Maps.keyOf_int_inv Tryz.underlying3 hkey
    cases ex
    obtain ⟨v, hvV, rfl, hc⟩ := (uh HKv).met hv hat
    rw [hc] at hen ⊢
    unfold verV at hen ⊢
    have HL1 := zh ((uh HI).came hg1 hrg1)
    have HB2 := zh (below_box w1 (.cells #[.int .i64 v.lo, .int .i64 v.hi, .string v.val, .int .i64 v.s0, .int .i64 v.s1] 207))
    have HL2 := zh ((uh HL1).below (uh HB2))
    have p0 : (w1.alloc (.cells #[.int .i64 v.lo, .int .i64 v.hi, .string v.val, .int .i64 v.s0, .int .i64 v.s1] 207)).cell? ⟨w1.heap.size, 0, none⟩ = some (.int .i64 v.lo) := by simp
    have p1 : (w1.alloc (.cells #[.int .i64 v.lo, .int .i64 v.hi, .string v.val, .int .i64 v.s0, .int .i64 v.s1] 207)).cell? ⟨w1.heap.size, 1, none⟩ = some (.int .i64 v.hi) := by simp
    have p2 : (w1.alloc (.cells #[.int .i64 v.lo, .int .i64 v.hi, .string v.val, .int .i64 v.s0, .int .i64 v.s1] 207)).cell? ⟨w1.heap.size, 2, none⟩ = some (.string v.val) := by simp
    have p3 : (w1.alloc (.cells #[.int .i64 v.lo, .int .i64 v.hi, .string v.val, .int .i64 v.s0, .int .i64 v.s1] 207)).cell? ⟨w1.heap.size, 3, none⟩ = some (.int .i64 v.s0) := by simp
    have p4 : (w1.alloc (.cells #[.int .i64 v.lo, .int .i64 v.hi, .string v.val, .int .i64 v.s0, .int .i64 v.s1] 207)).cell? ⟨w1.heap.size, 4, none⟩ = some (.int .i64 v.s1) := by simp
    have t0 := (uh HL2).s0
    have t1 := (uh HL2).s1
    have HMs := zh hlt
    have HCt := zh (uh HI).rg.left_eq
    have HLk := zh hlx
    have HVV := zh hvV
    have HOn : Hid (∀ z, z ∈ V -> z.n = v.n -> z = v) := fun z hz e => one_of (uh HOk) hz hvV e
    have hmt := meet_is v lo hi
    clear hkey hv hat hrg1 hlt hlx hg1 hs1 hc HI HL1 HB2 hvV
    by_cases hm : mlo v.lo lo < mhi v.hi hi
    ·rw [decide_eq_true hm] at hmt
     have HM := zh hm
     clear hm
     go_wp2_with fail
     refine (span_Meet_yes v.lo v.hi lo hi _ (by have := uh HM; omega)).mono ?_
     rintro e Wm ⟨rfl, bm⟩
     have HB3 := zh (below_box Wm (.cells #[.int .i64 (mlo v.lo lo), .int .i64 (mhi v.hi hi)] 79))
     have hbm := bm.trans ((uh HB3).mono bm.size)
     have r0 := (hbm.cell (p := ⟨w1.heap.size, 0, none⟩) (lt_of_cell p0)).trans p0
     have r1 := (hbm.cell (p := ⟨w1.heap.size, 1, none⟩) (lt_of_cell p1)).trans p1
     have r2 := (hbm.cell (p := ⟨w1.heap.size, 2, none⟩) (lt_of_cell p2)).trans p2
     have r3 := (hbm.cell (p := ⟨w1.heap.size, 3, none⟩) (lt_of_cell p3)).trans p3
     have r4 := (hbm.cell (p := ⟨w1.heap.size, 4, none⟩) (lt_of_cell p4)).trans p4
     have HL4 := zh ((uh HL2).below hbm)
     clear bm hbm p0 p1 p2 p3 p4 t0 t1 HL2 hen HB3
     by_cases q1 : v.s0 <= to
     ·by_cases q2 : from_ < v.s1
      ·have HLv : Hid ((liveB from_ to v && meetB lo hi v.ent) = true) := by
        unfold Hid
        rw [hmt]
        unfold liveB
        rw [decide_eq_true ⟨q1, q2⟩]
        rfl
       have HB5 := zh (below_box (Wm.alloc (.cells #[.int .i64 (mlo v.lo lo), .int .i64 (mhi v.hi hi)] 79)) (.cells #[.int .i64 v.lo, .int .i64 v.hi, .string v.val] 107))
       have HL5 := zh ((uh HL4).below (uh HB5))
       have hsh : out.length <= 4000 := Nat.le_trans (uh HL4).short hVl
       have hrs := (uh HL5).rs
       have y0 : ((Wm.alloc (.cells #[.int .i64 (mlo v.lo lo), .int .i64 (mhi v.hi hi)] 79)).alloc (.cells #[.int .i64 v.lo, .int .i64 v.hi, .string v.val] 107)).cell? ⟨Wm.heap.size + 1, 0, none⟩ = some (.int .i64 v.lo) := by
        rw [show Wm.heap.size + 1 = (Wm.alloc (.cells #[.int .i64 (mlo v.lo lo), .int .i64 (mhi v.hi hi)] 79)).heap.size by simp]
        simp
       have y1 : ((Wm.alloc (.cells #[.int .i64 (mlo v.lo lo), .int .i64 (mhi v.hi hi)] 79)).alloc (.cells #[.int .i64 v.lo, .int .i64 v.hi, .string v.val] 107)).cell? ⟨Wm.heap.size + 1, 1, none⟩ = some (.int .i64 v.hi) := by
        rw [show Wm.heap.size + 1 = (Wm.alloc (.cells #[.int .i64 (mlo v.lo lo), .int .i64 (mhi v.hi hi)] 79)).heap.size by simp]
        simp
       have y2 : ((Wm.alloc (.cells #[.int .i64 (mlo v.lo lo), .int .i64 (mhi v.hi hi)] 79)).alloc (.cells #[.int .i64 v.lo, .int .i64 v.hi, .string v.val] 107)).cell? ⟨Wm.heap.size + 1, 2, none⟩ = some (.string v.val) := by
        rw [show Wm.heap.size + 1 = (Wm.alloc (.cells #[.int .i64 (mlo v.lo lo), .int .i64 (mhi v.hi hi)] 79)).heap.size by simp]
        simp
       have hd3 : out.length < 1099511627776 := by omega
       have HY0 := zh y0
       have HY1 := zh y1
       have HY2 := zh y2
       have HD3 := zh hd3
       have HD4 : Hid (Wd.heap.size + 1 <= ((Wm.alloc (.cells #[.int .i64 (mlo v.lo lo), .int .i64 (mhi v.hi hi)] 79)).alloc (.cells #[.int .i64 v.lo, .int .i64 v.hi, .string v.val] 107)).heap.size) := hrs
       clear HL4 hmt y0 y1 y2 hd3 hrs
       go_wp2_with (first
        | (at_builtin; refine wpList_appP _ rfl (.tmp 57) (.tmp 60) rfl (Wd.heap.size + 1) _ out rfl (uh HL5).row (Wm.heap.size + 1) v.lo v.hi v.val rfl (uh HY0) (uh HY1) (uh HY2) (uh HD3) (uh HD4) ?_))
       intro v2 w2 e1 e2
       have e1' : RowP w2 (Wd.heap.size + 1) v2 (out ++ [v.pc]) := by
        unfold RowP
        rw [List.length_append]
        exact e1
       have HL6 := zh ((uh HL5).add (uh HOk).rising (uh HVV) (uh HLk) (uh HLv) e2 e1')
       obtain ⟨ad2, cap2, rfl⟩ := row_slice (show World.ownsRow _ _ _ _ _ _ _ from e1)
       have HCn : Hid (w2.rangeLeft mm Wd.heap.size < wr.rangeLeft mm Wd.heap.size) := by
        have := uh HMs
        show _ < _
        rw [(uh HL6).rg.left_eq, uh HCt]
        omega
       clear e1 e1' e2 HL5 HB5 r0 r1 r2 r3 r4 HY0 HY1 HY2 HD3 HD4
       go_wp2
       go_roundw
       case rel => exact ⟨_, _, _, uh HL6⟩
       case measure => exact uh HCn
      ·have HL6 := zh ((uh HL4).skip (uh HOn) (by unfold liveB; rw [decide_eq_false (fun z => q2 z.2)]; rfl))
       have HCn : Hid ((Wm.alloc (.cells #[.int .i64 (mlo v.lo lo), .int .i64 (mhi v.hi hi)] 79)).rangeLeft mm Wd.heap.size < wr.rangeLeft mm Wd.heap.size) := by
        have := uh HMs
        show _ < _
        rw [(uh HL6).rg.left_eq, uh HCt]
        omega
       clear HL4 hmt
       go_wp2
       go_roundw
       case rel => exact ⟨_, _, _, uh HL6⟩
       case measure => exact uh HCn
     ·have HL6 := zh ((uh HL4).skip (uh HOn) (by unfold liveB; rw [decide_eq_false (fun z => q1 z.1)]; rfl))
      have HCn : Hid ((Wm.alloc (.cells #[.int .i64 (mlo v.lo lo), .int .i64 (mhi v.hi hi)] 79)).rangeLeft mm Wd.heap.size < wr.rangeLeft mm Wd.heap.size) := by
       have := uh HMs
       show _ < _
       rw [(uh HL6).rg.left_eq, uh HCt]
       omega
      clear HL4 hmt
      go_wp2
      go_roundw
      case rel => exact ⟨_, _, _, uh HL6⟩
      case measure => exact uh HCn
    ·rw [decide_eq_false hm] at hmt
     have HM := zh hm
     clear hm
     go_wp2_with fail
     refine (span_Meet_no v.lo v.hi lo hi _ (by have := uh HM; omega)).mono ?_
     rintro e Wm ⟨rfl, bm⟩
     have HB3 := zh (below_box Wm (.cells #[.int .i64 0, .int .i64 0] 79))
     have HL6 := zh (((uh HL2).below (bm.trans ((uh HB3).mono bm.size))).skip (uh HOn) (by rw [hmt]; simp))
     have HCn : Hid ((Wm.alloc (.cells #[.int .i64 0, .int .i64 0] 79)).rangeLeft mm Wd.heap.size < wr.rangeLeft mm Wd.heap.size) := by
      have := uh HMs
      show _ < _
      rw [(uh HL6).rg.left_eq, uh HCt]
      omega
     clear bm p0 p1 p2 p3 p4 t0 t1 HL2 hen HB3 hmt
     go_wp2
     go_roundw
     case rel => exact ⟨_, _, _, uh HL6⟩
     case measure => exact uh HCn
 ·have hno' : ∀ x, x ∈ X -> x.1 ≠ k := fun x hx e => hno ⟨x, hx, e⟩
  have hlk := lookL_none ((uh HP).below (below_drew _)).map k hk hno'
  unfold keyV at hlk
  go_enter Tryz.func99, Tryz.ntmps99
  go_wp2
  generalize ((w.alloc (.cells #[.int .i64 k.kind, .int .i64 k.a, .string k.word, .int .i64 k.b] 73)).alloc (.cells #[.int .i64 lo, .int .i64 hi] 79)) = W0 at *
  refine wp_region_tail (fun y => y = W0.drew) 6 (by kernel_rfl) (by kernel_rfl) rfl (fun hHeld => ?_)
  refine takeH 0 (h := ?_)
  try simp only [Act.put, sI, sZ, sS]
  refine takeH 1 (h := ?_)
  try simp only [Act.put, sI, sZ, sS]
  refine takeH 2 (h := ?_)
  try simp only [Act.put, sI, sZ, sS]
  refine takeH 3 (h := ?_)
  try simp only [Act.put, sI, sZ, sS]
  refine takeH 4 (h := ?_)
  try simp only [Act.put, sI, sZ, sS]
  refine takeH 5 (h := ?_)
  try simp only [Act.put, sI, sZ, sS]
  refine wpAnyH_done (by kernel_rfl) ?_ _
  show wpList _ _ _ _ _ _
  clear hHeld hlk k0 k1 k2 k3 c2
  have HBd := zh ((uh HB).trans ((below_drew W0).mono (uh HB).size))
  clear HP HK HB HSp
  go_wp2
  go_ret
  exact ⟨[], ⟨[], .inr ⟨hno', rfl⟩, List.Perm.refl _⟩, _, rfl, by simpa [encP] using World.ownsRow_nil _ _ _ _, uh HBd⟩
end Go.Proofs.YtbmkmfoaoganeaaGreatDoor

namespace Go.Proofs.YtbmkmfoaoganeaaGreatDoor
open Go.RowKit Go.Maps
def countErr (now known at_ : Int) : Int := if at_ < 0 \/ now < at_ then 2 else if at_ < known then 7 else 0
theorem past_count {w : World} {P : Pl} {now known : Int} (c0 : w.cell? ⟨P.b, P.o, none⟩ = some (.int .i64 now)) (c1 : w.cell? ⟨P.b, P.o + 1, none⟩ = some (.int .i64 known)) (at_ : Int) :
  Calls Tryz.prog 96 #[.pointer (some ⟨P.b, P.o, none⟩), .int .i64 at_] w fun e w' => e = .returned (errV (countErr now known at_)) /\ w' = w := by
 by_cases h1 : at_ < 0
 ·have e : Hid (countErr now known at_ = 2) := by unfold Hid countErr; rw [if_pos (.inl h1)]
  go_enter Tryz.func96, Tryz.ntmps96
  go_wp2
  go_ret
  exact ⟨by rw [uh e]; rfl, rfl⟩
 ·by_cases h2 : now < at_
  ·have e : Hid (countErr now known at_ = 2) := by unfold Hid countErr; rw [if_pos (.inr h2)]
   go_enter Tryz.func96, Tryz.ntmps96
   go_wp2
   go_ret
   exact ⟨by rw [uh e]; rfl, rfl⟩
  ·by_cases h3 : at_ < known
   ·have e : Hid (countErr now known at_ = 7) := by unfold Hid countErr; rw [if_neg (by omega), if_pos h3]
    go_enter Tryz.func96, Tryz.ntmps96
    go_wp2
    go_ret
    exact ⟨by rw [uh e]; rfl, rfl⟩
   ·have e : Hid (countErr now known at_ = 0) := by unfold Hid countErr; rw [if_neg (by omega), if_neg h3]
    go_enter Tryz.func96, Tryz.ntmps96
    go_wp2
    go_ret
    exact ⟨by rw [uh e]; rfl, rfl⟩
theorem past_moment (t : Int) (w : World) (h0 : -1099511627776 <= t) (h1 : t < 1099511627776) :
  Calls Tryz.prog 108 #[.int .i64 t] w fun e w' => e = .returned (.agg #[.int .i64 t, .int .i64 (t + 1)]) /\ Below w.heap.size w w' := by
 go_enter Tryz.func108, Tryz.ntmps108
 go_wp2
 exact bodyPost_ret (v := .agg #[.int .i64 t, .int .i64 (t + 1)]) (by simp [results, Tryz.results108, go_sem]) rfl ⟨rfl, below_box _ _⟩
theorem metV_iff {V : List Ver} {lo hi : Int} (_hR : rightB lo hi = true) {v : Ver} : v ∈ metV V lo hi ↔ v ∈ V /\ meetB lo hi v.ent = true := by
 unfold metV
 rw [List.mem_filter]
theorem said_value {X : List (Ky × Nat)} {Ln : Nat -> List Ver × Int} {now known bd : Int} {S : Ky -> Int -> Int -> ByteArray} (h : Pst X Ln now known bd S) {k : Ky} {at_ t : Int} (h1 : known <= at_) (h2 : at_ <= now) (hR : rightB t (t + 1) = true) {out : List (Int × Int × ByteArray)} (ho : saidX X Ln k at_ at_ t (t + 1) out) :
  (out = [] /\ S k at_ t = ByteArray.empty) \/ ∃ p r, out = p :: r /\ p.2.2 = S k at_ t := by
 obtain ⟨o, ho, hp⟩ := ho
 rcases ho with ⟨x, hx, rfl, rfl⟩ | ⟨hno, rfl⟩
 ·obtain ⟨k1, k2⟩ := h.tells x hx at_ h1 h2 t
  have lv : ∀ v, v ∈ (metV (Ln x.2).1 t (t + 1)).filter (liveB at_ at_) ↔ v ∈ (Ln x.2).1 /\ v.live at_ /\ v.has t := fun v => by
   rw [List.mem_filter, metV_iff hR]
   unfold liveB meetB
   rw [decide_eq_true_eq, decide_eq_true_eq]
   constructor
   ·rintro ⟨⟨q1, q2⟩, q3⟩
    have q2' : max t v.lo < min (t + 1) v.hi := q2
    exact ⟨q1, ⟨q3.1, q3.2⟩, ⟨by omega, by omega⟩⟩
   ·rintro ⟨q1, q2, q3⟩
    have a : v.lo <= t := q3.1
    have b : t < v.hi := q3.2
    refine ⟨⟨q1, ?_⟩, q2.1, q2.2⟩
    show max t v.lo < min (t + 1) v.hi
    omega
  rcases out with _ | ⟨p, r⟩
  ·left
   refine ⟨rfl, ?_⟩
   rcases Classical.em (S x.1 at_ t = ByteArray.empty) with e | e
   ·exact e
   ·obtain ⟨v, hv, hl, hh⟩ := k2 e
    have := hp.mem_iff.2 (List.mem_map.2 ⟨v, (lv v).2 ⟨hv, hl, hh⟩, rfl⟩)
    cases this
  ·right
   obtain ⟨v, hv, e⟩ := List.mem_map.1 (hp.mem_iff.1 (show p ∈ p :: r by simp))
   obtain ⟨hv, hl, hh⟩ := (lv v).1 hv
   exact ⟨p, r, rfl, by rw [<- e]; exact k1 v hv hl hh⟩
 ·exact .inl ⟨List.perm_nil.1 hp, h.none k hno at_ h1 h2 t⟩
theorem own_pieces {w : World} {base : Nat} {v : Value} {l : List (Int × Int × ByteArray)} (h : w.ownsRow base 107 3 v l.length (encP l)) : ∃ g ad c, v = .slice ad l.length c /\ ∀ j, (hj : j < l.length) -> ad = some ⟨g, 0, none⟩ /\ base <= g /\ w.cell? ⟨g, j * 3, none⟩ = some (.int .i64 l[j].1) /\ w.cell? ⟨g, j * 3 + 1, none⟩ = some (.int .i64 l[j].2.1) /\ w.cell? ⟨g, j * 3 + 2, none⟩ = some (.string l[j].2.2) := by
 obtain ⟨_, h2⟩ := h
 rcases h2 with ⟨h2, h3⟩ | ⟨g, cap, cur, hv, hg, hh, h3, h4, h5, h6⟩
 ·exact ⟨0, none, 0, by rw [h2, h3], fun j hj => by omega⟩
 ·refine ⟨g, _, cap, hv, fun j hj => ⟨rfl, hg, ?_⟩⟩
  have hc0 : cur.toList[j * 3]? = some (.int .i64 l[j].1) := by
   rw [<- List.getElem?_take_of_lt (show j * 3 < l.length * 3 by omega), h6]; exact (encP_at l j hj).1
  have hc1 : cur.toList[j * 3 + 1]? = some (.int .i64 l[j].2.1) := by
   rw [<- List.getElem?_take_of_lt (show j * 3 + 1 < l.length * 3 by omega), h6]; exact (encP_at l j hj).2.1
  have hc2 : cur.toList[j * 3 + 2]? = some (.string l[j].2.2) := by
   rw [<- List.getElem?_take_of_lt (show j * 3 + 2 < l.length * 3 by omega), h6]; exact (encP_at l j hj).2.2
  unfold World.cell?
  simp only [hh]
  rw [<- Array.getElem?_toList, <- Array.getElem?_toList, <- Array.getElem?_toList]
  exact ⟨hc0, hc1, hc2⟩
theorem value_ok {w : World} {P : Pl} {now known bd : Int} {S : Ky -> Int -> Int -> ByteArray} {F : Nat -> Prop} (h : PastW w P now known bd S F) (hb1 : bd <= 4000) (k : Ky) (hk : KyOk k) (hkb : keyB k.kind k.a k.word k.b = true) (at_ t : Int) (h0 : 0 <= at_) (h1 : known <= at_) (h2 : at_ <= now) (t0 : -1099511627776 <= t) (t1 : t < 1099511627776) :
  Calls Tryz.prog 77 #[.pointer (some ⟨P.b, P.o, none⟩), .agg #[.int .i64 k.kind, .int .i64 k.a, .string k.word, .int .i64 k.b], .int .i64 at_, .int .i64 t] w fun e w' => e = .returned (.tuple #[.string (S k at_ t), .nilIface]) /\ Below w.heap.size w w' := by
 have HB1 := zh (below_box w (.cells #[.int .i64 k.kind, .int .i64 k.a, .string k.word, .int .i64 k.b] 73))
 have HP := zh (h.below (uh HB1))
 have HK := zh (boxK_new w k)
 have hR : rightB t (t + 1) = true := decide_eq_true ⟨t0, by omega, by omega⟩
 have hce : errV (countErr now known at_) = .nilIface := by
  have : countErr now known at_ = 0 := by unfold countErr; rw [if_neg (by omega), if_neg (by omega)]
  rw [this]; rfl
 have HC : Hid (∀ W, PastW W P now known bd S F -> Calls Tryz.prog 96 #[.pointer (some ⟨P.b, P.o, none⟩), .int .i64 at_] W fun e w' => e = .returned .nilIface /\ w' = W) := fun W hW => by
  obtain ⟨mv, X, Ln, Fs, p, _⟩ := hW
  rw [<- hce]
  exact past_count p.c0 p.c1 at_
 have HKy := zh (fun W => fact_Key k.kind k.a k.word k.b W hk.word)
 rw [hkb] at HKy
 have HM := zh (fun W => past_moment t W t0 t1)
 have HRt := zh (fun W => span_Right t (t + 1) W)
 rw [hR] at HRt
 have k0 := (uh HK).c0
 have k1 := (uh HK).c1
 have k2 := (uh HK).c2
 have k3 := (uh HK).c3
 have HRr := zh hR
 clear h hce hkb hR
 go_enter Tryz.func77, Tryz.ntmps77
 go_wp2_with fail
 generalize w.alloc (.cells #[.int .i64 k.kind, .int .i64 k.a, .string k.word, .int .i64 k.b] 73) = W0 at *
 refine (uh HC _ (uh HP)).mono ?_
 rintro e W1 ⟨rfl, rfl⟩
 go_wp2_with fail
 refine (uh HKy _).mono ?_
 rintro e W2 ⟨rfl, hW2⟩
 have b2 : Below W1.heap.size W1 W2 := by rw [hW2]; exact below_box _ _
 have HP2 := zh ((uh HP).below b2)
 have HK2 := zh ((uh HK).below b2)
 have HB2 := zh ((uh HB1).trans (b2.mono (uh HB1).size))
 clear hW2 b2 HP HK HB1 k0 k1 k2 k3 HC HKy
 go_wp2_with fail
 refine (uh HM _).mono ?_
 rintro e W3 ⟨rfl, b3⟩
 have HP3 := zh ((uh HP2).below b3)
 have HK3 := zh ((uh HK2).below b3)
 have HB3 := zh ((uh HB2).trans (b3.mono (uh HB2).size))
 clear b3 HP2 HK2 HB2
 go_wp2_with fail
 refine (uh HRt _).mono ?_
 rintro e W4 ⟨rfl, hW4⟩
 have b4 : Below W3.heap.size W3 W4 := by rw [hW4]; exact below_box _ _
 have HP4 := zh ((uh HP3).below b4)
 have HK4 := zh ((uh HK3).below b4)
 have HB4 := zh ((uh HB3).trans (b4.mono (uh HB3).size))
 clear hW4 b4 HP3 HK3 HB3 HRt
 go_wp2
 have k0 := (uh HK4).c0
 have k1 := (uh HK4).c1
 have k2 := (uh HK4).c2
 have k3 := (uh HK4).c3
 obtain ⟨mv, X, Ln, Fs, pX, pS, _, _⟩ := uh HP4
 have HPX := zh pX
 have HPS := zh pS
 clear pX pS
 go_region_held3 (fun y => y.cell? ⟨w.heap.size, 0, none⟩ = some (.int .i64 k.kind) /\ y.cell? ⟨w.heap.size, 1, none⟩ = some (.int .i64 k.a) /\ y.cell? ⟨w.heap.size, 2, none⟩ = some (.string k.word) /\ y.cell? ⟨w.heap.size, 3, none⟩ = some (.int .i64 k.b))
  (first | exact vs2 | exact vs1 | exact ⟨k0, k1, k2, k3⟩)
  (first
   | (go_at_call 99; refine (past_said ((uh HPX).below bm') (uh HPS) hb1 k hk at_ at_ t (t + 1)).mono ?_; rintro e Ws ⟨out, hx, v, rfl, ho, bs⟩; have vs2 : Ws.cell? ⟨w.heap.size, 0, none⟩ = some (.int .i64 k.kind) /\ Ws.cell? ⟨w.heap.size, 1, none⟩ = some (.int .i64 k.a) /\ Ws.cell? ⟨w.heap.size, 2, none⟩ = some (.string k.word) /\ Ws.cell? ⟨w.heap.size, 3, none⟩ = some (.int .i64 k.b) := ⟨(vk1.below bs).c0, (vk1.below bs).c1, (vk1.below bs).c2, (vk1.below bs).c3⟩; obtain ⟨g, ad, c, rfl, hf⟩ := own_pieces ho)
   | (go_at_call 108; refine (uh HM _).mono ?_; rintro e Wm ⟨rfl, bm⟩; have bm' := (below_drew W4).trans bm; have vk1 := (uh HK4).below bm'; have vs1 : Wm.cell? ⟨w.heap.size, 0, none⟩ = some (.int .i64 k.kind) /\ Wm.cell? ⟨w.heap.size, 1, none⟩ = some (.int .i64 k.a) /\ Wm.cell? ⟨w.heap.size, 2, none⟩ = some (.string k.word) /\ Wm.cell? ⟨w.heap.size, 3, none⟩ = some (.int .i64 k.b) := ⟨vk1.c0, vk1.c1, vk1.c2, vk1.c3⟩))
 rename_i hh
 have HBs := zh ((uh HB4).trans ((bm'.trans (bs.mono bm'.size)).mono (uh HB4).size))
 have hsv := said_value (uh HPS) h1 h2 (uh HRr) hx
 clear hh vs1 vs2 vk1 bm bm' bs ho hx HPX HPS HP4 HK4 HB4 k0 k1 k2 k3 HM HRr
 rcases hsv with ⟨rfl, hs⟩ | ⟨p, r, rfl, hs⟩
 ·have HSv := zh hs
  clear hs hf
  go_wp2
  go_ret2
  exact ⟨by rw [uh HSv]; rfl, uh HBs⟩
 ·obtain ⟨rfl, _, _, _, q2⟩ := hf 0 (by simp)
  have HSv := zh hs
  clear hs hf
  have q2' : Ws.cell? ⟨g, 2, none⟩ = some (.string p.2.2) := by simpa using q2
  clear q2
  generalize hn : (p :: r).length = n
  have hn0 : (0 : Int) < (n : Int) := by rw [<- hn]; simp
  have hn1 : ¬ (n : Int) = 0 := by omega
  clear hn
  go_wp2
  go_ret2
  exact ⟨by rw [<- uh HSv]; rfl, uh HBs⟩
end Go.Proofs.YtbmkmfoaoganeaaGreatDoor

namespace Go.Proofs.YtbmkmfoaoganeaaGreatDoor
open Go.RowKit Go.Sort Go.Shelf Go.Lib
def encQ (x : Int × Int × ByteArray) : List Value := [.int .i64 x.1, .int .i64 x.2.1, .string x.2.2]
theorem encP_get (l : List (Int × Int × ByteArray)) (t : Nat) (h : t < l.length * 3) : (encP l)[t]? = some ((encQ ((l[t / 3]?).getD (0, 0, ByteArray.empty)))[t % 3]!) := by
 induction l generalizing t with
 | nil => simp at h
 | cons x l ih =>
  match t with
  | 0 => simp [encP, encQ]
  | 1 => simp [encP, encQ]
  | 2 => simp [encP, encQ]
  | t + 3 =>
   have := ih t (by simp at h; omega)
   rw [show (t + 3) / 3 = t / 3 + 1 by omega, show (t + 3) % 3 = t % 3 by omega]
   simp only [encP, gS]
   exact this
theorem get_bang (l : List (Int × Int × ByteArray)) [Inhabited (Int × Int × ByteArray)] (i : Nat) (h : i < l.length) : l.toArray[i]! = (l[i]?).getD (0, 0, ByteArray.empty) := by
 simp [h]
theorem flat_encP (l : List (Int × Int × ByteArray)) : (flatK encQ 3 l.toArray).toList = encP l := by
 apply List.ext_getElem?
 intro t
 by_cases h : t < l.length * 3
 ·rw [encP_get l t h]
  have hs : t < (flatK encQ 3 l.toArray).size := by simpa using h
  rw [Array.getElem?_toList, Array.getElem?_eq_getElem hs]
  have := get_flatK encQ 3 l.toArray t (by simpa using h)
  rw [getElem!_pos _ t hs] at this
  rw [this, get_bang l (t / 3) (by omega)]
 ·rw [List.getElem?_eq_none (by simp; omega), List.getElem?_eq_none (by rw [encP_length]; omega)]
theorem heap_sortedG {w : World} {g n : Nat} {os : Array Obj} {cur : Array Value} {e : TypeId} {fr : Nat × Nat} (d : Array Value) (hb : w.heap[g]? = some (.cells cur e fr)) :
  (grow (putRow id (Sort.ahead w n) g 0 d) os).heap[g]? = some (.cells (putCells id 0 d cur) e fr) := by
 have hg : g < w.heap.size := (Array.getElem?_eq_some_iff.1 hb).1
 rw [heap_grow_old _ _ (by simpa using hg)]
 simp [putRow, mapBlock, Sort.ahead, Array.getElem?_modify, hb, onCells]
theorem grownBy_sortedG {w : World} {g n : Nat} {os : Array Obj} (d : Array Value) : w.grownBy (grow (putRow id (Sort.ahead w n) g 0 d) os) (some g) := by
 refine ⟨rfl, rfl, rfl, by simp, fun k hk hne => ?_⟩
 rw [heap_grow_old _ _ (by simpa using hk)]
 have : g ≠ k := fun e => hne (by rw [e])
 simp [putRow, mapBlock, Sort.ahead, Array.getElem?_modify, this]
theorem take_putCellsG (cur d : Array Value) (h : d.size <= cur.size) : (putCells id 0 d cur).toList.take d.size = d.toList := by
 apply List.ext_getElem?
 intro j
 by_cases hj : j < d.size
 ·rw [List.getElem?_take_of_lt hj, Array.getElem?_toList]
  simp [putCells, hj, show j < cur.size by omega]
 ·rw [List.getElem?_take_eq_none (by omega), List.getElem?_eq_none (by simp; omega)]
theorem pieces_closure (x y : Int × Int × ByteArray) (W : World) : Calls Tryz.prog 115 #[.agg #[.int .i64 x.1, .int .i64 x.2.1, .string x.2.2], .agg #[.int .i64 y.1, .int .i64 y.2.1, .string y.2.2]] W fun e w' => e = .returned (.int .i64 (Lib.compareInt x.1 y.1)) /\ ∃ q os', w' = grow (W.drewN q) os' := by
 have hcon := zh (fun W' => compare_int x.1 y.1 W')
 generalize Lib.compareInt x.1 y.1 = r at hcon ⊢
 go_enter Tryz.func115, Tryz.ntmps115
 go_wp2_with fail
 refine (uh hcon _).mono ?_
 rintro e w' ⟨rfl, rfl⟩
 go_wp2
 go_ret
 exact ⟨rfl, 0, _, by rw [alloc_eq_grow, alloc_eq_grow, grow_grow]; rfl⟩
theorem pieces_cmpLays (blk off size : Nat) (w : World) : CmpLays Tryz.prog 115 #[] encQ 3 (fun x y => Lib.compareInt x.1 y.1) blk off size w :=
 fun _ _ _ _ x y => pieces_closure x y _
theorem ltPiece (x y : Int × Int × ByteArray) : ltOf (fun x y : Int × Int × ByteArray => Lib.compareInt x.1 y.1) x y = decide (x.1 < y.1) := by
 unfold ltOf Lib.compareInt
 by_cases h1 : x.1 < y.1
 ·simp [h1]
 ·by_cases h2 : y.1 < x.1 <;> simp [h1, h2]
theorem swoPiece : SWO (ltOf fun x y : Int × Int × ByteArray => Lib.compareInt x.1 y.1) :=
 ⟨fun x => by rw [ltPiece]; simp, fun x y z h1 h2 => by rw [ltPiece] at *; simp at *; omega, fun x y z h1 h2 => by rw [ltPiece] at *; simp at *; omega⟩
theorem pieces_sort (l : List (Int × Int × ByteArray)) (v : Value) (w : World) (base : Nat) (hlen : l.length < 1099511627776) (hown : w.ownsRow base 107 3 v l.length (encP l)) :
  Calls Tryz.prog 114 #[v, .func (.func 115) #[] #[]] w fun e w' => e = .returned (.tuple #[]) /\ ∃ l', l'.Perm l /\ l'.Pairwise (fun a b => a.1 <= b.1) /\ w'.ownsRow base 107 3 v l'.length (encP l') /\ w.grownBy w' v.ownBlock := by
 rcases hown.2 with ⟨rfl, h0⟩ | ⟨g, cap, cur, rfl, hbg, hg, hnc, hcm, hcs, htake⟩
 ·have hz : l = [] := List.eq_nil_of_length_eq_zero h0
  subst hz
  have hcon := AnyF.slices_SortFunc_none Tryz.sortPieces none 0 (.func (.func 115) #[] #[]) w
  change Calls Tryz.prog 114 _ _ _ at hcon
  refine hcon.mono ?_
  rintro e w' ⟨rfl, rfl⟩
  exact ⟨rfl, [], List.Perm.refl _, List.Pairwise.nil, hown, ⟨rfl, rfl, rfl, Nat.le_refl _, fun _ _ _ => rfl⟩⟩
 ·have hgl : g < w.heap.size := (Array.getElem?_eq_some_iff.1 hg).1
  have hH : HoldsK encQ 3 w g 0 l.toArray := by
   intro j hj
   have hj' : j < l.length * 3 := by simpa using hj
   refine ⟨?_, ?_⟩
   ·rw [Nat.zero_add, hown.cellAt j hj', encP_get l j hj', get_flatK encQ 3 l.toArray j (by simpa using hj'), get_bang l (j / 3) (by omega)]
    rfl
   ·exact hown.frozenAt (0 + j)
  have eg : ∀ args w, (callFunc 115 args).run Tryz.prog w = .ok (.enter 115 args) w := enters_of Tryz.func115 (by kernel_rfl) rfl
  have hcon := AnyQ.slices_SortFunc Tryz.sortPieces 3 Tryz.isAgg107 Tryz.sizeOf107 encQ (fun _ => rfl) (fun x v hv => by simp [encQ] at hv; rcases hv with rfl | rfl | rfl <;> rfl) (fun x y => Lib.compareInt x.1 y.1) swoPiece 115 #[] g 0 cap l.toArray w eg (pieces_cmpLays g 0 l.toArray.size w) hH hgl (by simp; omega)
  change Calls Tryz.prog 114 _ _ _ at hcon
  simp only [List.size_toArray] at hcon
  refine hcon.mono ?_
  rintro e w' ⟨rfl, d', n, os, hp, hs, rfl⟩
  have hsz : d'.size = l.length := by have := hp.1; simpa using this
  have hperm : d'.toList.Perm l := by
   have := hp.2.2
   have e1 : d'.extract 0 l.length = d' := by rw [<- hsz]; simp
   have e2 : l.toArray.extract 0 l.length = l.toArray := by simp
   rw [e1, e2] at this
   exact this
  have hl2 : d'.toList.length = l.length := by simpa using hsz
  refine ⟨rfl, d'.toList, hperm, ?_, ?_, grownBy_sortedG _⟩
  ·rw [List.pairwise_iff_getElem]
   intro i j hi hj hij
   have hj' : j < d'.size := by simpa using hj
   have hi' : i < d'.size := by simpa using hi
   have := hs i j (Nat.zero_le _) hij (by simpa [hsz] using hj')
   rw [ltPiece] at this
   simp [hj', hi'] at this
   simpa using this
  ·have hb := heap_sortedG (n := n) (os := os) (flatK encQ 3 d') hg
   have hfl : (flatK encQ 3 d').toList = encP d'.toList := flat_encP d'.toList
   have hfs : (flatK encQ 3 d').size = l.length * 3 := by simp [hsz]
   refine ⟨by rw [encP_length], .inr ⟨g, cap, _, by rw [hl2], hbg, hb, by omega, hcm, by simp [putCells, hcs], ?_⟩⟩
   rw [hl2, <- hfs, take_putCellsG _ _ (by rw [hfs, hcs]; exact Nat.mul_le_mul_right _ hnc), hfl]
end Go.Proofs.YtbmkmfoaoganeaaGreatDoor

namespace Go.Proofs.YtbmkmfoaoganeaaGreatDoor
open Go.RowKit Go.Maps
def joinStep (out : List (Int × Int × ByteArray)) (x : Int × Int × ByteArray) : List (Int × Int × ByteArray) :=
 match out.getLast? with
 | none => out ++ [x]
 | some p => if p.2.1 = x.1 /\ p.2.2.data = x.2.2.data then out.dropLast ++ [(p.1, x.2.1, p.2.2)] else out ++ [x]
def joinL (l : List (Int × Int × ByteArray)) : List (Int × Int × ByteArray) := l.foldl joinStep []
theorem joinL_snoc (l : List (Int × Int × ByteArray)) (x : Int × Int × ByteArray) : joinL (l ++ [x]) = joinStep (joinL l) x := by
 unfold joinL
 rw [List.foldl_append]
 rfl
theorem joinStep_nil (x : Int × Int × ByteArray) : joinStep [] x = [x] := rfl
theorem joinStep_snoc (M : List (Int × Int × ByteArray)) (p x : Int × Int × ByteArray) : joinStep (M ++ [p]) x = if p.2.1 = x.1 /\ p.2.2 = x.2.2 then M ++ [(p.1, x.2.1, p.2.2)] else M ++ [p] ++ [x] := by
 unfold joinStep
 simp only [List.getLast?_concat, List.dropLast_concat]
 by_cases h : p.2.2 = x.2.2
 ·simp [h]
 ·have h' : ¬ p.2.2.data = x.2.2.data := fun e => h (ByteArray.ext e)
  simp [h, h']
theorem joinL_length (l : List (Int × Int × ByteArray)) : (joinL l).length <= l.length := by
 suffices ∀ (l out : List (Int × Int × ByteArray)), (l.foldl joinStep out).length <= out.length + l.length by
  have := this l []
  simpa [joinL] using this
 intro l
 induction l with
 | nil => intro out; simp
 | cons x l ih =>
  intro out
  have h1 := ih (joinStep out x)
  have h2 : (joinStep out x).length <= out.length + 1 := by
   unfold joinStep
   split
   ·simp
   ·split
    ·simp
    ·simp
  simp only [List.foldl_cons, List.length_cons]
  omega
theorem encP_set (M : List (Int × Int × ByteArray)) (a b b' : Int) (c : ByteArray) : (encP (M ++ [(a, b, c)])).set (M.length * 3 + 1) (.int .i64 b') = encP (M ++ [(a, b', c)]) := by
 rw [encP_append, encP_append, List.set_append_right _ _ (by rw [encP_length]; omega), encP_length, show M.length * 3 + 1 - M.length * 3 = 1 by omega]
 rfl
theorem past_join (l : List (Int × Int × ByteArray)) (ad : Option Addr) (cap g : Nat) (w : World) (hl : l.length <= 4000) (hf : ∀ j, (hj : j < l.length) -> ad = some ⟨g, 0, none⟩ /\ w.cell? ⟨g, j * 3, none⟩ = some (.int .i64 l[j].1) /\ w.cell? ⟨g, j * 3 + 1, none⟩ = some (.int .i64 l[j].2.1) /\ w.cell? ⟨g, j * 3 + 2, none⟩ = some (.string l[j].2.2)) :
  Calls Tryz.prog 117 #[.slice ad l.length cap] w (GivesP w (joinL l)) := by
 have HF := zh hf
 clear hf
 go_enter Tryz.func117, Tryz.ntmps117
 go_wp2
 go_loopw [3, 9] (fun out i y => ∃ j : Nat, j <= l.length /\ i = .int .i64 j /\ RowP y w.heap.size out (joinL (l.take j)) /\ Below w.heap.size w y) (fun _ i _ => l.length - (intOf i).toNat)
 case atStart => exact ⟨0, Nat.zero_le _, rfl, World.ownsRow_nil _ _ _ _, Below.refl _ _⟩
 case round =>
  obtain ⟨j, hj, rfl, hO, hB⟩ := hrel
  have HO := zh hO
  have HB := zh hB
  clear hO hB
  by_cases hlt : j < l.length
  ·have hlt' : (j : Int) < (l.length : Int) := by omega
   have hj0 : (0 : Int) <= (j : Int) := by omega
   obtain ⟨hag, q0, q1, q2⟩ := uh HF j hlt
   subst hag
   have z0 := ((uh HB).cell (p := ⟨g, j * 3, none⟩) (lt_of_cell q0)).trans q0
   have z1 := ((uh HB).cell (p := ⟨g, j * 3 + 1, none⟩) (lt_of_cell q1)).trans q1
   have z2 := ((uh HB).cell (p := ⟨g, j * 3 + 2, none⟩) (lt_of_cell q2)).trans q2
   have HJ : Hid (joinL (l.take (j + 1)) = joinStep (joinL (l.take j)) l[j]) := by
    unfold Hid
    rw [List.take_succ_eq_append_getElem hlt, joinL_snoc]
   have hLl : (joinL (l.take j)).length <= 4000 := by
    have := joinL_length (l.take j)
    rw [List.length_take] at this
    omega
   clear q0 q1 q2
   obtain ⟨x, hx⟩ : ∃ x, x = l[j] := ⟨_, rfl⟩
   rw [<- hx] at z0 z1 z2 HJ
   clear hx
   obtain ⟨x0, x1, x2⟩ := x
   dsimp only at z0 z1 z2
   generalize joinL (l.take j) = L at *
   have HB3 := zh (below_box wr (.cells #[.int .i64 x0, .int .i64 x1, .string x2] 107))
   have hWr : w.heap.size <= wr.heap.size := (uh HB).size
   have HBx := zh ((uh HB).trans ((uh HB3).mono hWr))
   have HO3 := zh ((uh HO).carry (uh HB3))
   have HOl := zh (World.ownsRow.lt (uh HO))
   rcases List.eq_nil_or_concat L with rfl | ⟨M, p, rfl⟩
   ·obtain ⟨ad2, cap2, hu⟩ := row_slice (show World.ownsRow _ _ _ _ _ _ _ from uh HO)
    subst hu
    rw [joinStep_nil] at HJ
    obtain ⟨n, hn⟩ : ∃ n : Nat, n = ([] : List (Int × Int × ByteArray)).length := ⟨_, rfl⟩
    have hn0 : n = 0 := hn
    clear hn
    subst hn0
    show Code.wp _ _ _ _ _
    clear HO
    have HO3' : Hid (RowP (wr.alloc (.cells #[.int .i64 x0, .int .i64 x1, .string x2] 107)) w.heap.size (.slice ad2 0 cap2) []) := uh HO3
    clear HO3
    simp only [List.length_nil]
    go_wp2
    go_quiet (fail)
    obtain ⟨L, hL⟩ : ∃ L : List (Int × Int × ByteArray), L = [] := ⟨_, rfl⟩
    have HL0 : Hid (joinL (l.take (j + 1)) = L ++ [(x0, x1, x2)]) := by rw [hL]; exact uh HJ
    have HO5 : Hid (RowP ((wr.alloc (.cells #[.int .i64 x0, .int .i64 x1, .string x2] 107)).drewN nq) w.heap.size (.slice ad2 0 cap2) L) := by rw [hL]; exact (uh HO3').carry (below_drewN _ nq)
    clear HJ HO3' hL
    have HB5 := zh ((uh HBx).trans ((below_drewN _ nq).mono (uh HBx).size))
    have b0 : ((wr.alloc (.cells #[.int .i64 x0, .int .i64 x1, .string x2] 107)).drewN nq).cell? ⟨wr.heap.size, 0, none⟩ = some (.int .i64 x0) := ((below_drewN _ nq).cell (p := ⟨wr.heap.size, 0, none⟩) (by simp)).trans (by simp)
    have b1 : ((wr.alloc (.cells #[.int .i64 x0, .int .i64 x1, .string x2] 107)).drewN nq).cell? ⟨wr.heap.size, 1, none⟩ = some (.int .i64 x1) := ((below_drewN _ nq).cell (p := ⟨wr.heap.size, 1, none⟩) (by simp)).trans (by simp)
    have b2 : ((wr.alloc (.cells #[.int .i64 x0, .int .i64 x1, .string x2] 107)).drewN nq).cell? ⟨wr.heap.size, 2, none⟩ = some (.string x2) := ((below_drewN _ nq).cell (p := ⟨wr.heap.size, 2, none⟩) (by simp)).trans (by simp)
    have hLl5 : L.length <= 4000 := by
     have q1 := joinL_length (l.take (j + 1))
     rw [uh HL0, List.length_take, List.length_append] at q1
     omega
    generalize (wr.alloc (.cells #[.int .i64 x0, .int .i64 x1, .string x2] 107)).drewN nq = W5 at *
    have HO6 := zh ((uh HO5).carry (below_box W5 (.cells #[.int .i64 x0, .int .i64 x1, .string x2] 107)))
    have HB6 := zh ((uh HB5).trans ((below_box W5 (.cells #[.int .i64 x0, .int .i64 x1, .string x2] 107)).mono (uh HB5).size))
    clear HBx HB3
    go_wp2_with (at_builtin; refine wpList_appP _ rfl (.tmp 48) (.tmp 50) rfl w.heap.size _ L rfl (uh HO6) W5.heap.size x0 x1 x2 rfl ?d0 ?d1 ?d2 ?d3 ?d4 ?_)
    case d0 => simp
    case d1 => simp
    case d2 => simp
    case d3 => omega
    case d4 => exact (uh HB6).size
    intro v2 w2 p1 p2
    have HP1 : Hid (RowP w2 w.heap.size v2 (joinL (l.take (j + 1)))) := by
     unfold Hid RowP
     rw [uh HL0, List.length_append]
     exact p1
    have HP2 : Hid (Below w.heap.size w w2) := (uh HB6).grown p2 (uh HB6).size (fun i hi => (World.ownsRow.lt (uh HO6) i hi).1)
    clear p1 p2 HO5 HO6 HB5 HB6 HL0 b0 b1 b2
    obtain ⟨ad3, n3, cap3, rfl⟩ : ∃ ad n cap, v2 = .slice ad n cap := by
     obtain ⟨ad, cap, e⟩ := row_slice (show World.ownsRow _ _ _ _ _ _ _ from uh HP1)
     exact ⟨ad, _, cap, e⟩
    go_wp2
    go_roundw
    case rel => exact ⟨j + 1, by omega, by go_num, uh HP1, uh HP2⟩
    case measure => simp [intOf]; omega
   ·obtain ⟨g2, ad2, cap2, hu, hc⟩ := own_pieces (show World.ownsRow _ _ _ _ _ _ _ from uh HO)
    rw [List.concat_eq_append] at *
    subst hu
    have hlm : M.length < (M ++ [p]).length := by simp
    obtain ⟨had2, hg2, r0, r1, r2⟩ := hc M.length hlm
    subst had2
    rw [List.getElem_concat_length (by rfl)] at r0 r1 r2
    obtain ⟨y0, y1, y2⟩ := p
    dsimp only at r0 r1 r2
    have s1 := ((uh HB3).cell (p := ⟨g2, M.length * 3 + 1, none⟩) (lt_of_cell r1)).trans r1
    have s2 := ((uh HB3).cell (p := ⟨g2, M.length * 3 + 2, none⟩) (lt_of_cell r2)).trans r2
    rw [joinStep_snoc] at HJ
    dsimp only at HJ
    obtain ⟨n, hn⟩ : ∃ n : Nat, n = (M ++ [(y0, y1, y2)]).length := ⟨_, rfl⟩
    obtain ⟨m, hm⟩ : ∃ m : Nat, m = M.length := ⟨_, rfl⟩
    have hnm : n = m + 1 := by rw [hn, hm]; simp
    have hsub : (n : Int) - 1 = (m : Int) := by omega
    have hm0 : (0 : Int) <= (m : Int) := by omega
    have hmn : (m : Int) < (n : Int) := by omega
    have hn4 : (n : Int) <= 4000 := by rw [hn]; omega
    have hwm : IntKind.i64.wrap (m : Int) = (m : Int) := by
     rw [<- wrap64_is]
     unfold wrap64
     omega
    rw [<- hm] at s1 s2
    rw [<- hn] at HO HO3 ⊢
    have HNN := zh hn
    have HMM := zh hm
    have HNM := zh hnm
    clear hc hlm r0 r1 r2 hn hm hnm hg2 hLl
    clear HO
    by_cases e1 : y1 = x0
    ·by_cases e2 : y2 = x2
     ·rw [if_pos ⟨e1, e2⟩] at HJ
      subst e1 e2
      go_wp2
      go_quiet (fail)
      have s1' := ((below_drewN (wr.alloc (.cells #[.int .i64 y1, .int .i64 x1, .string y2] 107)) nq).cell (p := ⟨g2, m * 3 + 1, none⟩) (lt_of_cell s1)).trans s1
      have HB5 := zh ((uh HBx).trans ((below_drewN _ nq).mono (uh HBx).size))
      have b1 : ((wr.alloc (.cells #[.int .i64 y1, .int .i64 x1, .string y2] 107)).drewN nq).cell? ⟨wr.heap.size, 1, none⟩ = some (.int .i64 x1) := ((below_drewN _ nq).cell (p := ⟨wr.heap.size, 1, none⟩) (by simp)).trans (by simp)
      have HO5 := zh ((uh HO3).carry (below_drewN _ nq))
      generalize (wr.alloc (.cells #[.int .i64 y1, .int .i64 x1, .string y2] 107)).drewN nq = W5 at *
      have hro : W5.ownsRow w.heap.size 107 3 (.slice (some ⟨g2, 0, none⟩) n cap2) n (encP (M ++ [(y0, y1, y2)])) := by
       have := uh HO5
       unfold RowP at this
       rw [<- uh HNN] at this
       exact this
      have f1 := hro.frozenAt (m * 3 + 1)
      obtain ⟨ro, gr⟩ := hro.stored (m * 3 + 1) (.int .i64 x1)
      have hgb : w.heap.size <= g2 := (hro.lt g2 rfl).1
      have HP1 : Hid (RowP (W5.setCell ⟨g2, m * 3 + 1, none⟩ (.int .i64 x1)) w.heap.size (.slice (some ⟨g2, 0, none⟩) n cap2) (joinL (l.take (j + 1)))) := by
       unfold Hid RowP
       rw [uh HJ]
       rw [uh HMM, encP_set, uh HNN] at ro
       rw [uh HMM, uh HNN]
       simpa using ro
      have HP2 : Hid (Below w.heap.size w (W5.setCell ⟨g2, m * 3 + 1, none⟩ (.int .i64 x1))) := (uh HB5).grown gr (uh HB5).size (fun i hi => by cases hi; exact hgb)
      clear hro ro gr HO5 HO3 HB5 HBx HB3 HOl
      go_wp2
      go_roundw
      case rel => exact ⟨j + 1, by omega, by go_num, uh HP1, uh HP2⟩
      case measure => simp [intOf]; omega
     ·rw [if_neg (fun q => e2 q.2)] at HJ
      have hb2 : (y2.toList == x2.toList) = false := by
       rw [ByteArray.toList_eq, ByteArray.toList_eq]
       exact beq_eq_false_iff_ne.2 (fun q => e2 (ByteArray.ext (Array.toList_inj.1 q)))
      go_wp2
      go_quiet (fail)
      have HL0 := zh (uh HJ)
      have HO5 := zh ((uh HO3).carry (below_drewN _ nq))
      generalize M ++ [(y0, y1, y2)] = L at *
      clear HJ HO3 s1 s2
      have HB5 := zh ((uh HBx).trans ((below_drewN _ nq).mono (uh HBx).size))
      have b0 : ((wr.alloc (.cells #[.int .i64 x0, .int .i64 x1, .string x2] 107)).drewN nq).cell? ⟨wr.heap.size, 0, none⟩ = some (.int .i64 x0) := ((below_drewN _ nq).cell (p := ⟨wr.heap.size, 0, none⟩) (by simp)).trans (by simp)
      have b1 : ((wr.alloc (.cells #[.int .i64 x0, .int .i64 x1, .string x2] 107)).drewN nq).cell? ⟨wr.heap.size, 1, none⟩ = some (.int .i64 x1) := ((below_drewN _ nq).cell (p := ⟨wr.heap.size, 1, none⟩) (by simp)).trans (by simp)
      have b2 : ((wr.alloc (.cells #[.int .i64 x0, .int .i64 x1, .string x2] 107)).drewN nq).cell? ⟨wr.heap.size, 2, none⟩ = some (.string x2) := ((below_drewN _ nq).cell (p := ⟨wr.heap.size, 2, none⟩) (by simp)).trans (by simp)
      have hLl5 : L.length <= 4000 := by
       have q1 := joinL_length (l.take (j + 1))
       rw [uh HL0, List.length_take, List.length_append] at q1
       omega
      generalize (wr.alloc (.cells #[.int .i64 x0, .int .i64 x1, .string x2] 107)).drewN nq = W5 at *
      have HO6 := zh ((uh HO5).carry (below_box W5 (.cells #[.int .i64 x0, .int .i64 x1, .string x2] 107)))
      have HB6 := zh ((uh HB5).trans ((below_box W5 (.cells #[.int .i64 x0, .int .i64 x1, .string x2] 107)).mono (uh HB5).size))
      clear HBx HB3
      go_wp2_with (at_builtin; refine wpList_appP _ rfl (.tmp 48) (.tmp 50) rfl w.heap.size _ L rfl (uh HO6) W5.heap.size x0 x1 x2 rfl ?d0 ?d1 ?d2 ?d3 ?d4 ?_)
      case d0 => simp
      case d1 => simp
      case d2 => simp
      case d3 => omega
      case d4 => exact (uh HB6).size
      intro v2 w2 p1 p2
      have HP1 : Hid (RowP w2 w.heap.size v2 (joinL (l.take (j + 1)))) := by
       unfold Hid RowP
       rw [uh HL0, List.length_append]
       exact p1
      have HP2 : Hid (Below w.heap.size w w2) := (uh HB6).grown p2 (uh HB6).size (fun i hi => (World.ownsRow.lt (uh HO6) i hi).1)
      clear p1 p2 HO5 HO6 HB5 HB6 HL0 b0 b1 b2
      obtain ⟨ad3, n3, cap3, rfl⟩ : ∃ ad n cap, v2 = .slice ad n cap := by
       obtain ⟨ad, cap, e⟩ := row_slice (show World.ownsRow _ _ _ _ _ _ _ from uh HP1)
       exact ⟨ad, _, cap, e⟩
      go_wp2
      go_roundw
      case rel => exact ⟨j + 1, by omega, by go_num, uh HP1, uh HP2⟩
      case measure => simp [intOf]; omega
    ·rw [if_neg (fun q => e1 q.1)] at HJ
     go_wp2
     go_quiet (fail)
     have HL0 := zh (uh HJ)
     have HO5 := zh ((uh HO3).carry (below_drewN _ nq))
     generalize M ++ [(y0, y1, y2)] = L at *
     clear HJ HO3 s1 s2
     have HB5 := zh ((uh HBx).trans ((below_drewN _ nq).mono (uh HBx).size))
     have b0 : ((wr.alloc (.cells #[.int .i64 x0, .int .i64 x1, .string x2] 107)).drewN nq).cell? ⟨wr.heap.size, 0, none⟩ = some (.int .i64 x0) := ((below_drewN _ nq).cell (p := ⟨wr.heap.size, 0, none⟩) (by simp)).trans (by simp)
     have b1 : ((wr.alloc (.cells #[.int .i64 x0, .int .i64 x1, .string x2] 107)).drewN nq).cell? ⟨wr.heap.size, 1, none⟩ = some (.int .i64 x1) := ((below_drewN _ nq).cell (p := ⟨wr.heap.size, 1, none⟩) (by simp)).trans (by simp)
     have b2 : ((wr.alloc (.cells #[.int .i64 x0, .int .i64 x1, .string x2] 107)).drewN nq).cell? ⟨wr.heap.size, 2, none⟩ = some (.string x2) := ((below_drewN _ nq).cell (p := ⟨wr.heap.size, 2, none⟩) (by simp)).trans (by simp)
     have hLl5 : L.length <= 4000 := by
      have q1 := joinL_length (l.take (j + 1))
      rw [uh HL0, List.length_take, List.length_append] at q1
      omega
     generalize (wr.alloc (.cells #[.int .i64 x0, .int .i64 x1, .string x2] 107)).drewN nq = W5 at *
     have HO6 := zh ((uh HO5).carry (below_box W5 (.cells #[.int .i64 x0, .int .i64 x1, .string x2] 107)))
     have HB6 := zh ((uh HB5).trans ((below_box W5 (.cells #[.int .i64 x0, .int .i64 x1, .string x2] 107)).mono (uh HB5).size))
     clear HBx HB3
     go_wp2_with (at_builtin; refine wpList_appP _ rfl (.tmp 48) (.tmp 50) rfl w.heap.size _ L rfl (uh HO6) W5.heap.size x0 x1 x2 rfl ?d0 ?d1 ?d2 ?d3 ?d4 ?_)
     case d0 => simp
     case d1 => simp
     case d2 => simp
     case d3 => omega
     case d4 => exact (uh HB6).size
     intro v2 w2 p1 p2
     have HP1 : Hid (RowP w2 w.heap.size v2 (joinL (l.take (j + 1)))) := by
      unfold Hid RowP
      rw [uh HL0, List.length_append]
      exact p1
     have HP2 : Hid (Below w.heap.size w w2) := (uh HB6).grown p2 (uh HB6).size (fun i hi => (World.ownsRow.lt (uh HO6) i hi).1)
     clear p1 p2 HO5 HO6 HB5 HB6 HL0 b0 b1 b2
     obtain ⟨ad3, n3, cap3, rfl⟩ : ∃ ad n cap, v2 = .slice ad n cap := by
      obtain ⟨ad, cap, e⟩ := row_slice (show World.ownsRow _ _ _ _ _ _ _ from uh HP1)
      exact ⟨ad, _, cap, e⟩
     go_wp2
     go_roundw
     case rel => exact ⟨j + 1, by omega, by go_num, uh HP1, uh HP2⟩
     case measure => simp [intOf]; omega
  ·have hlt' : ¬ (j : Int) < (l.length : Int) := by omega
   obtain rfl : j = l.length := by omega
   have HG : Hid (GivesP w (joinL l) (.returned u3) wr) := ⟨u3, rfl, by have := uh HO; rw [List.take_length] at this; exact this, uh HB⟩
   go_wp2
   go_ret
   exact uh HG
end Go.Proofs.YtbmkmfoaoganeaaGreatDoor
