/- Texts of one proof, one behind the other. -/
import Derived.Test.YtbmkmfoaoganeaaGreatDoorNb
set_option maxRecDepth 100000
set_option maxHeartbeats 16000000
namespace Go.Proofs.YtbmkmfoaoganeaaGreatDoor
theorem rising_perm : ∀ (L M : List Ent), Rising L -> Rising M -> L.Perm M -> L = M
 | [], M, _, _, h => by simpa using h.symm
 | a :: L, [], _, _, h => by simp at h
 | a :: L, c :: M, h1, h2, h => by
  have e : a = c := by
   have ha : a ∈ c :: M := h.mem_iff.1 (by simp)
   have hc : c ∈ a :: L := h.mem_iff.2 (by simp)
   rcases List.mem_cons.1 ha with k | k
   ·exact k
   ·rcases List.mem_cons.1 hc with k' | k'
    ·exact k'.symm
    ·have := List.rel_of_pairwise_cons h1 k'
     have := List.rel_of_pairwise_cons h2 k
     omega
  subst e
  rw [rising_perm L M (List.Pairwise.of_cons h1) (List.Pairwise.of_cons h2) (List.Perm.cons_inv h)]
theorem comes {L S : List Ent} {e : Ent} (hr : Rising L) (hp : L.Perm S) (h0 : 0 <= e.id /\ e.id <= 1048576) (hR : rightB e.lo e.hi = true) (hn : ∀ x, x ∈ S -> x.id ≠ e.id) (hl : S.length < 4000) :
  addErr L e = 0 /\ Rising (addTo L e) /\ (addTo L e).Perm (e :: S) := by
 have hf : foundT L e.id = false := by
  rcases hq : foundT L e.id with _ | _
  ·rfl
  ·obtain ⟨x, hx, hxe⟩ := (found_iff L e.id hr).1 hq
   exact absurd hxe (hn x (hp.mem_iff.1 hx))
 have h1 : addErr L e = 0 := by
  unfold addErr
  rw [if_pos h0, if_pos hR, hf, if_neg (by simp), if_neg (by rw [hp.length_eq]; omega)]
 refine ⟨h1, rising_addTo L e hr, ?_⟩
 unfold addTo
 rw [if_pos h1]
 exact (addT_perm L e).trans (hp.cons e)
theorem goes {L S : List Ent} {e : Ent} (hr : Rising L) (hp : L.Perm (e :: S)) : dropErr L e.id = 0 /\ Rising (dropTo L e.id) /\ (dropTo L e.id).Perm S := by
 have hm : e ∈ L := hp.mem_iff.2 (by simp)
 have hf : foundT L e.id = true := (found_iff L e.id hr).2 ⟨e, hm, rfl⟩
 refine ⟨by unfold dropErr; rw [if_pos hf], rising_dropTo L e.id hr, ?_⟩
 unfold dropTo
 rw [if_pos hf]
 have e1 : L[posT L e.id]'(found_at L e.id hf).1 = e := rising_one hr (List.getElem_mem _) hm (found_at L e.id hf).2
 have h1 := dropT_perm L e.id hf
 rw [e1] at h1
 exact List.Perm.cons_inv (h1.symm.trans hp)
structure Ver where
 n : Int
 lo : Int
 hi : Int
 val : ByteArray
 s0 : Int
 s1 : Int
def Ver.ent (v : Ver) : Ent := ⟨v.n, v.lo, v.hi⟩
def Ver.has (v : Ver) (t : Int) : Prop := v.lo <= t /\ t < v.hi
def Ver.live (v : Ver) (c : Int) : Prop := v.s0 <= c /\ c < v.s1
structure LineOk (V : List Ver) (made now : Int) : Prop where
 rising : V.Pairwise (fun a b => a.n < b.n)
 num : ∀ v, v ∈ V -> 0 <= v.n /\ v.n < made
 right : ∀ v, v ∈ V -> rightB v.lo v.hi = true
 val : ∀ v, v ∈ V -> v.val ≠ ByteArray.empty
 when : ∀ v, v ∈ V -> 1 <= v.s0 /\ v.s0 <= now /\ (v.s1 = 151 \/ (v.s0 < v.s1 /\ v.s1 <= now))
 apart : V.Pairwise (fun a b => ∀ c t, a.live c -> b.live c -> a.has t -> ¬ b.has t)
 len : (V.length : Int) <= made
def Tells (V : List Ver) (known now : Int) (S : Int -> Int -> ByteArray) : Prop :=
 ∀ c, known <= c -> c <= now -> ∀ t, (∀ v, v ∈ V -> v.live c -> v.has t -> v.val = S c t) /\ (S c t ≠ ByteArray.empty -> ∃ v, v ∈ V /\ v.live c /\ v.has t)
theorem Tells.congr {V : List Ver} {known now : Int} {S S' : Int -> Int -> ByteArray} (h : Tells V known now S) (he : ∀ c, known <= c -> c <= now -> ∀ t, S c t = S' c t) : Tells V known now S' := fun c h1 h2 t => by
 rw [<- he c h1 h2 t]
 exact h c h1 h2 t
theorem apart_of {V : List Ver} {made now : Int} (h : LineOk V made now) {a b : Ver} (ha : a ∈ V) (hb : b ∈ V) (hne : a.n ≠ b.n) {c t : Int} (h1 : a.live c) (h2 : b.live c) (h3 : a.has t) : ¬ b.has t := by
 obtain ⟨i, hi, rfl⟩ := List.getElem_of_mem ha
 obtain ⟨j, hj, rfl⟩ := List.getElem_of_mem hb
 have hp := List.pairwise_iff_getElem.1 h.apart
 rcases Nat.lt_trichotomy i j with k | k | k
 ·exact hp i j hi hj k c t h1 h2 h3
 ·subst k; exact absurd rfl hne
 ·exact fun h4 => hp j i hj hi k c t h2 h1 h4 h3
theorem one_of {V : List Ver} {made now : Int} (h : LineOk V made now) {a b : Ver} (ha : a ∈ V) (hb : b ∈ V) (he : a.n = b.n) : a = b := by
 obtain ⟨i, hi, rfl⟩ := List.getElem_of_mem ha
 obtain ⟨j, hj, rfl⟩ := List.getElem_of_mem hb
 have hp := List.pairwise_iff_getElem.1 h.rising
 rcases Nat.lt_trichotomy i j with k | k | k
 ·have := hp i j hi hj k; omega
 ·subst k; rfl
 ·have := hp j i hj hi k; omega
theorem right_ltM {a b : Int} (h : rightB a b = true) : a < b := by
 unfold rightB at h
 exact (of_decide_eq_true h).2.2
def sayV (V : List Ver) (made lo hi : Int) (val : ByteArray) (now : Int) : List Ver := V ++ [⟨made, lo, hi, val, now, 151⟩]
def shutV (V : List Ver) (n now : Int) : List Ver := V.map fun v => if v.n = n then { v with s1 := now } else v
def dropV (V : List Ver) (n : Int) : List Ver := V.filter fun v => decide (v.n ≠ n)
theorem mem_sayV {V : List Ver} {made lo hi now : Int} {val : ByteArray} {u : Ver} : u ∈ sayV V made lo hi val now ↔ u ∈ V \/ u = ⟨made, lo, hi, val, now, 151⟩ := by simp [sayV]
theorem mem_dropV {V : List Ver} {n : Int} {u : Ver} : u ∈ dropV V n ↔ u ∈ V /\ u.n ≠ n := by simp [dropV]
theorem say_ok {V : List Ver} {made now lo hi : Int} {val : ByteArray} (h : LineOk V made now) (hm : 0 <= made) (hr : rightB lo hi = true) (hv : val ≠ ByteArray.empty) (h1 : 1 <= now)
  (ha : ∀ u, u ∈ V -> u.s1 = 151 -> ∀ t, u.has t -> ¬ (lo <= t /\ t < hi)) : LineOk (sayV V made lo hi val now) (made + 1) now := by
 refine ⟨?_, ?_, ?_, ?_, ?_, ?_, ?_⟩
 ·unfold sayV
  rw [List.pairwise_append]
  refine ⟨h.rising, by simp, fun a hx b hb => ?_⟩
  rw [List.mem_singleton] at hb
  subst hb
  exact (h.num a hx).2
 ·intro v hx
  rcases mem_sayV.1 hx with hx | rfl
  ·have := h.num v hx; omega
  ·exact ⟨hm, by show made < made + 1; omega⟩
 ·intro v hx
  rcases mem_sayV.1 hx with hx | rfl
  ·exact h.right v hx
  ·exact hr
 ·intro v hx
  rcases mem_sayV.1 hx with hx | rfl
  ·exact h.val v hx
  ·exact hv
 ·intro v hx
  rcases mem_sayV.1 hx with hx | rfl
  ·exact h.when v hx
  ·exact ⟨h1, Int.le_refl _, .inl rfl⟩
 ·unfold sayV
  rw [List.pairwise_append]
  refine ⟨h.apart, by simp, fun a hx b hb => ?_⟩
  rw [List.mem_singleton] at hb
  subst hb
  intro c t l1 l2 t1
  have w1 := h.when a hx
  refine ha a hx ?_ t t1
  have l1' := l1.2
  have l2' : now <= c := l2.1
  omega
 ·have := h.len
  simp only [sayV, List.length_append, List.length_cons, List.length_nil]
  omega
theorem drop_ok {V : List Ver} {made now : Int} (h : LineOk V made now) (n : Int) : LineOk (dropV V n) made now := by
 have sub : (dropV V n).Sublist V := List.filter_sublist
 refine ⟨h.rising.sublist sub, fun v hv => h.num v (sub.mem hv), fun v hv => h.right v (sub.mem hv), fun v hv => h.val v (sub.mem hv), fun v hv => h.when v (sub.mem hv), h.apart.sublist sub, ?_⟩
 have := h.len
 have := sub.length_le
 omega
theorem mem_shutV {V : List Ver} {n now : Int} {u : Ver} (hu : u ∈ shutV V n now) : ∃ v, v ∈ V /\ ((v.n ≠ n /\ u = v) \/ (v.n = n /\ u = { v with s1 := now })) := by
 obtain ⟨v, hv, rfl⟩ := List.mem_map.1 hu
 refine ⟨v, hv, ?_⟩
 by_cases h : v.n = n
 ·exact .inr ⟨h, by rw [if_pos h]⟩
 ·exact .inl ⟨h, by rw [if_neg h]⟩
theorem shutV_other {V : List Ver} {n now : Int} {u : Ver} (hu : u ∈ V) (hn : u.n ≠ n) : u ∈ shutV V n now := List.mem_map.2 ⟨u, hu, by rw [if_neg hn]⟩
theorem shutV_same {V : List Ver} {n now : Int} {u : Ver} (hu : u ∈ V) (hn : u.n = n) : { u with s1 := now } ∈ shutV V n now := List.mem_map.2 ⟨u, hu, by rw [if_pos hn]⟩
theorem shut_ok {V : List Ver} {made now : Int} (h : LineOk V made now) (n : Int) (h0 : now <= 150) (hs : ∀ v, v ∈ V -> v.n = n -> v.s0 < now /\ v.s1 = 151) : LineOk (shutV V n now) made now := by
 have live : ∀ v, v ∈ V -> ∀ c, (if v.n = n then { v with s1 := now } else v : Ver).live c -> v.live c := fun v hv c hl => by
  by_cases q : v.n = n
  ·rw [if_pos q] at hl
   have := (hs v hv q).2
   have l1 : v.s0 <= c := hl.1
   have l2 : c < now := hl.2
   exact ⟨l1, by omega⟩
  ·rw [if_neg q] at hl; exact hl
 have num : ∀ v : Ver, (if v.n = n then { v with s1 := now } else v : Ver).n = v.n := fun v => by split <;> rfl
 have has : ∀ (v : Ver) t, (if v.n = n then { v with s1 := now } else v : Ver).has t ↔ v.has t := fun v t => by split <;> exact Iff.rfl
 refine ⟨?_, ?_, ?_, ?_, ?_, ?_, ?_⟩
 ·unfold shutV
  rw [List.pairwise_map]
  exact h.rising.imp (fun {a b} q => by rw [num, num]; exact q)
 ·intro u hu
  obtain ⟨v, hv, ⟨_, rfl⟩ | ⟨_, rfl⟩⟩ := mem_shutV hu
  ·exact h.num _ hv
  ·exact h.num v hv
 ·intro u hu
  obtain ⟨v, hv, ⟨_, rfl⟩ | ⟨_, rfl⟩⟩ := mem_shutV hu
  ·exact h.right _ hv
  ·exact h.right v hv
 ·intro u hu
  obtain ⟨v, hv, ⟨_, rfl⟩ | ⟨_, rfl⟩⟩ := mem_shutV hu
  ·exact h.val _ hv
  ·exact h.val v hv
 ·intro u hu
  obtain ⟨v, hv, ⟨_, rfl⟩ | ⟨q, rfl⟩⟩ := mem_shutV hu
  ·exact h.when _ hv
  ·have := h.when v hv
   exact ⟨this.1, this.2.1, .inr ⟨(hs v hv q).1, Int.le_refl _⟩⟩
 ·unfold shutV
  rw [List.pairwise_map]
  refine List.Pairwise.imp_of_mem (fun {a b} ha hb q c t l1 l2 t1 t2 => ?_) h.apart
  exact q c t (live a ha c l1) (live b hb c l2) ((has a t).1 t1) ((has b t).1 t2)
 ·have := h.len
  simp only [shutV, List.length_map]
  exact this
theorem say_tells {V : List Ver} {made now lo hi known : Int} {val : ByteArray} {S : Int -> Int -> ByteArray} (h : LineOk V made now) (ht : Tells V known now S) (h0 : now <= 150)
  (ha : ∀ u, u ∈ V -> u.s1 = 151 -> ∀ t, u.has t -> ¬ (lo <= t /\ t < hi)) : Tells (sayV V made lo hi val now) known now (fun c t => if c = now /\ lo <= t /\ t < hi then val else S c t) := fun c h1 h2 t => by
 obtain ⟨k1, k2⟩ := ht c h1 h2 t
 constructor
 ·intro v hv hl hh
  rcases mem_sayV.1 hv with hv' | rfl
  ·have := h.when v hv'
   dsimp only
   rw [if_neg]
   ·exact k1 v hv' hl hh
   ·rintro ⟨rfl, q⟩
    exact ha v hv' (by have := hl.2; omega) t hh q
  ·have l1 : now <= c := hl.1
   have q : lo <= t /\ t < hi := hh
   show val = if c = now /\ lo <= t /\ t < hi then val else S c t
   rw [if_pos ⟨by omega, q⟩]
 ·intro hs
  by_cases q : c = now /\ lo <= t /\ t < hi
  ·exact ⟨_, mem_sayV.2 (.inr rfl), ⟨by show now <= c; omega, by show c < 151; omega⟩, q.2⟩
  ·have hs' : (if c = now /\ lo <= t /\ t < hi then val else S c t) ≠ ByteArray.empty := hs
   rw [if_neg q] at hs'
   obtain ⟨v, hv, a, b⟩ := k2 hs'
   exact ⟨v, mem_sayV.2 (.inl hv), a, b⟩
def endV (V : List Ver) (v : Ver) (now : Int) : List Ver := if v.s0 = now then dropV V v.n else shutV V v.n now
theorem end_ok {V : List Ver} {made now : Int} {v : Ver} (h : LineOk V made now) (hv : v ∈ V) (ho : v.s1 = 151) (h0 : now <= 150) : LineOk (endV V v now) made now := by
 unfold endV
 split
 ·exact drop_ok h _
 ·refine shut_ok h _ h0 (fun u hu he => ?_)
  obtain rfl := one_of h hu hv he
  have := h.when u hu
  exact ⟨by omega, ho⟩
theorem endV_mem {V : List Ver} {made now : Int} {v u : Ver} (h : LineOk V made now) (hv : v ∈ V) (hu : u ∈ endV V v now) : (u ∈ V /\ u.n ≠ v.n) \/ (v.s0 < now /\ u = { v with s1 := now }) := by
 unfold endV at hu
 split at hu
 ·have := mem_dropV.1 hu
  exact .inl this
 ·obtain ⟨x, hx, ⟨q, rfl⟩ | ⟨q, rfl⟩⟩ := mem_shutV hu
  ·exact .inl ⟨hx, q⟩
  ·obtain rfl := one_of h hx hv q
   have := h.when x hx
   exact .inr ⟨by omega, rfl⟩
theorem endV_other {V : List Ver} {now : Int} {v u : Ver} (hu : u ∈ V) (hn : u.n ≠ v.n) : u ∈ endV V v now := by
 unfold endV
 split
 ·exact mem_dropV.2 ⟨hu, hn⟩
 ·exact shutV_other hu hn
theorem endV_same {V : List Ver} {now : Int} {v : Ver} (hv : v ∈ V) (hn : v.s0 ≠ now) : { v with s1 := now } ∈ endV V v now := by
 unfold endV
 rw [if_neg hn]
 exact shutV_same hv rfl
theorem end_tells {V : List Ver} {made now known : Int} {v : Ver} {S : Int -> Int -> ByteArray} (h : LineOk V made now) (ht : Tells V known now S) (hv : v ∈ V) (ho : v.s1 = 151) (h0 : now <= 150) :
  Tells (endV V v now) known now (fun c t => if c = now /\ v.lo <= t /\ t < v.hi then ByteArray.empty else S c t) := fun c h1 h2 t => by
 obtain ⟨k1, k2⟩ := ht c h1 h2 t
 have hw := h.when v hv
 constructor
 ·intro u hu hl hh
  rcases endV_mem h hv hu with ⟨q, qn⟩ | ⟨q, rfl⟩
  ·dsimp only
   rw [if_neg]
   ·exact k1 u q hl hh
   ·rintro ⟨rfl, r⟩
    exact apart_of h hv q (fun e => qn e.symm) (c := c) ⟨by omega, by omega⟩ hl r hh
  ·have l2 : c < now := hl.2
   show v.val = if c = now /\ v.lo <= t /\ t < v.hi then ByteArray.empty else S c t
   rw [if_neg (by omega)]
   exact k1 v hv ⟨hl.1, by omega⟩ hh
 ·intro hs
  by_cases q : c = now /\ v.lo <= t /\ t < v.hi
  ·exact absurd (if_pos q) hs
  ·have hs' : (if c = now /\ v.lo <= t /\ t < v.hi then ByteArray.empty else S c t) ≠ ByteArray.empty := hs
   rw [if_neg q] at hs'
   obtain ⟨u, hu, a, b⟩ := k2 hs'
   by_cases e : u.n = v.n
   ·obtain rfl := one_of h hu hv e
    have cn : c ≠ now := fun e => q ⟨e, b⟩
    have := a.1
    exact ⟨_, endV_same hu (by omega), ⟨a.1, by show c < now; omega⟩, b⟩
   ·exact ⟨u, endV_other hu e, a, b⟩
def lessL (a b lo hi : Int) : List (Int × Int) := (if a < lo then [(a, lo)] else []) ++ (if hi < b then [(hi, b)] else [])
def sayAll (val : ByteArray) (now : Int) : List (Int × Int) -> List Ver × Int -> List Ver × Int
 | [], s => s
 | p :: l, s => sayAll val now l (sayV s.1 s.2 p.1 p.2 val now, s.2 + 1)
theorem sayAll_made (val : ByteArray) (now : Int) : ∀ (l : List (Int × Int)) (s : List Ver × Int), (sayAll val now l s).2 = s.2 + l.length
 | [], s => by simp [sayAll]
 | p :: l, s => by
  rw [sayAll, sayAll_made val now l]
  simp only [List.length_cons]
  omega
theorem sayAll_mem (val : ByteArray) (now : Int) : ∀ (l : List (Int × Int)) (s : List Ver × Int) (u : Ver), u ∈ (sayAll val now l s).1 -> u ∈ s.1 \/ (∃ p, p ∈ l /\ u.lo = p.1 /\ u.hi = p.2 /\ u.s0 = now /\ u.s1 = 151 /\ s.2 <= u.n)
 | [], s, u, h => .inl h
 | p :: l, s, u, h => by
  rcases sayAll_mem val now l _ u h with h | ⟨q, hq, r1, r2, r3, r4, r5⟩
  ·rcases mem_sayV.1 h with h | rfl
   ·exact .inl h
   ·exact .inr ⟨p, by simp, rfl, rfl, rfl, rfl, Int.le_refl _⟩
  ·exact .inr ⟨q, by simp [hq], r1, r2, r3, r4, by dsimp only at r5; omega⟩
theorem sayAll_old (val : ByteArray) (now : Int) : ∀ (l : List (Int × Int)) (s : List Ver × Int) (u : Ver), u ∈ s.1 -> u ∈ (sayAll val now l s).1
 | [], _, _, h => h
 | _ :: l, _, u, h => sayAll_old val now l _ u (mem_sayV.2 (.inl h))
theorem sayAll_ok {now known : Int} {val : ByteArray} (hv : val ≠ ByteArray.empty) (h0 : now <= 150) (h1 : 1 <= now) : ∀ (l : List (Int × Int)) (V : List Ver) (made : Int) (S : Int -> Int -> ByteArray), LineOk V made now -> 0 <= made -> Tells V known now S ->
  (∀ p, p ∈ l -> rightB p.1 p.2 = true) -> (∀ p, p ∈ l -> ∀ u, u ∈ V -> u.s1 = 151 -> ∀ t, u.has t -> ¬ (p.1 <= t /\ t < p.2)) -> l.Pairwise (fun p q => ∀ t, (p.1 <= t /\ t < p.2) -> ¬ (q.1 <= t /\ t < q.2)) ->
  LineOk (sayAll val now l (V, made)).1 (made + l.length) now /\ Tells (sayAll val now l (V, made)).1 known now (fun c t => if c = now /\ (∃ p, p ∈ l /\ p.1 <= t /\ t < p.2) then val else S c t)
 | [], V, made, S, hL, _, hT, _, _, _ => by
  refine ⟨by simpa [sayAll] using hL, hT.congr fun c _ _ t => ?_⟩
  rw [if_neg]
  rintro ⟨_, p, hp, _⟩
  cases hp
 | p :: l, V, made, S, hL, hm, hT, hR, hA, hP => by
  have a1 := hA p (by simp)
  have s1 := say_ok (val := val) hL hm (hR p (by simp)) hv h1 a1
  have s2 := say_tells (val := val) (known := known) hL hT h0 a1
  obtain ⟨k1, k2⟩ := sayAll_ok hv h0 h1 l _ _ _ s1 (by omega) s2 (fun q hq => hR q (by simp [hq])) (fun q hq u hu ho t ht => by
   rcases mem_sayV.1 hu with hu | rfl
   ·exact hA q (by simp [hq]) u hu ho t ht
   ·exact List.rel_of_pairwise_cons hP hq t ht) (List.Pairwise.of_cons hP)
  refine ⟨?_, k2.congr fun c _ _ t => ?_⟩
  ·rw [show made + ((p :: l).length : Int) = made + 1 + (l.length : Int) by simp only [List.length_cons]; omega]
   exact k1
  ·by_cases q1 : c = now /\ (∃ q, q ∈ l /\ q.1 <= t /\ t < q.2)
   ·obtain ⟨e, q, hq, r⟩ := q1
    rw [if_pos ⟨e, q, hq, r⟩, if_pos ⟨e, q, by simp [hq], r⟩]
   ·rw [if_neg q1]
    by_cases q2 : c = now /\ p.1 <= t /\ t < p.2
    ·rw [if_pos q2, if_pos ⟨q2.1, p, by simp, q2.2⟩]
    ·rw [if_neg q2, if_neg]
     rintro ⟨e, q, hq, r⟩
     rcases List.mem_cons.1 hq with rfl | hq
     ·exact q2 ⟨e, r⟩
     ·exact q1 ⟨e, q, hq, r⟩
def endStep (V : List Ver) (made : Int) (v : Ver) (lo hi now : Int) : List Ver × Int := sayAll v.val now (lessL v.lo v.hi lo hi) (endV V v now, made)
def sticks (lo hi : Int) (V : List Ver) : Nat := V.countP (fun v => decide (v.s1 = 151 /\ v.lo < lo /\ lo < v.hi)) + V.countP (fun v => decide (v.s1 = 151 /\ v.lo < hi /\ hi < v.hi))
theorem mem_less {a b lo hi : Int} {p : Int × Int} (h : p ∈ lessL a b lo hi) : (a < lo /\ p = (a, lo)) \/ (hi < b /\ p = (hi, b)) := by
 unfold lessL at h
 rcases List.mem_append.1 h with h | h
 ·by_cases q : a < lo
  ·rw [if_pos q, List.mem_singleton] at h; exact .inl ⟨q, h⟩
  ·rw [if_neg q] at h; cases h
 ·by_cases q : hi < b
  ·rw [if_pos q, List.mem_singleton] at h; exact .inr ⟨q, h⟩
  ·rw [if_neg q] at h; cases h
theorem in_less {a b lo hi t : Int} (h1 : max lo a < min hi b) : (∃ p, p ∈ lessL a b lo hi /\ p.1 <= t /\ t < p.2) ↔ (a <= t /\ t < b) /\ ¬ (lo <= t /\ t < hi) := by
 constructor
 ·rintro ⟨p, hp, h⟩
  rcases mem_less hp with ⟨q, rfl⟩ | ⟨q, rfl⟩ <;> dsimp only at h <;> omega
 ·intro h
  by_cases q : t < lo
  ·exact ⟨(a, lo), by unfold lessL; rw [if_pos (by omega)]; simp, by dsimp only; omega, by dsimp only; omega⟩
  ·exact ⟨(hi, b), by unfold lessL; rw [if_pos (show hi < b by omega)]; simp, by dsimp only; omega, by dsimp only; omega⟩
theorem end_step {V : List Ver} {made now known lo hi : Int} {v : Ver} {S : Int -> Int -> ByteArray} (h : LineOk V made now) (hm : 0 <= made) (ht : Tells V known now S) (hv : v ∈ V) (ho : v.s1 = 151) (h0 : now <= 150) (h1 : 1 <= now) (hk : known <= now) (hR : rightB lo hi = true) (hM : meetB lo hi v.ent = true) :
  LineOk (endStep V made v lo hi now).1 (endStep V made v lo hi now).2 now /\ Tells (endStep V made v lo hi now).1 known now (fun c t => if c = now /\ (lo <= t /\ t < hi) /\ v.lo <= t /\ t < v.hi then ByteArray.empty else S c t) /\
  (∀ u, u ∈ (endStep V made v lo hi now).1 -> u.s1 = 151 -> meetB lo hi u.ent = true -> u ∈ V /\ u.n ≠ v.n) /\ (∀ u, u ∈ V -> u.n ≠ v.n -> u ∈ (endStep V made v lo hi now).1) := by
 have hm' : max lo v.lo < min hi v.hi := of_decide_eq_true hM
 have e1 := end_ok h hv ho h0
 have e2 := end_tells (known := known) h ht hv ho h0
 have hr := right_ltM (h.right v hv)
 have hvr := h.right v hv
 have hw := h.when v hv
 unfold rightB at hR hvr
 have hR' := of_decide_eq_true hR
 have hvr' := of_decide_eq_true hvr
 obtain ⟨k1, k2⟩ := sayAll_ok (known := known) (h.val v hv) h0 h1 (lessL v.lo v.hi lo hi) (endV V v now) made _ e1 hm e2 (fun p hp => by
   unfold rightB
   refine decide_eq_true ?_
   rcases mem_less hp with ⟨q, rfl⟩ | ⟨q, rfl⟩ <;> dsimp only <;> omega) (fun p hp u hu huo t hut hpt => by
   rcases endV_mem h hv hu with ⟨q, qn⟩ | ⟨q, rfl⟩
   ·refine apart_of h hv q (fun e => qn e.symm) (c := now) (t := t) ⟨by omega, by omega⟩ ?_ ?_ hut
    ·have := h.when u q
     exact ⟨by omega, by omega⟩
    ·show v.lo <= t /\ t < v.hi
     rcases mem_less hp with ⟨r, rfl⟩ | ⟨r, rfl⟩ <;> dsimp only at hpt <;> omega
   ·have : now = 151 := huo
    omega) (by
   unfold lessL
   by_cases q1 : v.lo < lo
   ·by_cases q2 : hi < v.hi
    ·rw [if_pos q1, if_pos q2]
     simp only [List.cons_append, List.nil_append, List.pairwise_cons, List.mem_singleton, List.not_mem_nil, false_implies, implies_true, List.Pairwise.nil, and_true]
     rintro _ rfl t h1 h2
     dsimp only at h1 h2
     omega
    ·rw [if_pos q1, if_neg q2]; simp
   ·by_cases q2 : hi < v.hi
    ·rw [if_neg q1, if_pos q2]; simp
    ·rw [if_neg q1, if_neg q2]; simp)
 refine ⟨?_, k2.congr fun c hc1 hc2 t => ?_, fun u hu huo hum => ?_, fun u hu hn => ?_⟩
 ·unfold endStep
  rw [sayAll_made]
  exact k1
 ·by_cases q1 : c = now /\ (∃ p, p ∈ lessL v.lo v.hi lo hi /\ p.1 <= t /\ t < p.2)
  ·rw [if_pos q1]
   have := (in_less hm').1 q1.2
   rw [if_neg (fun e => this.2 e.2.1), q1.1]
   exact (ht now hk (Int.le_refl _) t).1 v hv ⟨by omega, by omega⟩ this.1
  ·rw [if_neg q1]
   by_cases q2 : c = now /\ v.lo <= t /\ t < v.hi
   ·rw [if_pos q2, if_pos]
    refine ⟨q2.1, ?_, q2.2⟩
    rcases Classical.em (lo <= t /\ t < hi) with q3 | q3
    ·exact q3
    ·exact absurd ⟨q2.1, (in_less hm').2 ⟨q2.2, q3⟩⟩ q1
   ·rw [if_neg q2, if_neg (fun e => q2 ⟨e.1, e.2.2⟩)]
 ·rcases sayAll_mem _ _ _ _ u hu with hu | ⟨p, hp, r1, r2, _⟩
  ·rcases endV_mem h hv hu with q | ⟨q, rfl⟩
   ·exact q
   ·have : now = 151 := huo
    omega
  ·exfalso
   have hum' : max lo u.lo < min hi u.hi := of_decide_eq_true hum
   rw [r1, r2] at hum'
   rcases mem_less hp with ⟨r, rfl⟩ | ⟨r, rfl⟩ <;> dsimp only at hum' <;> omega
 ·exact sayAll_old _ _ _ _ u (endV_other hu hn)
theorem count_split (p : Ver -> Bool) (v : Ver) : ∀ V : List Ver, V.Pairwise (fun a b => a.n < b.n) -> v ∈ V -> V.countP (fun u => p u && decide (u.n ≠ v.n)) + (if p v = true then 1 else 0) = V.countP p
 | [], _, h => by cases h
 | a :: V, hr, h => by
  have h1 : ∀ b, b ∈ V -> a.n < b.n := fun b hb => List.rel_of_pairwise_cons hr hb
  by_cases e : a.n = v.n
  ·have ev : v = a := by
    rcases List.mem_cons.1 h with q | q
    ·exact q
    ·have := h1 v q; omega
   subst ev
   have h2 : V.countP (fun u => p u && decide (u.n ≠ v.n)) = V.countP p := List.countP_congr fun b hb => by
    have := h1 b hb
    have h3 : b.n ≠ v.n := by omega
    simp [h3]
   rw [List.countP_cons, List.countP_cons, h2]
   simp
  ·have hv : v ∈ V := by
    rcases List.mem_cons.1 h with q | q
    ·subst q; exact absurd rfl e
    ·exact q
   have ih := count_split p v V (List.Pairwise.of_cons hr) hv
   rw [List.countP_cons, List.countP_cons, <- ih]
   simp only [ne_eq, e, not_false_eq_true, decide_true, Bool.and_true]
   omega
theorem count_end (p : Ver -> Bool) (hp : ∀ u, p u = true -> u.s1 = 151) {V : List Ver} {made now : Int} {v : Ver} (h : LineOk V made now) (hv : v ∈ V) (h0 : now <= 150) : (endV V v now).countP p + (if p v = true then 1 else 0) = V.countP p := by
 rw [<- count_split p v V h.rising hv]
 congr 1
 unfold endV
 split
 ·unfold dropV
  rw [List.countP_filter]
 ·unfold shutV
  rw [List.countP_map]
  refine List.countP_congr fun u _ => ?_
  by_cases e : u.n = v.n
  ·have : p { u with s1 := now } = false := by
    rcases q : p { u with s1 := now } with _ | _
    ·rfl
    ·have : now = 151 := hp _ q
     omega
   rw [e] at this
   simp [e, this]
  ·simp [e]
theorem sayAll_count (p : Ver -> Bool) (val : ByteArray) (now : Int) : ∀ (l : List (Int × Int)) (s : List Ver × Int), (∀ q, q ∈ l -> ∀ m, p ⟨m, q.1, q.2, val, now, 151⟩ = false) -> (sayAll val now l s).1.countP p = s.1.countP p
 | [], _, _ => rfl
 | q :: l, s, h => by
  rw [sayAll, sayAll_count p val now l _ (fun x hx => h x (by simp [hx]))]
  unfold sayV
  rw [List.countP_append]
  simp [h q (by simp)]
theorem sticks_step {V : List Ver} {made now lo hi : Int} {v : Ver} (h : LineOk V made now) (hv : v ∈ V) (ho : v.s1 = 151) (h0 : now <= 150) (hR : lo < hi) (hM : meetB lo hi v.ent = true) :
  (endStep V made v lo hi now).2 + (sticks lo hi (endStep V made v lo hi now).1 : Int) = made + (sticks lo hi V : Int) := by
 have hm' : max lo v.lo < min hi v.hi := of_decide_eq_true hM
 have c1 := count_end (fun v => decide (v.s1 = 151 /\ v.lo < lo /\ lo < v.hi)) (fun u hu => (of_decide_eq_true hu).1) h hv h0
 have c2 := count_end (fun v => decide (v.s1 = 151 /\ v.lo < hi /\ hi < v.hi)) (fun u hu => (of_decide_eq_true hu).1) h hv h0
 have d1 := sayAll_count (fun v => decide (v.s1 = 151 /\ v.lo < lo /\ lo < v.hi)) v.val now (lessL v.lo v.hi lo hi) (endV V v now, made) (fun q hq m => by
  rcases mem_less hq with ⟨r, rfl⟩ | ⟨r, rfl⟩ <;> simp only [decide_eq_false_iff_not] <;> omega)
 have d2 := sayAll_count (fun v => decide (v.s1 = 151 /\ v.lo < hi /\ hi < v.hi)) v.val now (lessL v.lo v.hi lo hi) (endV V v now, made) (fun q hq m => by
  rcases mem_less hq with ⟨r, rfl⟩ | ⟨r, rfl⟩ <;> simp only [decide_eq_false_iff_not] <;> omega)
 unfold endStep sticks
 rw [sayAll_made, d1, d2, <- c1, <- c2]
 simp only [ho, true_and, decide_eq_true_eq]
 unfold lessL
 by_cases q1 : v.lo < lo
 ·by_cases q2 : hi < v.hi
  ·rw [if_pos q1, if_pos q2, if_pos (by omega), if_pos (by omega)]
   simp only [List.length_append, List.length_cons, List.length_nil]
   omega
  ·rw [if_pos q1, if_neg q2, if_pos (by omega), if_neg (by omega)]
   simp only [List.length_append, List.length_cons, List.length_nil]
   omega
 ·by_cases q2 : hi < v.hi
  ·rw [if_neg q1, if_pos q2, if_neg (by omega), if_pos (by omega)]
   simp only [List.length_append, List.length_cons, List.length_nil]
   omega
  ·rw [if_neg q1, if_neg q2, if_neg (by omega), if_neg (by omega)]
   simp only [List.length_append, List.length_nil]
   omega
theorem count_one (p : Ver -> Bool) : ∀ V : List Ver, V.Pairwise (fun a b => ¬ (p a = true /\ p b = true)) -> V.countP p <= 1
 | [], _ => by simp
 | a :: V, h => by
  rw [List.countP_cons]
  by_cases q : p a = true
  ·have : V.countP p = 0 := List.countP_eq_zero.2 fun b hb hp => List.rel_of_pairwise_cons h hb ⟨q, hp⟩
   rw [this, if_pos q]
   omega
  ·rw [if_neg q]
   exact count_one p V (List.Pairwise.of_cons h)
theorem sticks_two {V : List Ver} {made now lo hi : Int} (h : LineOk V made now) (h0 : now <= 150) : sticks lo hi V <= 2 := by
 have one : ∀ t, V.countP (fun v => decide (v.s1 = 151 /\ v.lo < t /\ t < v.hi)) <= 1 := fun t => by
  refine count_one _ V (List.Pairwise.imp_of_mem (fun {a b} ha hb q => ?_) h.apart)
  rintro ⟨p1, p2⟩
  have p1' := of_decide_eq_true p1
  have p2' := of_decide_eq_true p2
  have w1 := h.when a ha
  have w2 := h.when b hb
  exact q now t ⟨by omega, by omega⟩ ⟨by omega, by omega⟩ ⟨by omega, by omega⟩ ⟨by omega, by omega⟩
 have := one lo
 have := one hi
 unfold sticks
 omega
def openV (V : List Ver) : List Ver := V.filter fun v => decide (v.s1 = 151)
def openE (V : List Ver) : List Ent := (openV V).map Ver.ent
theorem mem_openV {V : List Ver} {u : Ver} : u ∈ openV V ↔ u ∈ V /\ u.s1 = 151 := by simp [openV]
theorem openV_rising {V : List Ver} (h : V.Pairwise (fun a b => a.n < b.n)) : (openV V).Pairwise (fun a b => a.n < b.n) := h.sublist List.filter_sublist
theorem openV_len (V : List Ver) : (openV V).length <= V.length := List.length_filter_le _ _
theorem openV_say (V : List Ver) (made lo hi : Int) (val : ByteArray) (now : Int) : openV (sayV V made lo hi val now) = sayV (openV V) made lo hi val now := by
 unfold openV sayV
 rw [List.filter_append]
 simp
theorem openV_drop (V : List Ver) (n : Int) : openV (dropV V n) = dropV (openV V) n := by
 unfold openV dropV
 rw [List.filter_filter, List.filter_filter]
 refine List.filter_congr fun v _ => ?_
 exact Bool.and_comm _ _
theorem openV_shut (V : List Ver) (n : Int) {now : Int} (h0 : now <= 150) : openV (shutV V n now) = dropV (openV V) n := by
 unfold openV shutV dropV
 rw [List.filter_map, List.filter_filter]
 have h1 : ((fun v : Ver => decide (v.s1 = 151)) ∘ fun v => if v.n = n then { v with s1 := now } else v) = fun v => decide (v.n ≠ n) && decide (v.s1 = 151) := by
  funext v
  show decide ((if v.n = n then { v with s1 := now } else v : Ver).s1 = 151) = _
  split
  ·rename_i q
   have q1 : ¬ now = 151 := by omega
   simp [q, q1]
  ·rename_i q
   simp [q]
 rw [h1]
 refine (List.map_congr_left fun v hv => ?_).trans (List.map_id _)
 have := (List.mem_filter.1 hv).2
 rw [Bool.and_eq_true] at this
 rw [if_neg (of_decide_eq_true this.1)]
 rfl
theorem openV_end (V : List Ver) (v : Ver) {now : Int} (h0 : now <= 150) : openV (endV V v now) = dropV (openV V) v.n := by
 unfold endV
 split
 ·exact openV_drop V v.n
 ·exact openV_shut V v.n h0
theorem openV_gone {V : List Ver} {v : Ver} (hL : ∀ u, u ∈ V -> u.n = v.n -> u = v) (ho : v.s1 ≠ 151) : openV (dropV V v.n) = openV V := by
 rw [openV_drop]
 unfold dropV
 refine List.filter_eq_self.2 fun u hu => decide_eq_true fun e => ?_
 have := mem_openV.1 hu
 rw [hL u this.1 e] at this
 exact ho this.2
theorem sayAll_snoc (val : ByteArray) (now : Int) (p : Int × Int) : ∀ (l : List (Int × Int)) (s : List Ver × Int), sayAll val now (l ++ [p]) s = (sayV (sayAll val now l s).1 (sayAll val now l s).2 p.1 p.2 val now, (sayAll val now l s).2 + 1)
 | [], _ => rfl
 | _ :: l, s => by
  rw [List.cons_append, sayAll, sayAll, sayAll_snoc val now p l]
theorem rest_facts {V : List Ver} {made now lo hi : Int} {v : Ver} (h : LineOk V made now) (hv : v ∈ V) (ho : v.s1 = 151) (h0 : now <= 150) (hR : rightB lo hi = true) (hM : meetB lo hi v.ent = true) :
  (∀ p, p ∈ lessL v.lo v.hi lo hi -> rightB p.1 p.2 = true) /\ (∀ p, p ∈ lessL v.lo v.hi lo hi -> ∀ u, u ∈ endV V v now -> u.s1 = 151 -> ∀ t, u.has t -> ¬ (p.1 <= t /\ t < p.2)) /\ (lessL v.lo v.hi lo hi).Pairwise (fun p q => ∀ t, (p.1 <= t /\ t < p.2) -> ¬ (q.1 <= t /\ t < q.2)) := by
 have hm' : max lo v.lo < min hi v.hi := of_decide_eq_true hM
 have hvr := h.right v hv
 have hw := h.when v hv
 unfold rightB at hR hvr
 have hR' := of_decide_eq_true hR
 have hvr' := of_decide_eq_true hvr
 refine ⟨fun p hp => ?_, fun p hp u hu huo t hut hpt => ?_, ?_⟩
 ·unfold rightB
  refine decide_eq_true ?_
  rcases mem_less hp with ⟨q, rfl⟩ | ⟨q, rfl⟩ <;> dsimp only <;> omega
 ·rcases endV_mem h hv hu with ⟨q, qn⟩ | ⟨q, rfl⟩
  ·refine apart_of h hv q (fun e => qn e.symm) (c := now) (t := t) ⟨by omega, by omega⟩ ?_ ?_ hut
   ·have := h.when u q
    exact ⟨by omega, by omega⟩
   ·show v.lo <= t /\ t < v.hi
    rcases mem_less hp with ⟨r, rfl⟩ | ⟨r, rfl⟩ <;> dsimp only at hpt <;> omega
  ·have : now = 151 := huo
   omega
 ·unfold lessL
  by_cases q1 : v.lo < lo
  ·by_cases q2 : hi < v.hi
   ·rw [if_pos q1, if_pos q2]
    simp only [List.cons_append, List.nil_append, List.pairwise_cons, List.mem_singleton, List.not_mem_nil, false_implies, implies_true, List.Pairwise.nil, and_true]
    rintro _ rfl t h1 h2
    dsimp only at h1 h2
    omega
   ·rw [if_pos q1, if_neg q2]; simp
  ·by_cases q2 : hi < v.hi
   ·rw [if_neg q1, if_pos q2]; simp
   ·rw [if_neg q1, if_neg q2]; simp
theorem sayAll_fine {now : Int} {val : ByteArray} (hv : val ≠ ByteArray.empty) (h1 : 1 <= now) : ∀ (l : List (Int × Int)) (V : List Ver) (made : Int), LineOk V made now -> 0 <= made ->
  (∀ p, p ∈ l -> rightB p.1 p.2 = true) -> (∀ p, p ∈ l -> ∀ u, u ∈ V -> u.s1 = 151 -> ∀ t, u.has t -> ¬ (p.1 <= t /\ t < p.2)) -> l.Pairwise (fun p q => ∀ t, (p.1 <= t /\ t < p.2) -> ¬ (q.1 <= t /\ t < q.2)) ->
  LineOk (sayAll val now l (V, made)).1 (made + l.length) now
 | [], V, made, hL, _, _, _, _ => by simpa [sayAll] using hL
 | p :: l, V, made, hL, hm, hR, hA, hP => by
  have s1 := say_ok (val := val) hL hm (hR p (by simp)) hv h1 (hA p (by simp))
  have k1 := sayAll_fine hv h1 l _ _ s1 (by omega) (fun q hq => hR q (by simp [hq])) (fun q hq u hu ho t ht => by
   rcases mem_sayV.1 hu with hu | rfl
   ·exact hA q (by simp [hq]) u hu ho t ht
   ·exact List.rel_of_pairwise_cons hP hq t ht) (List.Pairwise.of_cons hP)
  rw [show made + ((p :: l).length : Int) = made + 1 + (l.length : Int) by simp only [List.length_cons]; omega]
  exact k1
theorem rest_ok {V : List Ver} {made now lo hi : Int} {v : Ver} (h : LineOk V made now) (hm : 0 <= made) (hv : v ∈ V) (ho : v.s1 = 151) (h0 : now <= 150) (h1 : 1 <= now) (hR : rightB lo hi = true) (hM : meetB lo hi v.ent = true) (j : Nat) :
  LineOk (sayAll v.val now ((lessL v.lo v.hi lo hi).take j) (endV V v now, made)).1 (made + ((lessL v.lo v.hi lo hi).take j).length) now := by
 obtain ⟨a, b, c⟩ := rest_facts h hv ho h0 hR hM
 exact sayAll_fine (h.val v hv) h1 _ (endV V v now) made (end_ok h hv ho h0) hm (fun p hp => a p (List.mem_of_mem_take hp)) (fun p hp => b p (List.mem_of_mem_take hp)) (c.sublist (List.take_sublist _ _))
structure EndI (made0 : Int) (N : List Int) (lo hi now known : Int) (S : Int -> Int -> ByteArray) (i : Nat) (V : List Ver) (made : Int) : Prop where
 ok : LineOk V made now
 m0 : 0 <= made
 tells : ∃ S', Tells V known now S' /\ ∀ c t, ¬ (c = now /\ lo <= t /\ t < hi) -> S' c t = S c t
 there : ∀ n, n ∈ N.drop i -> ∃ v, v ∈ V /\ v.n = n /\ v.s1 = 151 /\ meetB lo hi v.ent = true
 left : ∀ v, v ∈ V -> v.s1 = 151 -> meetB lo hi v.ent = true -> v.n ∈ N.drop i
 made : made + (sticks lo hi V : Int) <= made0 + 2
theorem meets_of {V : List Ver} {lo hi : Int} (hR : rightB lo hi = true) (n : Int) : n ∈ meetsT (openE V) lo hi ↔ ∃ v, v ∈ V /\ v.n = n /\ v.s1 = 151 /\ meetB lo hi v.ent = true := by
 unfold meetsT openE
 rw [if_pos hR]
 constructor
 ·intro h
  obtain ⟨e, he, rfl⟩ := List.mem_map.1 h
  obtain ⟨h1, h2⟩ := List.mem_filter.1 he
  obtain ⟨v, hv, rfl⟩ := List.mem_map.1 h1
  have := mem_openV.1 hv
  exact ⟨v, this.1, rfl, this.2, h2⟩
 ·rintro ⟨v, hv, rfl, ho, h⟩
  exact List.mem_map.2 ⟨v.ent, List.mem_filter.2 ⟨List.mem_map.2 ⟨v, mem_openV.2 ⟨hv, ho⟩, rfl⟩, h⟩, rfl⟩
theorem EndI.start {V : List Ver} {made now lo hi known : Int} {S : Int -> Int -> ByteArray} (h : LineOk V made now) (hm : 0 <= made) (hT : Tells V known now S) (h0 : now <= 150) (hR : rightB lo hi = true) : EndI made (meetsT (openE V) lo hi) lo hi now known S 0 V made :=
 ⟨h, hm, ⟨S, hT, fun _ _ _ => rfl⟩, fun n hn => (meets_of hR n).1 (by simpa using hn), fun v hv ho hM => by simpa using (meets_of hR v.n).2 ⟨v, hv, rfl, ho, hM⟩, by have := sticks_two (lo := lo) (hi := hi) h h0; omega⟩
theorem drop_next {N : List Int} {i : Nat} (hi : i < N.length) {n : Int} (hn : n ∈ N.drop i) : n = N[i] \/ n ∈ N.drop (i + 1) := by
 rw [<- List.getElem_cons_drop hi] at hn
 exact List.mem_cons.1 hn
theorem EndI.step {made0 : Int} {N : List Int} {lo hi now known : Int} {S : Int -> Int -> ByteArray} {i : Nat} {V : List Ver} {made : Int} (h : EndI made0 N lo hi now known S i V made) (hN : N.Pairwise (· < ·)) (hil : i < N.length) {v : Ver} (hv : v ∈ V) (hn : v.n = N[i]) (ho : v.s1 = 151) (hM : meetB lo hi v.ent = true) (hR : rightB lo hi = true) (h0 : now <= 150) (h1 : 1 <= now) (hk : known <= now) :
  EndI made0 N lo hi now known S (i + 1) (endStep V made v lo hi now).1 (endStep V made v lo hi now).2 := by
 obtain ⟨S', hT, hS⟩ := h.tells
 obtain ⟨e1, e2, e3, e4⟩ := end_step h.ok h.m0 hT hv ho h0 h1 hk hR hM
 have hlt : lo < hi := right_ltM hR
 have e5 := sticks_step h.ok hv ho h0 hlt hM
 have hne : ∀ n, n ∈ N.drop (i + 1) -> n ≠ v.n := fun n hn' e => by
  have := List.Pairwise.sublist (List.drop_sublist i N) hN
  rw [<- List.getElem_cons_drop hil] at this
  have := List.rel_of_pairwise_cons this hn'
  omega
 refine ⟨e1, ?_, ⟨_, e2, fun c t hc => ?_⟩, fun n hn' => ?_, fun u hu huo huM => ?_, ?_⟩
 ·unfold endStep
  rw [sayAll_made]
  have := h.m0
  dsimp only
  omega
 ·rw [if_neg (fun q => hc ⟨q.1, q.2.1⟩)]
  exact hS c t hc
 ·obtain ⟨u, hu, hun, huo, huM⟩ := h.there n (by rw [<- List.getElem_cons_drop hil]; exact List.mem_cons_of_mem _ hn')
  exact ⟨u, e4 u hu (by rw [hun]; exact hne n hn'), hun, huo, huM⟩
 ·obtain ⟨q1, q2⟩ := e3 u hu huo huM
  rcases drop_next hil (h.left u q1 huo huM) with q | q
  ·exact absurd (q.trans hn.symm) q2
  ·exact q
 ·have := h.made
  omega
theorem meet_has {lo hi t : Int} {u : Ver} (h1 : u.has t) (h2 : lo <= t /\ t < hi) : meetB lo hi u.ent = true := by
 unfold meetB
 refine decide_eq_true ?_
 have a : u.lo <= t := h1.1
 have b : t < u.hi := h1.2
 show max lo u.lo < min hi u.hi
 omega
theorem EndI.done {made0 : Int} {N : List Int} {lo hi now known : Int} {S : Int -> Int -> ByteArray} {V : List Ver} {made : Int} (h : EndI made0 N lo hi now known S N.length V made) (_h0 : now <= 150) :
  Tells V known now (fun c t => if c = now /\ lo <= t /\ t < hi then ByteArray.empty else S c t) /\ made <= made0 + 2 /\ ∀ u, u ∈ V -> u.s1 = 151 -> ∀ t, u.has t -> ¬ (lo <= t /\ t < hi) := by
 have none : ∀ u, u ∈ V -> u.s1 = 151 -> ∀ t, u.has t -> ¬ (lo <= t /\ t < hi) := fun u hu ho t ht q => by
  have := h.left u hu ho (meet_has ht q)
  rw [List.drop_length] at this
  cases this
 obtain ⟨S', hT, hS⟩ := h.tells
 refine ⟨fun c h1 h2 t => ?_, by have := h.made; omega, none⟩
 obtain ⟨k1, k2⟩ := hT c h1 h2 t
 dsimp only
 by_cases q : c = now /\ lo <= t /\ t < hi
 ·rw [if_pos q]
  refine ⟨fun v hv hl hh => ?_, fun e => absurd rfl e⟩
  have := h.ok.when v hv
  have l2 := hl.2
  exact absurd q.2 (none v hv (by omega) t hh)
 ·rw [if_neg q, <- hS c t q]
  exact ⟨k1, k2⟩
end Go.Proofs.YtbmkmfoaoganeaaGreatDoor
