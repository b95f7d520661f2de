/- Texts of one proof, one behind the other. -/
import Derived.Test.YtbmkmfoaoganeaaGreatDoorOa
import Derived.Test.YtbmkmfoaoganeaaGreatDoorShelfE
import Derived.Test.YtbmkmfoaoganeaaGreatDoorNg
import Derived.Test.YtbmkmfoaoganeaaGreatDoorNf
import Derived.Sort.OwnSorted
set_option maxRecDepth 100000
set_option maxHeartbeats 16000000
namespace Go.Proofs.YtbmkmfoaoganeaaGreatDoor
open Go.RowKit Go.Maps
structure Canon (ps : List (Int × Int × ByteArray)) : Prop where
 right : ∀ p, p ∈ ps -> rightB p.1 p.2.1 = true /\ p.2.2 ≠ ByteArray.empty
 rise : ps.Pairwise (fun a b => a.2.1 <= b.1)
 parted : ∀ i, (h : i + 1 < ps.length) -> ¬ (ps[i].2.1 = ps[i + 1].1 /\ ps[i].2.2 = ps[i + 1].2.2)
def Covers (ps : List (Int × Int × ByteArray)) (f : Int -> ByteArray) : Prop :=
 ∀ t, (∀ p, p ∈ ps -> p.1 <= t -> t < p.2.1 -> p.2.2 = f t) /\ (f t ≠ ByteArray.empty -> ∃ p, p ∈ ps /\ p.1 <= t /\ t < p.2.1)
def Cov (ps : List (Int × Int × ByteArray)) (t : Int) (v : ByteArray) : Prop := ∃ p, p ∈ ps /\ p.1 <= t /\ t < p.2.1 /\ p.2.2 = v
theorem canon_nil : Canon [] := ⟨by simp, List.Pairwise.nil, fun i h => by simp at h⟩
theorem canon_snoc {M : List (Int × Int × ByteArray)} {x : Int × Int × ByteArray} (h : Canon M) (hx : rightB x.1 x.2.1 = true /\ x.2.2 ≠ ByteArray.empty) (hr : ∀ p, p ∈ M -> p.2.1 <= x.1) (hp : ∀ p, M.getLast? = some p -> ¬ (p.2.1 = x.1 /\ p.2.2 = x.2.2)) : Canon (M ++ [x]) := by
 refine ⟨fun p hpm => ?_, ?_, fun i hi => ?_⟩
 ·rcases List.mem_append.1 hpm with q | q
  ·exact h.right p q
  ·rw [List.mem_singleton] at q
   subst q
   exact hx
 ·rw [List.pairwise_append]
  refine ⟨h.rise, by simp, fun a ha b hb => ?_⟩
  rw [List.mem_singleton] at hb
  subst hb
  exact hr a ha
 ·simp only [List.length_append, List.length_cons, List.length_nil] at hi
  by_cases q : i + 1 < M.length
  ·rw [List.getElem_append_left (by omega), List.getElem_append_left q]
   exact h.parted i q
  ·have e : i + 1 = M.length := by omega
   rw [List.getElem_append_left (show i < M.length by omega), List.getElem_append_right (by omega)]
   simp only [e, Nat.sub_self, List.getElem_cons_zero]
   refine hp _ ?_
   rw [List.getLast?_eq_getElem?, show M.length - 1 = i by omega, List.getElem?_eq_getElem (by omega)]
theorem canon_init {M : List (Int × Int × ByteArray)} {p : Int × Int × ByteArray} (h : Canon (M ++ [p])) : Canon M /\ (∀ q, q ∈ M -> q.2.1 <= p.1) /\ ∀ q, M.getLast? = some q -> ¬ (q.2.1 = p.1 /\ q.2.2 = p.2.2) := by
 have hr := List.pairwise_append.1 h.rise
 refine ⟨⟨fun q hq => h.right q (by simp [hq]), hr.1, fun i hi => ?_⟩, fun q hq => hr.2.2 q hq p (by simp), fun q hq => ?_⟩
 ·have := h.parted i (by simp; omega)
  rw [List.getElem_append_left (by omega), List.getElem_append_left hi] at this
  exact this
 ·have hM : 0 < M.length := by
   rcases M with _ | ⟨a, M⟩
   ·simp at hq
   ·simp
  have := h.parted (M.length - 1) (by simp; omega)
  rw [List.getElem_append_left (by omega), List.getElem_append_right (by omega)] at this
  simp only [show M.length - 1 + 1 - M.length = 0 by omega, List.getElem_cons_zero] at this
  rw [List.getLast?_eq_getElem?, List.getElem?_eq_getElem (by omega)] at hq
  cases hq
  exact this
theorem cov_app (l m : List (Int × Int × ByteArray)) (t : Int) (v : ByteArray) : Cov (l ++ m) t v ↔ Cov l t v \/ Cov m t v := by
 unfold Cov
 constructor
 ·rintro ⟨p, hp, h⟩
  rcases List.mem_append.1 hp with q | q
  ·exact .inl ⟨p, q, h⟩
  ·exact .inr ⟨p, q, h⟩
 ·rintro (⟨p, hp, h⟩ | ⟨p, hp, h⟩)
  ·exact ⟨p, by simp [hp], h⟩
  ·exact ⟨p, by simp [hp], h⟩
theorem cov_one (p : Int × Int × ByteArray) (t : Int) (v : ByteArray) : Cov [p] t v ↔ p.1 <= t /\ t < p.2.1 /\ p.2.2 = v := by
 unfold Cov
 constructor
 ·rintro ⟨q, hq, h⟩
  rw [List.mem_singleton] at hq
  subst hq
  exact h
 ·intro h
  exact ⟨p, by simp, h⟩
theorem join_canon (n : Nat) : ∀ (l : List (Int × Int × ByteArray)), l.length = n -> (∀ p, p ∈ l -> rightB p.1 p.2.1 = true /\ p.2.2 ≠ ByteArray.empty) -> l.Pairwise (fun a b => a.2.1 <= b.1) ->
  Canon (joinL l) /\ (∀ t v, Cov (joinL l) t v ↔ Cov l t v) /\ (∀ p, p ∈ joinL l -> ∃ q, q ∈ l /\ p.2.1 = q.2.1) := by
 induction n with
 | zero =>
  intro l hl _ _
  obtain rfl := List.length_eq_zero_iff.1 hl
  exact ⟨canon_nil, fun _ _ => Iff.rfl, (fun p hp => by cases hp)⟩
 | succ n ih =>
  intro l hl hR hP
  rcases List.eq_nil_or_concat l with rfl | ⟨k, x, rfl⟩
  ·simp at hl
  rw [List.concat_eq_append] at *
  have hP' := List.pairwise_append.1 hP
  obtain ⟨i1, i2, i3⟩ := ih k (by simpa using hl) (fun p hp => hR p (by simp [hp])) hP'.1
  have hx := hR x (by simp)
  have hend : ∀ p, p ∈ joinL k -> p.2.1 <= x.1 := fun p hp => by
   obtain ⟨q, hq, e⟩ := i3 p hp
   rw [e]
   exact hP'.2.2 q hq x (by simp)
  rw [joinL_snoc]
  rcases List.eq_nil_or_concat (joinL k) with hJ | ⟨M, p, hJ⟩
  ·rw [hJ, joinStep_nil]
   refine ⟨canon_snoc canon_nil hx (by simp) (by simp), fun t v => ?_, fun p hp => ?_⟩
   ·rw [cov_app, <- i2, hJ]
    constructor
    ·exact .inr
    ·rintro (⟨q, hq, _⟩ | h)
     ·cases hq
     ·exact h
   ·rw [List.mem_singleton] at hp
    exact ⟨x, by simp, by rw [hp]⟩
  ·rw [List.concat_eq_append] at hJ
   rw [hJ, joinStep_snoc]
   rw [hJ] at i1 i2 i3 hend
   obtain ⟨c1, c2, c3⟩ := canon_init i1
   have hp := i1.right p (by simp)
   have hp' := of_decide_eq_true (show decide (-1099511627776 <= p.1 /\ p.2.1 <= 1099511627776 /\ p.1 < p.2.1) = true from hp.1)
   have hx' := of_decide_eq_true (show decide (-1099511627776 <= x.1 /\ x.2.1 <= 1099511627776 /\ x.1 < x.2.1) = true from hx.1)
   by_cases hm : p.2.1 = x.1 /\ p.2.2 = x.2.2
   ·rw [if_pos hm]
    refine ⟨canon_snoc c1 ⟨decide_eq_true (by show _ <= p.1 /\ x.2.1 <= _ /\ p.1 < x.2.1; omega), hp.2⟩ c2 c3, fun t v => ?_, fun q hq => ?_⟩
    ·rw [cov_app, cov_app, <- i2, cov_app, cov_one, cov_one, cov_one, hm.2]
     dsimp only
     have : (p.1 <= t /\ t < x.2.1 /\ x.2.2 = v) ↔ ((p.1 <= t /\ t < p.2.1 /\ x.2.2 = v) \/ (x.1 <= t /\ t < x.2.1 /\ x.2.2 = v)) := by
      constructor
      ·rintro ⟨a, b, c⟩
       by_cases q : t < p.2.1
       ·exact .inl ⟨a, q, c⟩
       ·exact .inr ⟨by omega, b, c⟩
      ·rintro (⟨a, b, c⟩ | ⟨a, b, c⟩)
       ·exact ⟨a, by omega, c⟩
       ·exact ⟨by omega, b, c⟩
     rw [this, or_assoc]
    ·rcases List.mem_append.1 hq with q | q
     ·obtain ⟨y, hy, e⟩ := i3 _ (List.mem_append_left _ q)
      exact ⟨y, by simp [hy], e⟩
     ·rw [List.mem_singleton] at q
      exact ⟨x, by simp, by rw [q]⟩
   ·rw [if_neg hm]
    refine ⟨canon_snoc i1 hx hend (fun q hq => ?_), fun t v => ?_, fun q hq => ?_⟩
    ·rw [List.getLast?_concat] at hq
     cases hq
     exact hm
    ·rw [cov_app, cov_app k, i2]
    ·rcases List.mem_append.1 hq with q | q
     ·obtain ⟨y, hy, e⟩ := i3 _ q
      exact ⟨y, by simp [hy], e⟩
     ·rw [List.mem_singleton] at q
      exact ⟨x, by simp, by rw [q]⟩
theorem said_pieces {X : List (Ky × Nat)} {Ln : Nat -> List Ver × Int} {now known bd : Int} {S : Ky -> Int -> Int -> ByteArray} (h : Pst X Ln now known bd S) {k : Ky} {at_ : Int} (h1 : known <= at_) (h2 : at_ <= now) {out l' : List (Int × Int × ByteArray)} (ho : saidX X Ln k at_ at_ (-1099511627776) 1099511627776 out) (hp : l'.Perm out) (hs : l'.Pairwise (fun a b => a.1 <= b.1)) :
  Canon (joinL l') /\ Covers (joinL l') (S k at_) := by
 obtain ⟨out, ho, hq⟩ := ho
 replace hp := hp.trans hq
 have key : (∀ p, p ∈ out -> rightB p.1 p.2.1 = true /\ p.2.2 ≠ ByteArray.empty) /\ out.Pairwise (fun a b => a.2.1 <= b.1 \/ b.2.1 <= a.1) /\ Covers out (S k at_) := by
  rcases ho with ⟨x, hx, rfl, rfl⟩ | ⟨hno, rfl⟩
  ·have ok := h.ok x hx
   have lv : ∀ v, v ∈ (metV (Ln x.2).1 (-1099511627776) 1099511627776).filter (liveB at_ at_) ↔ v ∈ (Ln x.2).1 /\ v.live at_ := fun v => by
    rw [List.mem_filter, metV_iff (by decide)]
    unfold liveB meetB
    rw [decide_eq_true_eq, decide_eq_true_eq]
    constructor
    ·rintro ⟨⟨q1, _⟩, q3⟩
     exact ⟨q1, q3.1, q3.2⟩
    ·rintro ⟨q1, q2⟩
     have q3 := ok.right v q1
     have q4 := of_decide_eq_true (show decide (-1099511627776 <= v.lo /\ v.hi <= 1099511627776 /\ v.lo < v.hi) = true from q3)
     refine ⟨⟨q1, ?_⟩, q2.1, q2.2⟩
     show max (-1099511627776) v.lo < min 1099511627776 v.hi
     omega
   refine ⟨fun p hp => ?_, ?_, fun t => ?_⟩
   ·obtain ⟨v, hv, rfl⟩ := List.mem_map.1 hp
    have := ((lv v).1 hv).1
    exact ⟨ok.right v this, ok.val v this⟩
   ·unfold saidV
    rw [List.pairwise_map]
    have hsub : ((metV (Ln x.2).1 (-1099511627776) 1099511627776).filter (liveB at_ at_)).Sublist (Ln x.2).1 := by
     unfold metV
     exact List.filter_sublist.trans List.filter_sublist
    refine List.Pairwise.imp_of_mem (fun {a b} ha hb q => ?_) (ok.apart.sublist hsub)
    obtain ⟨a1, a2⟩ := (lv a).1 ha
    obtain ⟨b1, b2⟩ := (lv b).1 hb
    have ra := right_ltM (ok.right a a1)
    have rb := right_ltM (ok.right b b1)
    show a.hi <= b.lo \/ b.hi <= a.lo
    rcases Int.lt_or_le a.lo b.lo with c | c
    ·left
     rcases Int.lt_or_le b.lo a.hi with d | d
     ·exact absurd ⟨Int.le_refl _, rb⟩ (q at_ b.lo a2 b2 ⟨by omega, d⟩)
     ·exact d
    ·right
     rcases Int.lt_or_le a.lo b.hi with d | d
     ·exact absurd ⟨c, d⟩ (q at_ a.lo a2 b2 ⟨Int.le_refl _, ra⟩)
     ·exact d
   ·obtain ⟨k1, k2⟩ := h.tells x hx at_ h1 h2 t
    refine ⟨fun p hp a b => ?_, fun e => ?_⟩
    ·obtain ⟨v, hv, rfl⟩ := List.mem_map.1 hp
     obtain ⟨v1, v2⟩ := (lv v).1 hv
     exact k1 v v1 v2 ⟨a, b⟩
    ·obtain ⟨v, hv, hl, hh⟩ := k2 e
     exact ⟨v.pc, List.mem_map.2 ⟨v, (lv v).2 ⟨hv, hl⟩, rfl⟩, hh.1, hh.2⟩
  ·refine ⟨by simp, List.Pairwise.nil, fun t => ⟨by simp, fun e => absurd (h.none k hno at_ h1 h2 t) e⟩⟩
 obtain ⟨key1, key2, key3⟩ := key
 have r1 : ∀ p, p ∈ l' -> rightB p.1 p.2.1 = true /\ p.2.2 ≠ ByteArray.empty := fun p q => key1 p (hp.mem_iff.1 q)
 have r2 : l'.Pairwise (fun a b => a.2.1 <= b.1 \/ b.2.1 <= a.1) := (hp.pairwise_iff (R := fun a b : Int × Int × ByteArray => a.2.1 <= b.1 \/ b.2.1 <= a.1) (fun hab => hab.symm)).2 key2
 have r3 : l'.Pairwise (fun a b => a.2.1 <= b.1) := by
  refine List.Pairwise.imp_of_mem (fun {a b} ha hb q => ?_) (List.Pairwise.and hs r2)
  have ra := right_ltM (r1 a ha).1
  have rb := right_ltM (r1 b hb).1
  rcases q with ⟨q1, q2 | q2⟩
  ·exact q2
  ·omega
 obtain ⟨j1, j2, _⟩ := join_canon l'.length l' rfl r1 r3
 refine ⟨j1, fun t => ?_⟩
 obtain ⟨k1, k2⟩ := key3 t
 refine ⟨fun p hp' a b => ?_, fun e => ?_⟩
 ·obtain ⟨q, hq, q1, q2, q3⟩ := (j2 t p.2.2).1 ⟨p, hp', a, b, rfl⟩
  rw [<- q3]
  exact k1 q (hp.mem_iff.1 hq) q1 q2
 ·obtain ⟨p, hp', a, b⟩ := k2 e
  obtain ⟨q, hq, q1, q2, _⟩ := (j2 t p.2.2).2 ⟨p, hp.mem_iff.2 hp', a, b, rfl⟩
  exact ⟨q, hq, q1, q2⟩
def PiecesSay (w : World) (f : Int -> ByteArray) (e : Ending) (w' : World) : Prop :=
 ∃ v ps, e = .returned (.tuple #[v, .nilIface]) /\ w'.ownsRow w.heap.size 107 3 v ps.length (encP ps) /\ Canon ps /\ Covers ps f /\ Below w.heap.size w w'
theorem said_short {X : List (Ky × Nat)} {Ln : Nat -> List Ver × Int} {now known bd : Int} {S : Ky -> Int -> Int -> ByteArray} (h : Pst X Ln now known bd S) {k : Ky} {a b lo hi : Int} {out : List (Int × Int × ByteArray)} (ho : saidX X Ln k a b lo hi out) (hb : bd <= 4000) : out.length <= 4000 := by
 obtain ⟨o, ho, hp⟩ := ho
 rw [hp.length_eq]
 rcases ho with ⟨x, hx, rfl, rfl⟩ | ⟨_, rfl⟩
 ·have q1 := (h.ok x hx).len
  have q2 := (h.m0 x hx).2
  unfold saidV metV
  rw [List.length_map]
  have q3 := List.length_filter_le (liveB a b) ((Ln x.2).1.filter (fun v => meetB lo hi v.ent))
  have := List.length_filter_le (fun v => meetB lo hi v.ent) (Ln x.2).1
  omega
 ·simp
theorem pieces_ok {w : World} {P : Pl} {now known bd : Int} {S : Ky -> Int -> Int -> ByteArray} {F : Nat -> Prop} (h : PastW w P now known bd S F) (hb1 : bd <= 4000) (k : Ky) (hk : KyOk k) (hkb : keyB k.kind k.a k.word k.b = true) (at_ : Int) (h0 : 0 <= at_) (h1 : known <= at_) (h2 : at_ <= now) :
  Calls Tryz.prog 71 #[.pointer (some ⟨P.b, P.o, none⟩), .agg #[.int .i64 k.kind, .int .i64 k.a, .string k.word, .int .i64 k.b], .int .i64 at_] w (PiecesSay w (S k at_)) := by
 have HB1 := zh (below_box w (.cells #[.int .i64 k.kind, .int .i64 k.a, .string k.word, .int .i64 k.b] 73))
 have HP := zh (h.below (uh HB1))
 have HK := zh (boxK_new w k)
 have hce : errV (countErr now known at_) = .nilIface := by
  have : countErr now known at_ = 0 := by unfold countErr; rw [if_neg (by omega), if_neg (by omega)]
  rw [this]; rfl
 have HC : Hid (∀ W, PastW W P now known bd S F -> Calls Tryz.prog 96 #[.pointer (some ⟨P.b, P.o, none⟩), .int .i64 at_] W fun e w' => e = .returned .nilIface /\ w' = W) := fun W hW => by
  obtain ⟨mv, X, Ln, Fs, p, _⟩ := hW
  rw [<- hce]
  exact past_count p.c0 p.c1 at_
 have HKy := zh (fun W => fact_Key k.kind k.a k.word k.b W hk.word)
 rw [hkb] at HKy
 have k0 := (uh HK).c0
 have k1 := (uh HK).c1
 have k2 := (uh HK).c2
 have k3 := (uh HK).c3
 clear h hce hkb
 go_enter Tryz.func71, Tryz.ntmps71
 go_wp2_with fail
 generalize w.alloc (.cells #[.int .i64 k.kind, .int .i64 k.a, .string k.word, .int .i64 k.b] 73) = W0 at *
 refine (uh HC _ (uh HP)).mono ?_
 rintro e W1 ⟨rfl, rfl⟩
 go_wp2_with fail
 refine (uh HKy _).mono ?_
 rintro e W2 ⟨rfl, hW2⟩
 have b2 : Below W1.heap.size W1 W2 := by rw [hW2]; exact below_box _ _
 obtain ⟨mv, X, Ln, Fs, pX, pS, _, _⟩ := (uh HP).below b2
 have HK2 := zh ((uh HK).below b2)
 have HB2 := zh ((uh HB1).trans (b2.mono (uh HB1).size))
 have HPS := zh pS
 have HSd := zh (past_said pX pS hb1 k hk at_ at_ (-1099511627776) 1099511627776)
 clear hW2 b2 HP HK HB1 k0 k1 k2 k3 HC HKy pX pS
 have k0 := (uh HK2).c0
 have k1 := (uh HK2).c1
 have k2 := (uh HK2).c2
 have k3 := (uh HK2).c3
 go_wp2_with fail
 refine (uh HSd).mono ?_
 rintro e W3 ⟨out, hx, v, rfl, ho, b3⟩
 have hout := said_short (uh HPS) hx hb1
 have HX := zh hx
 have HB3 := zh ((uh HB2).trans (b3.mono (uh HB2).size))
 have HSo := zh (pieces_sort out v W3 W2.heap.size (by omega) ho)
 obtain ⟨ad, n, cap, rfl⟩ : ∃ ad n cap, v = .slice ad n cap := by
  obtain ⟨ad, cap, e⟩ := row_slice ho
  exact ⟨ad, _, cap, e⟩
 have HOl := zh ho.lt
 have hb2s : w.heap.size <= W2.heap.size := (uh HB2).size
 clear hx b3 ho HSd HK2 HB2 k0 k1 k2 k3
 go_wp2_with fail
 refine (uh HSo).mono ?_
 rintro e W4 ⟨rfl, l', hp, hs, ho4, hg4⟩
 have HB4 : Hid (Below w.heap.size w W4) := (uh HB3).grown hg4 (uh HB3).size (fun i hi => by have := (uh HOl i hi).1; omega)
 obtain ⟨c1, c2⟩ := said_pieces (uh HPS) h1 h2 (uh HX) hp hs
 have HC1 := zh c1
 have HC2 := zh c2
 obtain ⟨g, ad2, cap2, he, hf⟩ := own_pieces ho4
 have hl4 : l'.length <= 4000 := by rw [hp.length_eq]; exact hout
 have HJ := zh (past_join l' ad2 cap2 g W4 hl4 (fun j hj => ⟨(hf j hj).1, (hf j hj).2.2.1, (hf j hj).2.2.2.1, (hf j hj).2.2.2.2⟩))
 rw [<- he] at HJ
 clear c1 c2 hp hs ho4 hg4 he hf HSo HX HB3 HOl
 go_wp2_with fail
 refine (uh HJ).mono ?_
 rintro e W5 ⟨v5, rfl, o5, b5⟩
 have HR : Hid (PiecesSay w (S k at_) (.returned (.tuple #[v5, .nilIface])) W5) := ⟨v5, joinL l', rfl, ownsRow_rebase o5 (uh HB4).size, uh HC1, uh HC2, (uh HB4).trans (b5.mono (uh HB4).size)⟩
 clear o5 b5 HJ HB4 HC1 HC2
 go_wp2
 go_ret2
 exact uh HR
def strs (l : List ByteArray) : List (List UInt8) := l.map (·.data.toList)
theorem strs_enc (l : List ByteArray) : (strs l).map encStr = l.map Value.string := by
 unfold strs
 rw [List.map_map]
 rfl
theorem strs_length (l : List ByteArray) : (strs l).length = l.length := List.length_map ..
def srt (l : List (List UInt8)) : List (List UInt8) := l.mergeSort fun x y => decide (x <= y)
theorem srt_length (l : List (List UInt8)) : (srt l).length = l.length := List.length_mergeSort l
theorem srt_sorted (l : List (List UInt8)) : (srt l).Pairwise (· <= ·) := by
 have := List.pairwise_mergeSort (le := fun x y : List UInt8 => decide (x <= y)) (fun a b c h1 h2 => by
  simp only [decide_eq_true_eq] at *
  exact List.le_trans h1 h2) (fun a b => by
  simp only [Bool.or_eq_true, decide_eq_true_eq]
  exact List.le_total a b) l
 exact this.imp (fun h => by simpa using h)
theorem compact_mem (zs : List (List UInt8)) (x : List UInt8) : x ∈ Lib.compact zs ↔ x ∈ zs := by
 unfold Lib.compact Lib.compactUpTo
 rw [List.mem_map]
 constructor
 ·rintro ⟨j, hj, rfl⟩
  have hj' := List.mem_range.1 (List.mem_filter.1 hj).1
  have : zs.toArray[j]! = zs[j] := by simp [hj']
  rw [this]
  exact List.getElem_mem hj'
 ·intro hx
  have key : ∀ n, ∀ j, (hj : j < zs.length) -> j <= n -> zs[j] = x -> ∃ a, a ∈ (List.range zs.length).filter (Lib.keeps zs.toArray) /\ zs.toArray[a]! = x := by
   intro n
   induction n with
   | zero =>
    intro j hj h0 e
    obtain rfl : j = 0 := by omega
    exact ⟨0, List.mem_filter.2 ⟨List.mem_range.2 hj, by simp [Lib.keeps]⟩, by simpa [hj] using e⟩
   | succ n ih =>
    intro j hj h0 e
    by_cases hk : Lib.keeps zs.toArray j = true
    ·exact ⟨j, List.mem_filter.2 ⟨List.mem_range.2 hj, hk⟩, by simpa [hj] using e⟩
    ·by_cases z : j = 0
     ·subst z
      exact absurd (by simp [Lib.keeps]) hk
     ·have hj1 : j - 1 < zs.length := by omega
      have hk' : zs[j] = zs[j - 1] := by
       rcases Classical.em (zs[j] = zs[j - 1]) with c | c
       ·exact c
       ·refine absurd (Lib.keeps_pos ?_) hk
        simpa [hj, hj1] using c
      exact ih (j - 1) hj1 (by omega) (by rw [<- hk']; exact e)
  obtain ⟨j, hj, e⟩ := List.getElem_of_mem hx
  exact key j j hj zr e
theorem compact_rises (zs : List (List UInt8)) (hs : zs.Pairwise (· <= ·)) : (Lib.compact zs).Pairwise (· < ·) := by
 unfold Lib.compact Lib.compactUpTo
 rw [List.pairwise_map]
 refine List.Pairwise.imp_of_mem (fun {a b} ha hb q => ?_) (List.Pairwise.filter _ List.pairwise_lt_range)
 have ha' := List.mem_range.1 (List.mem_filter.1 ha).1
 obtain ⟨hb1, hb2⟩ := List.mem_filter.1 hb
 have hb' := List.mem_range.1 hb1
 have hb1' : b - 1 < zs.length := by omega
 have ea : zs.toArray[a]! = zs[a] := by simp [ha']
 have eb : zs.toArray[b]! = zs[b] := by simp [hb']
 have ec : zs.toArray[b - 1]! = zs[b - 1] := by simp [hb1']
 rw [ea, eb]
 unfold Lib.keeps at hb2
 rw [decide_eq_true_eq, eb, ec] at hb2
 have hne : zs[b] ≠ zs[b - 1] := by
  rcases hb2 with c | c
  ·omega
  ·exact c
 have le1 : zs[a] <= zs[b - 1] := by
  rcases Nat.lt_or_ge a (b - 1) with c | c
  ·exact List.pairwise_iff_getElem.1 hs a (b - 1) ha' hb1' c
  ·have : a = b - 1 := by omega
   subst this
   exact List.le_refl _
 have le2 : zs[b - 1] <= zs[b] := List.pairwise_iff_getElem.1 hs (b - 1) b hb1' hb' (by omega)
 have le3 : zs[a] <= zs[b] := List.le_trans le1 le2
 rcases Classical.em (zs[b] <= zs[a]) with c | c
 ·have e1 : zs[b - 1] <= zs[a] := List.le_trans le2 c
  have e2 := List.le_antisymm le1 e1
  have e3 := List.le_antisymm le3 c
  exact absurd (e3.symm.trans e2) hne
 ·exact List.not_le.1 c
theorem sort_strs (l : List ByteArray) (v : Value) (w : World) (base : Nat) (hlen : l.length < 1099511627776) (hown : w.ownsRow base 9 1 v l.length (l.map Value.string)) :
  Calls Tryz.prog 100 #[v] w fun e w' => e = .returned (.tuple #[]) /\ w'.ownsRow base 9 1 v (srt (strs l)).length ((srt (strs l)).map encStr) /\ w.grownBy w' v.ownBlock := by
 rcases hown.2 with ⟨rfl, h0⟩ | ⟨g, cap, cur, rfl, hbg, hg, hnc, hcm, hcs, htake⟩
 ·have hz : l = [] := List.eq_nil_of_length_eq_zero h0
  subst hz
  have hcon := Any.slices_Sort_string_none Tryz.lays190 none 0 w
  change Calls Tryz.prog 100 _ _ _ at hcon
  refine hcon.mono ?_
  rintro e w' ⟨rfl, rfl⟩
  exact ⟨rfl, by simpa [srt, strs] using hown, ⟨rfl, rfl, rfl, Nat.le_refl _, fun _ _ _ => rfl⟩⟩
 ·have hH : Go.Sort.Holds encStr w g 0 (strs l).toArray := holds_of_block hg (by rw [strs_enc, strs_length]; simpa using htake)
  have hcon := Any.slices_Sort_string Tryz.lays190 g 0 cap (strs l) w hH (Array.getElem?_eq_some_iff.1 hg).1 (by rw [strs_length]; omega)
  change Calls Tryz.prog 100 _ _ _ at hcon
  rw [strs_length] at hcon
  refine hcon.mono ?_
  rintro e w' ⟨rfl, n, os, rfl⟩
  refine ⟨rfl, ?_, grownBy_sorted _⟩
  have := ownsRow_sorted (n := n) (os := os) (ss := strs l) (ts := srt (strs l)) (srt_length _) hbg hg (by rw [strs_length]; exact hnc) hcm hcs
  rw [srt_length, strs_length] at *
  exact this
theorem compact_strs (ss : List (List UInt8)) (v : Value) (w : World) (base : Nat) (hlen : ss.length < 1099511627776) (hown : w.ownsRow base 9 1 v ss.length (ss.map encStr)) :
  Calls Tryz.prog 101 #[v] w fun e w' => ∃ v', e = .returned v' /\ w'.ownsRow base 9 1 v' (Lib.compact ss).length ((Lib.compact ss).map encStr) /\ w.grownBy w' v.ownBlock := by
 rcases hown.2 with ⟨rfl, h0⟩ | ⟨g, cap, cur, rfl, hbg, hg, hnc, hcm, hcs, htake⟩
 ·have hz : ss = [] := List.eq_nil_of_length_eq_zero h0
  subst hz
  have hcon := Any.slices_Compact_string_empty Tryz.lays194 none 0 w
  change Calls Tryz.prog 101 _ _ _ at hcon
  refine hcon.mono ?_
  rintro e w' ⟨rfl, rfl⟩
  exact ⟨_, rfl, by simpa [Lib.compact, Lib.compactUpTo] using hown, ⟨rfl, rfl, rfl, Nat.le_refl _, fun _ _ _ => rfl⟩⟩
 ·have hH : Go.Sort.Holds encStr w g 0 ss.toArray := holds_of_block hg (by simpa using htake)
  have hcon := Any.slices_Compact_string Tryz.lays194 g 0 cap ss w hH (by omega) hnc
  change Calls Tryz.prog 101 _ _ _ at hcon
  refine hcon.mono ?_
  rintro e w' ⟨rfl, q, rfl⟩
  have hle : (Lib.compact ss).length <= ss.length := by
   unfold Lib.compact Lib.compactUpTo
   rw [List.length_map]
   have := List.length_filter_le (Lib.keeps ss.toArray) (List.range ss.length)
   rw [List.length_range] at this
   exact this
  have hl : (Lib.compact ss ++ List.replicate (ss.length - (Lib.compact ss).length) ([] : List UInt8)).length = ss.length := by
   rw [List.length_append, List.length_replicate]; omega
  have h1 := ownsRow_sorted (n := q) (os := #[]) (ss := ss) (ts := Lib.compact ss ++ List.replicate (ss.length - (Lib.compact ss).length) []) hl hbg hg hnc hcm hcs
  have h2 := grownBy_sorted (w := w) (g := g) (n := q) (os := #[]) (Lib.compact ss ++ List.replicate (ss.length - (Lib.compact ss).length) []).toArray
  have hgr : ∀ W : World, Go.Sort.grow W #[] = W := fun W => by simp [Go.Sort.grow]
  rw [hgr] at h1 h2
  refine ⟨_, rfl, ?_, h2⟩
  rcases h1.2 with ⟨hv, _⟩ | ⟨g', cap', cur', hv, b1, b2, b3, b4, b5, b6⟩
  ·cases hv
  ·cases hv
   refine ⟨by simp, .inr ⟨g, cap, cur', rfl, b1, b2, by omega, b4, b5, ?_⟩⟩
   rw [Nat.mul_one] at b6 ⊢
   have := congrArg (List.take (Lib.compact ss).length) b6
   rw [List.take_take, Nat.min_eq_left hle, List.map_append, List.take_left' (by simp)] at this
   exact this
theorem two_first (a b : Int) (w : World) : (Instr.index 147 (.agg #[.int .i64 a, .int .i64 b]) (.int .i64 0)).run Tryz.prog w = .ok (.int .i64 a) w := by kernel_rfl
theorem two_second (a b : Int) (w : World) : (Instr.index 147 (.agg #[.int .i64 a, .int .i64 b]) (.int .i64 1)).run Tryz.prog w = .ok (.int .i64 b) w := by kernel_rfl
theorem said_ever {X : List (Ky × Nat)} {Ln : Nat -> List Ver × Int} {now known bd : Int} {S : Ky -> Int -> Int -> ByteArray} (h : Pst X Ln now known bd S) (hN : now <= 150) {k : Ky} {a b lo hi : Int} (h1 : known <= a) (h2 : a <= b) (h3 : b <= now) (hR : rightB lo hi = true) {out : List (Int × Int × ByteArray)} (ho : saidX X Ln k a b lo hi out) (x : ByteArray) :
  x ∈ out.map (fun p : Int × Int × ByteArray => p.2.2) ↔ x ≠ ByteArray.empty /\ ∃ c t, a <= c /\ c <= b /\ lo <= t /\ t < hi /\ S k c t = x := by
 obtain ⟨o, ho, hp⟩ := ho
 rw [(hp.map (fun p : Int × Int × ByteArray => p.2.2)).mem_iff]
 rcases ho with ⟨z, hz, rfl, rfl⟩ | ⟨hno, rfl⟩
 ·have ok := h.ok z hz
  have lv : ∀ v, v ∈ (metV (Ln z.2).1 lo hi).filter (liveB a b) ↔ v ∈ (Ln z.2).1 /\ max lo v.lo < min hi v.hi /\ v.s0 <= b /\ a < v.s1 := fun v => by
   rw [List.mem_filter, metV_iff hR]
   unfold liveB meetB
   rw [decide_eq_true_eq, decide_eq_true_eq]
   constructor
   ·rintro ⟨⟨q1, q2⟩, q3⟩
    exact ⟨q1, q2, q3.1, q3.2⟩
   ·rintro ⟨q1, q2, q3⟩
    exact ⟨⟨q1, q2⟩, q3.1, q3.2⟩
  unfold saidV
  rw [List.map_map]
  constructor
  ·intro hx
   obtain ⟨v, hv, rfl⟩ := List.mem_map.1 hx
   obtain ⟨v1, v2, v3, v4⟩ := (lv v).1 hv
   have hw := ok.when v v1
   have hlive : v.live (max v.s0 a) := ⟨by omega, by omega⟩
   have hhas : v.has (max lo v.lo) := ⟨by omega, by omega⟩
   have hval := (h.tells z hz (max v.s0 a) (by omega) (by omega) (max lo v.lo)).1 v v1 hlive hhas
   exact ⟨ok.val v v1, max v.s0 a, max lo v.lo, by omega, by omega, by omega, by omega, hval.symm⟩
  ·rintro ⟨hx, c, t, c1, c2, t1, t2, rfl⟩
   obtain ⟨k1, k2⟩ := h.tells z hz c (by omega) (by omega) t
   obtain ⟨v, hv, hl, hh⟩ := k2 hx
   refine List.mem_map.2 ⟨v, (lv v).2 ⟨hv, ?_, ?_, ?_⟩, k1 v hv hl hh⟩
   ·have p1 : v.lo <= t := hh.1
    have p2 : t < v.hi := hh.2
    omega
   ·have p1 : v.s0 <= c := hl.1
    omega
   ·have p1 : c < v.s1 := hl.2
    omega
 ·constructor
  ·intro hx; cases hx
  ·rintro ⟨hx, c, t, c1, c2, t1, t2, rfl⟩
   exact absurd (h.none k hno c (by omega) (by omega) t) hx
def everL (out : List (Int × Int × ByteArray)) : List (List UInt8) := Lib.compact (srt (strs (out.map (fun p : Int × Int × ByteArray => p.2.2))))
def EverSays (w : World) (f : Int -> Int -> ByteArray) (a b lo hi : Int) (e : Ending) (w' : World) : Prop :=
 ∃ v L, e = .returned (.tuple #[v, .nilIface]) /\ w'.ownsRow w.heap.size 9 1 v (List.length L) (List.map encStr L) /\ L.Pairwise (· < ·) /\ (∀ x, x ∈ L ↔ x ≠ [] /\ ∃ c t, a <= c /\ c <= b /\ lo <= t /\ t < hi /\ (f c t).data.toList = x) /\ Below w.heap.size w w'
theorem ever_all {X : List (Ky × Nat)} {Ln : Nat -> List Ver × Int} {now known bd : Int} {S : Ky -> Int -> Int -> ByteArray} (h : Pst X Ln now known bd S) (hN : now <= 150) {k : Ky} {a b lo hi : Int} (h1 : known <= a) (h2 : a <= b) (h3 : b <= now) (hR : rightB lo hi = true) {out : List (Int × Int × ByteArray)} (ho : saidX X Ln k a b lo hi out) :
  (everL out).Pairwise (· < ·) /\ ∀ x, x ∈ everL out ↔ x ≠ [] /\ ∃ c t, a <= c /\ c <= b /\ lo <= t /\ t < hi /\ (S k c t).data.toList = x := by
 have hs := srt_sorted (strs (out.map (fun p : Int × Int × ByteArray => p.2.2)))
 refine ⟨compact_rises _ hs, fun x => ?_⟩
 unfold everL
 rw [compact_mem]
 have hp := (List.mergeSort_perm (strs (out.map (fun p : Int × Int × ByteArray => p.2.2))) (fun x y => decide (x <= y))).mem_iff (a := x)
 unfold srt
 rw [hp]
 unfold strs
 rw [List.mem_map]
 constructor
 ·rintro ⟨y, hy, rfl⟩
  obtain ⟨q1, c, t, q2, q3, q4, q5, q6⟩ := (said_ever h hN h1 h2 h3 hR ho y).1 hy
  refine ⟨fun e => q1 ?_, c, t, q2, q3, q4, q5, by rw [q6]⟩
  obtain ⟨⟨d⟩⟩ := y
  have e' : d = [] := e
  subst e'
  rfl
 ·rintro ⟨q1, c, t, q2, q3, q4, q5, rfl⟩
  refine ⟨S k c t, (said_ever h hN h1 h2 h3 hR ho _).2 ⟨fun e => q1 ?_, c, t, q2, q3, q4, q5, rfl⟩, rfl⟩
  rw [e]
  rfl
def RowS (y : World) (base : Nat) (v : Value) (l : List ByteArray) : Prop := y.ownsRow base 9 1 v l.length (l.map Value.string)
theorem RowS.carry {w w' : World} {base : Nat} {v : Value} {l : List ByteArray} (h : RowS w base v l) (hb : Below w.heap.size w w') : RowS w' base v l := ownsRow_carry h hb
theorem ever_ok {w : World} {P : Pl} {now known bd : Int} {S : Ky -> Int -> Int -> ByteArray} {F : Nat -> Prop} (h : PastW w P now known bd S F) (hb1 : bd <= 4000) (hN : now <= 150) (k : Ky) (hk : KyOk k) (hkb : keyB k.kind k.a k.word k.b = true) (a b lo hi : Int) (h0 : 0 <= a) (h1 : known <= a) (h2 : a <= b) (h3 : b <= now) (hR : rightB lo hi = true) :
  Calls Tryz.prog 52 #[.pointer (some ⟨P.b, P.o, none⟩), .agg #[.int .i64 k.kind, .int .i64 k.a, .string k.word, .int .i64 k.b], .int .i64 a, .int .i64 b, .agg #[.int .i64 lo, .int .i64 hi]] w (EverSays w (S k) a b lo hi) := by
 have HB1 := zh (below_box w (.cells #[.int .i64 k.kind, .int .i64 k.a, .string k.word, .int .i64 k.b] 73))
 have HB2 := zh (below_box (w.alloc (.cells #[.int .i64 k.kind, .int .i64 k.a, .string k.word, .int .i64 k.b] 73)) (.cells #[.int .i64 lo, .int .i64 hi] 79))
 have HB := zh ((uh HB1).trans ((uh HB2).mono (uh HB1).size))
 have e1 : (w.alloc (.cells #[.int .i64 k.kind, .int .i64 k.a, .string k.word, .int .i64 k.b] 73)).heap.size = w.heap.size + 1 := by simp
 have HP := zh (h.below (uh HB))
 have HK := zh ((boxK_new w k).below (uh HB2))
 have HSp : Hid (((w.alloc (.cells #[.int .i64 k.kind, .int .i64 k.a, .string k.word, .int .i64 k.b] 73)).alloc (.cells #[.int .i64 lo, .int .i64 hi] 79)).cell? ⟨w.heap.size + 1, 0, none⟩ = some (.int .i64 lo) /\ ((w.alloc (.cells #[.int .i64 k.kind, .int .i64 k.a, .string k.word, .int .i64 k.b] 73)).alloc (.cells #[.int .i64 lo, .int .i64 hi] 79)).cell? ⟨w.heap.size + 1, 1, none⟩ = some (.int .i64 hi)) := by
  unfold Hid
  rw [<- e1]
  exact ⟨by simp, by simp⟩
 have hce : ∀ c, known <= c -> 0 <= c -> c <= now -> errV (countErr now known c) = .nilIface := fun c q0 q1 q2 => by
  have : countErr now known c = 0 := by unfold countErr; rw [if_neg (by omega), if_neg (by omega)]
  rw [this]; rfl
 have HC : Hid (∀ W c, known <= c -> 0 <= c -> c <= now -> PastW W P now known bd S F -> Calls Tryz.prog 96 #[.pointer (some ⟨P.b, P.o, none⟩), .int .i64 c] W fun e w' => e = .returned .nilIface /\ w' = W) := fun W c q0 q1 q2 hW => by
  obtain ⟨mv, X, Ln, Fs, p, _⟩ := hW
  rw [<- hce c q0 q1 q2]
  exact past_count p.c0 p.c1 c
 have HKy := zh (fun W => fact_Key k.kind k.a k.word k.b W hk.word)
 rw [hkb] at HKy
 have HRt := zh (fun W => span_Right lo hi W)
 rw [hR] at HRt
 have HRr := zh hR
 have hba : ¬ b < a := by omega
 clear h hce hkb e1 HB1 HB2 hR
 go_enter Tryz.func52, Tryz.ntmps52
 go_wp2
 generalize ((w.alloc (.cells #[.int .i64 k.kind, .int .i64 k.a, .string k.word, .int .i64 k.b] 73)).alloc (.cells #[.int .i64 lo, .int .i64 hi] 79)) = W0 at *
 go_loopw [21] (fun i y => ∃ j : Nat, j <= 2 /\ i = .int .i64 j /\ y = W0) (fun i _ => 2 - (intOf i).toNat)
 case atStart => exact ⟨0, by omega, rfl, rfl⟩
 case round =>
  obtain ⟨j, hj, rfl, rfl⟩ := hrel
  rcases (show j = 0 \/ j = 1 \/ j = 2 by omega) with rfl | rfl | rfl
  ·have hi0 := two_first
   go_wp2_with fail
   refine (uh HC _ _ (by omega) (by omega) (by omega) (uh HP)).mono ?_
   rintro e W1 ⟨rfl, rfl⟩
   go_wp2
   go_roundw
   case rel => exact ⟨0 + 1, by omega, by go_num, trivial⟩
   case measure => simp [intOf]
  ·have hi0 := two_second
   go_wp2_with fail
   refine (uh HC _ _ (by omega) (by omega) (by omega) (uh HP)).mono ?_
   rintro e W1 ⟨rfl, rfl⟩
   go_wp2
   go_roundw
   case rel => exact ⟨1 + 1, by omega, by go_num, trivial⟩
   case measure => simp [intOf]
  ·have k0 := (uh HK).c0
   have k1 := (uh HK).c1
   have k2 := (uh HK).c2
   have k3 := (uh HK).c3
   go_wp2_with fail
   refine (uh HKy _).mono ?_
   rintro e W2 ⟨rfl, hW2⟩
   have b2 : Below wr.heap.size wr W2 := by rw [hW2]; exact below_box _ _
   have HB2 := zh ((uh HB).trans (b2.mono (uh HB).size))
   have HP2 := zh ((uh HP).below b2)
   have HK2 := zh ((uh HK).below b2)
   have s0 := (b2.cell (p := ⟨w.heap.size + 1, 0, none⟩) (lt_of_cell (uh HSp).1)).trans (uh HSp).1
   have s1 := (b2.cell (p := ⟨w.heap.size + 1, 1, none⟩) (lt_of_cell (uh HSp).2)).trans (uh HSp).2
   clear hW2 b2 HB HP HK HSp HC HKy k0 k1 k2 k3
   go_wp2_with fail
   refine (uh HRt _).mono ?_
   rintro e W3 ⟨rfl, hW3⟩
   have b3 : Below W2.heap.size W2 W3 := by rw [hW3]; exact below_box _ _
   have HB3 := zh ((uh HB2).trans (b3.mono (uh HB2).size))
   have HK3 := zh ((uh HK2).below b3)
   have s0' := (b3.cell (p := ⟨w.heap.size + 1, 0, none⟩) (lt_of_cell s0)).trans s0
   have s1' := (b3.cell (p := ⟨w.heap.size + 1, 1, none⟩) (lt_of_cell s1)).trans s1
   obtain ⟨mv, X, Ln, Fs, pX, pS, _, _⟩ := (uh HP2).below b3
   have HPS := zh pS
   have HSd := zh (past_said pX pS hb1 k hk a b lo hi)
   clear hW3 b3 HB2 HP2 HK2 HRt s0 s1 pX pS
   have k0 := (uh HK3).c0
   have k1 := (uh HK3).c1
   have k2 := (uh HK3).c2
   have k3 := (uh HK3).c3
   go_wp2_with fail
   refine (uh HSd).mono ?_
   rintro e W4 ⟨out, hx, v, rfl, ho, b4⟩
   have hout := said_short (uh HPS) hx hb1
   have HE := zh (ever_all (uh HPS) hN h1 h2 h3 (uh HRr) hx)
   have HB4 := zh ((uh HB3).trans (b4.mono (uh HB3).size))
   obtain ⟨g, ad, cp, rfl, hf⟩ := own_pieces ho
   have HF := zh (fun j hj => (⟨(hf j hj).1, (hf j hj).2.2.1, (hf j hj).2.2.2.1, (hf j hj).2.2.2.2⟩ : ad = some ⟨g, 0, none⟩ /\ W4.cell? ⟨g, j * 3, none⟩ = some (.int .i64 out[j].1) /\ W4.cell? ⟨g, j * 3 + 1, none⟩ = some (.int .i64 out[j].2.1) /\ W4.cell? ⟨g, j * 3 + 2, none⟩ = some (.string out[j].2.2)))
   clear hx ho b4 hf HPS HSd HRr HB3 HK3 k0 k1 k2 k3 s0' s1' hba
   go_wp2
   go_loopw [15, 51] (fun o i y => ∃ j : Nat, j <= out.length /\ i = .int .i64 j /\ RowS y W4.heap.size o ((out.take j).map (fun p : Int × Int × ByteArray => p.2.2)) /\ Below W4.heap.size W4 y) (fun _ i _ => out.length - (intOf i).toNat)
   case atStart => exact ⟨0, Nat.zero_le _, rfl, World.ownsRow_nil _ _ _ _, Below.refl _ _⟩
   case round =>
    obtain ⟨j, hj, rfl, hown, hb⟩ := hrel
    have HO := zh hown
    have HBr := zh hb
    clear hown hb
    by_cases hlt : j < out.length
    ·have hlt' : (j : Int) < (out.length : Int) := by omega
     have hj0 : (0 : Int) <= (j : Int) := by omega
     obtain ⟨hag, q0, q1, q2⟩ := uh HF j hlt
     subst hag
     have z0 := ((uh HBr).cell (p := ⟨g, j * 3, none⟩) (lt_of_cell q0)).trans q0
     have z1 := ((uh HBr).cell (p := ⟨g, j * 3 + 1, none⟩) (lt_of_cell q1)).trans q1
     have z2 := ((uh HBr).cell (p := ⟨g, j * 3 + 2, none⟩) (lt_of_cell q2)).trans q2
     have HTk : Hid ((out.take (j + 1)).map (fun p : Int × Int × ByteArray => p.2.2) = (out.take j).map (fun p : Int × Int × ByteArray => p.2.2) ++ [out[j].2.2]) := by
      unfold Hid
      rw [List.take_succ_eq_append_getElem hlt, List.map_append]
      rfl
     have hLl : ((out.take j).map (fun p : Int × Int × ByteArray => p.2.2)).length <= 4000 := by
      rw [List.length_map, List.length_take]
      omega
     clear q0 q1 q2
     obtain ⟨x, hx⟩ : ∃ x, x = out[j] := ⟨_, rfl⟩
     rw [<- hx] at z0 z1 z2 HTk
     clear hx
     obtain ⟨x0, x1, x2⟩ := x
     dsimp only at z0 z1 z2 HTk
     generalize (out.take j).map (fun p : Int × Int × ByteArray => p.2.2) = L at *
     have hWr : W4.heap.size <= wr.heap.size := (uh HBr).size
     have HB5 := zh (below_box wr (.cells #[.int .i64 x0, .int .i64 x1, .string x2] 107))
     have HB6 := zh (below_box (wr.alloc (.cells #[.int .i64 x0, .int .i64 x1, .string x2] 107)) (.cells #[.string x2] 9))
     have HO6 := zh (((uh HO).carry (uh HB5)).carry (uh HB6))
     have HBx := zh (((uh HBr).trans ((uh HB5).mono hWr)).trans ((uh HB6).mono (Nat.le_trans hWr (uh HB5).size)))
     have HOl := zh (World.ownsRow.lt (uh HO))
     clear HO HBr HB5 HB6
     go_wp2_with (first
      | (at_builtin; refine wpList_appS _ rfl (.tmp 55) (.tmp 58) rfl W4.heap.size _ L rfl (uh HO6) (wr.heap.size + 1) x2 rfl ?d0 ?d1 ?d2 ?_))
     case d1 => omega
     case d2 => have := (uh HBx).size; omega
     intro v2 w2 p1 p2
     have HP1 : Hid (RowS w2 W4.heap.size v2 ((out.take (j + 1)).map (fun p : Int × Int × ByteArray => p.2.2))) := by
      unfold Hid
      rw [uh HTk]
      unfold RowS
      rw [List.length_append, List.map_append]
      exact p1
     have HP2 : Hid (Below W4.heap.size W4 w2) := (uh HBx).grown p2 (by simp; omega) (fun i hi => (uh HOl i hi).1)
     clear p1 p2 HO6 HBx HTk
     obtain ⟨ad2, n2, cap2, rfl⟩ : ∃ ad n cap, v2 = .slice ad n cap := by
      obtain ⟨ad, cap, e⟩ := row_slice (show World.ownsRow _ _ _ _ _ _ _ from uh HP1)
      exact ⟨ad, _, cap, e⟩
     go_wp2
     go_roundw
     case rel => exact ⟨j + 1, by omega, by go_num, uh HP1, uh HP2⟩
     case measure => simp [intOf]; omega
    ·have hlt' : ¬ (j : Int) < (out.length : Int) := by omega
     obtain rfl : j = out.length := by omega
     have hO : RowS wr W4.heap.size u15 (out.map (fun p : Int × Int × ByteArray => p.2.2)) := by
      have := uh HO
      rw [List.take_length] at this
      exact this
     have HSo := zh (sort_strs (out.map (fun p : Int × Int × ByteArray => p.2.2)) u15 wr W4.heap.size (by rw [List.length_map]; omega) hO)
     have HOl := zh hO.lt
     clear hO HO
     go_wp2_with fail
     refine (uh HSo).mono ?_
     rintro e W5 ⟨rfl, o5, g5⟩
     have HB5 : Hid (Below W4.heap.size W4 W5) := (uh HBr).grown g5 (uh HBr).size (fun i hi => (uh HOl i hi).1)
     have hsl : (srt (strs (out.map (fun p : Int × Int × ByteArray => p.2.2)))).length < 1099511627776 := by rw [srt_length, strs_length, List.length_map]; omega
     have HCo := zh (compact_strs _ _ W5 W4.heap.size hsl o5)
     have HOl5 := zh o5.lt
     clear hsl g5 o5 HSo HBr
     go_wp2_with fail
     refine (uh HCo).mono ?_
     rintro e W6 ⟨v6, rfl, o6, g6⟩
     have HB6 : Hid (Below W4.heap.size W4 W6) := (uh HB5).grown g6 (uh HB5).size (fun i hi => (uh HOl5 i hi).1)
     have HR : Hid (EverSays w (S k) a b lo hi (.returned (.tuple #[v6, .nilIface])) W6) := ⟨v6, everL out, rfl, ownsRow_rebase o6 (uh HB4).size, (uh HE).1, (uh HE).2, (uh HB4).trans ((uh HB6).mono (uh HB4).size)⟩
     clear o6 g6 HCo HB5 HB4 HB6 HE HOl HOl5
     go_wp2
     go_ret2
     exact uh HR
theorem empty_is : emptyB ⟨#[]⟩ = true := by
 unfold emptyB
 rw [ByteArray.toList_eq]
 rfl
theorem past_Now {w : World} {P : Pl} {now : Int} (c0 : w.cell? ⟨P.b, P.o, none⟩ = some (.int .i64 now)) :
  Calls Tryz.prog 43 #[.pointer (some ⟨P.b, P.o, none⟩)] w fun e w' => e = .returned (.int .i64 now) /\ w' = w := by
 go_enter Tryz.func43, Tryz.ntmps43
 go_wp2
 go_ret
 exact ⟨rfl, rfl⟩
theorem past_Known {w : World} {P : Pl} {known : Int} (c1 : w.cell? ⟨P.b, P.o + 1, none⟩ = some (.int .i64 known)) :
  Calls Tryz.prog 65 #[.pointer (some ⟨P.b, P.o, none⟩)] w fun e w' => e = .returned (.int .i64 known) /\ w' = w := by
 go_enter Tryz.func65, Tryz.ntmps65
 go_wp2
 go_ret
 exact ⟨rfl, rfl⟩
end Go.Proofs.YtbmkmfoaoganeaaGreatDoor

namespace Go.Proofs.YtbmkmfoaoganeaaGreatDoor
theorem canon_tail {x : Int × Int × ByteArray} {l : List (Int × Int × ByteArray)} (h : Canon (x :: l)) : Canon l := by
 obtain ⟨h1, h2, h3⟩ := h
 refine ⟨fun p hp => h1 p (by simp [hp]), (List.pairwise_cons.1 h2).2, fun i hi => ?_⟩
 have := h3 (i + 1) (by simp; omega)
 simpa using this
theorem canon_head {x : Int × Int × ByteArray} {l : List (Int × Int × ByteArray)} (h : Canon (x :: l)) : x.1 < x.2.1 /\ x.2.2 ≠ ByteArray.empty /\ (∀ z, z ∈ l -> x.2.1 <= z.1 /\ z.1 < z.2.1) /\ ∀ z, z ∈ l -> ¬ (x.2.1 = z.1 /\ x.2.2 = z.2.2) := by
 obtain ⟨h1, h2, h3⟩ := h
 have q0 := h1 x (by simp)
 have q1 := (List.pairwise_cons.1 h2).1
 have hz : ∀ z, z ∈ l -> x.2.1 <= z.1 /\ z.1 < z.2.1 := fun z hz => ⟨q1 z hz, right_ltM (h1 z (by simp [hz])).1⟩
 refine ⟨right_ltM q0.1, q0.2, hz, fun z hzm e => ?_⟩
 cases l with
 | nil => cases hzm
 | cons y m =>
  have q3 := h3 0 (by simp)
  rcases List.mem_cons.1 hzm with rfl | hm
  ·exact q3 (by simpa using e)
  ·have q4 := (List.pairwise_cons.1 (List.pairwise_cons.1 h2).2).1 z hm
   have q5 := hz y (by simp)
   omega
theorem canon_one : ∀ (p q : List (Int × Int × ByteArray)), Canon p -> Canon q -> (∀ t v, Cov p t v ↔ Cov q t v) -> p = q
 | [], [], _, _, _ => rfl
 | [], y :: q, _, hq, h => by
  obtain ⟨z, hz, _⟩ := (h y.1 y.2.2).2 ⟨y, by simp, Int.le_refl _, (canon_head hq).1, rfl⟩
  cases hz
 | x :: p, [], hp, _, h => by
  obtain ⟨z, hz, _⟩ := (h x.1 x.2.2).1 ⟨x, by simp, Int.le_refl _, (canon_head hp).1, rfl⟩
  cases hz
 | x :: p, y :: q, hp, hq, h => by
  obtain ⟨x1, x2, x3, x4⟩ := canon_head hp
  obtain ⟨y1, y2, y3, y4⟩ := canon_head hq
  obtain ⟨z, hz, za, zb, zc⟩ := (h x.1 x.2.2).1 ⟨x, by simp, Int.le_refl _, x1, rfl⟩
  obtain ⟨u, hu, ua, ub, uc⟩ := (h y.1 y.2.2).2 ⟨y, by simp, Int.le_refl _, y1, rfl⟩
  have e1 : y.1 <= x.1 := by
   rcases List.mem_cons.1 hz with rfl | hm
   ·exact za
   ·have := y3 z hm; omega
  have e2 : x.1 <= y.1 := by
   rcases List.mem_cons.1 hu with rfl | hm
   ·exact ua
   ·have := x3 u hm; omega
  have e3 : x.1 = y.1 := by omega
  have e4 : y.2.2 = x.2.2 := by
   rcases List.mem_cons.1 hz with rfl | hm
   ·exact zc
   ·have := y3 z hm; omega
  have e5 : ¬ x.2.1 < y.2.1 := fun lt => by
   obtain ⟨z, hz, za, zb, zc⟩ := (h x.2.1 y.2.2).2 ⟨y, by simp, by omega, lt, rfl⟩
   rcases List.mem_cons.1 hz with rfl | hm
   ·omega
   ·have := x3 z hm
    exact x4 z hm ⟨by omega, by rw [zc, e4]⟩
  have e6 : ¬ y.2.1 < x.2.1 := fun lt => by
   obtain ⟨z, hz, za, zb, zc⟩ := (h y.2.1 x.2.2).1 ⟨x, by simp, by omega, lt, rfl⟩
   rcases List.mem_cons.1 hz with rfl | hm
   ·omega
   ·have := y3 z hm
    exact y4 z hm ⟨by omega, by rw [zc, e4]⟩
  have e7 : x.2.1 = y.2.1 := by omega
  have e : x = y := Prod.ext e3 (Prod.ext e7 e4.symm)
  subst e
  rw [canon_one p q (canon_tail hp) (canon_tail hq) (fun t v => ?_)]
  constructor
  ·rintro ⟨c, hc, ca, cb, cc⟩
   obtain ⟨d, hd, da, db, dc⟩ := (h t v).1 ⟨c, by simp [hc], ca, cb, cc⟩
   rcases List.mem_cons.1 hd with rfl | hm
   ·have := x3 c hc; omega
   ·exact ⟨d, hm, da, db, dc⟩
  ·rintro ⟨c, hc, ca, cb, cc⟩
   obtain ⟨d, hd, da, db, dc⟩ := (h t v).2 ⟨c, by simp [hc], ca, cb, cc⟩
   rcases List.mem_cons.1 hd with rfl | hm
   ·have := y3 c hc; omega
   ·exact ⟨d, hm, da, db, dc⟩
theorem covers_cov {p : List (Int × Int × ByteArray)} {f : Int -> ByteArray} (hp : Canon p) (h : Covers p f) (t : Int) (v : ByteArray) : Cov p t v ↔ v = f t /\ f t ≠ ByteArray.empty := by
 constructor
 ·rintro ⟨z, hz, za, zb, zc⟩
  have := (h t).1 z hz za zb
  refine ⟨by rw [<- zc, this], ?_⟩
  rw [<- this]
  exact (hp.1 z hz).2
 ·rintro ⟨rfl, hn⟩
  obtain ⟨z, hz, za, zb⟩ := (h t).2 hn
  exact ⟨z, hz, za, zb, (h t).1 z hz za zb⟩
theorem pieces_one {p q : List (Int × Int × ByteArray)} {f : Int -> ByteArray} (hp : Canon p) (hq : Canon q) (h : Covers p f) (k : Covers q f) : p = q :=
 canon_one p q hp hq (fun t v => (covers_cov hp h t v).trans (covers_cov hq k t v).symm)
end Go.Proofs.YtbmkmfoaoganeaaGreatDoor

namespace Go.Proofs.YtbmkmfoaoganeaaGreatDoor
open Go.RowKit Go.Maps
theorem keeps_below {F : Nat -> Prop} {n : Nat} {w w' : World} (hk : Keeps F w w') (hF : ∀ i, F i -> n <= i) (hn : n <= w.heap.size) : Below n w w' :=
 ⟨hk.os, hk.tape, hk.output, hk.size, fun k h => hk.block k (by omega) (fun q => by have := hF k q; omega)⟩
def kA : Ky := ⟨1, 3, ⟨#[]⟩, 0⟩
structure SayN where
 key : Int
 from_ : Int
 many : Int
 value : Int
 last : Int
def cells7 (o : Fop) : List Value := [.int .i64 o.kind, .int .i64 o.a, .string o.word, .int .i64 o.b, .int .i64 o.lo, .int .i64 o.hi, .string o.value]
def cellsO (L : List Fop) : List Value := L.flatMap cells7
theorem cellsO_at : ∀ (L : List Fop) (k : Nat) (hk : k < L.length) (j : Nat), j < 7 -> (cellsO L)[k * 7 + j]? = (cells7 L[k])[j]?
 | o :: L, 0, hk, j, hj => by
   show (cells7 o ++ cellsO L)[0 * 7 + j]? = _
   rw [List.getElem?_append_left (by simpa [cells7] using hj)]
   simp
 | o :: L, k + 1, hk, j, hj => by
   show (cells7 o ++ cellsO L)[(k + 1) * 7 + j]? = _
   have e : (cells7 o).length = 7 := rfl
   rw [List.getElem?_append_right (by omega), show (k + 1) * 7 + j - (cells7 o).length = k * 7 + j by omega, cellsO_at L k (by simpa using hk) j hj]
   simp
def RowO (y : World) (base : Nat) (v : Value) (l : List Fop) : Prop := y.ownsRow base 188 7 v l.length (cellsO l)
theorem RowO.at {w : World} {base : Nat} {v : Value} {L : List Fop} (h : RowO w base v L) (hL : L ≠ []) : ∃ g cap, v = .slice (some ⟨g, 0, none⟩) L.length cap /\ OpsAt w g 0 L /\ base <= g := by
 obtain ⟨_, h2⟩ := h
 rcases h2 with ⟨hv, h2⟩ | ⟨g, cap, cur, hv, hg, hh, h3, h4, h5, h6⟩
 ·exact absurd (List.eq_nil_of_length_eq_zero h2) hL
 ·refine ⟨g, cap, hv, ⟨?_, fun k hk => ?_⟩, hg⟩
  ·rcases Nat.lt_or_ge g w.heap.size with k | k
   ·exact k
   ·rw [Array.getElem?_eq_none k] at hh; cases hh
  ·have key : ∀ j, j < 7 -> w.cell? ⟨g, 0 + k * 7 + j, none⟩ = (cells7 L[k])[j]? := fun j hj => by
    rw [<- cellsO_at L k hk j hj, <- h6, List.getElem?_take_of_lt (by omega)]
    unfold World.cell?
    simp only [hh, Nat.zero_add]
    rw [<- Array.getElem?_toList]
    rfl
   exact ⟨key 0 (by omega), key 1 (by omega), key 2 (by omega), key 3 (by omega), key 4 (by omega), key 5 (by omega), key 6 (by omega)⟩
end Go.Proofs.YtbmkmfoaoganeaaGreatDoor
