/- Texts of one proof, one behind the other. -/
import Derived.Test.YtfoojmflbifkpaaGreatDoorFo
import Derived.Test.YtfoojmflbifkpaaGreatDoorEh
import Derived.Test.YtfoojmflbifkpaaGreatDoorEw
import Derived.Test.YtfoojmflbifkpaaGreatDoorEi
import Derived.Deep.RegionHeld3
set_option maxRecDepth 100000
set_option maxHeartbeats 16000000
namespace Go.Proofs.YtfoojmflbifkpaaGreatDoor
open Go.RowKit Go.Maps
section
variable {w : World} {P : Pl} {R : Nat} {txs : List (List Fop)} {known : Int} {F G : Nat -> Prop}
def valV (txs : List (List Fop)) (k : Ky) (at_ t n : Int) : ByteArray := if n = 0 then refS txs k at_.toNat t else ⟨#[]⟩
theorem ref_value (h : TwoP w P R txs known F G) (k : Ky) (hk : KyOk k) (at_ t : Int) :
  Calls Tryz.prog 48 #[.pointer (some ⟨R, 0, none⟩), keyA k, .int .i64 at_, .int .i64 t] w fun r w' => r = .returned (.tuple #[.string (valV txs k at_ t (valE txs.length known k at_ t)), .int .i64 (valE txs.length known k at_ t)]) /\ Below w.heap.size w w' := by
 unfold valE valV
 by_cases hc : countErr txs.length known at_ = 0
 ·rw [if_pos hc]
  obtain ⟨h0, h1, h2⟩ := count_zero hc
  cases hkb : keyB k.kind k.a k.word k.b with
  | false => exact rp_value_key h.q.refP k hk hkb at_ t hc
  | true =>
   cases ht : timedB t with
   | false => exact rp_value_time h.q.refP k hk hkb at_ t hc ht
   | true => exact rp_value_ok h.q.refP k hk hkb at_.toNat at_ t (by omega) (by omega) hc ht
 ·rw [if_neg hc, if_neg hc]
  exact rp_value_count h.q.refP k at_ t _ rfl hc
theorem past_value (h : TwoP w P R txs known F G) (k : Ky) (hk : KyOk k) (at_ t : Int) (t0 : -9223372036854775808 <= t) (t1 : t <= 9223372036854775807) :
  Calls Tryz.prog 49 #[.pointer (some ⟨P.b, P.o, none⟩), keyA k, .int .i64 at_, .int .i64 t] w fun r w' => r = .returned (.tuple #[.string (valV txs k at_ t (valE txs.length known k at_ t)), errV (valE txs.length known k at_ t)]) /\ Below w.heap.size w w' := by
 unfold valE valV
 by_cases hc : countErr txs.length known at_ = 0
 ·rw [if_pos hc]
  obtain ⟨h0, h1, h2⟩ := count_zero hc
  cases hkb : keyB k.kind k.a k.word k.b with
  | false => exact value_key h.p k hk hkb at_ t h0 h1 h2
  | true =>
   cases ht : timedB t with
   | false => exact value_time h.p k hk hkb at_ t h0 h1 h2 (moment_bad t0 t1 (of_decide_eq_false ht))
   | true =>
    have ht' := of_decide_eq_true ht
    exact value_ok h.p h.bd k hk hkb at_ t h0 h1 h2 ht'.1 ht'.2
 ·rw [if_neg hc, if_neg hc, errV_some hc]
  exact value_count h.p k at_ t _ rfl hc
def PieSay (txs : List (List Fop)) (k : Ky) (at_ n : Int) (ps : List (Int × Int × ByteArray)) : Prop := Canon ps /\ Covers ps (fun t => if n = 0 then refS txs k at_.toNat t else ByteArray.empty)
theorem pie_none (txs : List (List Fop)) (k : Ky) (at_ n : Int) (h : n ≠ 0) : PieSay txs k at_ n [] := ⟨canon_nil, fun t => ⟨fun p hp => (by cases hp), fun q => absurd (if_neg h) q⟩⟩
theorem ref_pieces (h : TwoP w P R txs known F G) (k : Ky) (hk : KyOk k) (at_ : Int) :
  Calls Tryz.prog 50 #[.pointer (some ⟨R, 0, none⟩), keyA k, .int .i64 at_] w fun r w' => ∃ u ps, r = .returned (.tuple #[u, .int .i64 (pieE txs.length known k at_)]) /\ RowP w' w.heap.size u ps /\ PieSay txs k at_ (pieE txs.length known k at_) ps /\ Below w.heap.size w w' := by
 unfold pieE
 by_cases hc : countErr txs.length known at_ = 0
 ·rw [if_pos hc]
  obtain ⟨h0, h1, h2⟩ := count_zero hc
  cases hkb : keyB k.kind k.a k.word k.b with
  | false => exact (rp_pieces_key h.q.refP k hk hkb at_ hc).mono fun _ _ ⟨q1, q2⟩ => ⟨_, [], q1, World.ownsRow_nil _ _ _ _, pie_none _ _ _ _ (by decide), q2⟩
  | true =>
   obtain ⟨c, rfl⟩ : ∃ c : Nat, at_ = (c : Int) := ⟨at_.toNat, by omega⟩
   refine (rp_pieces_ok h.q.refP k hk hkb c (by omega) hc (Nat.le_trans (endsK_length h.ok h.q.most k) (by decide))).mono ?_
   rintro r w' ⟨u, rfl, hr, hb⟩
   exact ⟨u, _, rfl, hr, pieces_canon h.ok k c, hb⟩
 ·rw [if_neg hc]
  exact (rp_pieces_count h.q.refP k at_ _ rfl hc).mono fun _ _ ⟨q1, q2⟩ => ⟨_, [], q1, World.ownsRow_nil _ _ _ _, pie_none _ _ _ _ hc, q2⟩
theorem past_pieces (h : TwoP w P R txs known F G) (k : Ky) (hk : KyOk k) (at_ : Int) :
  Calls Tryz.prog 51 #[.pointer (some ⟨P.b, P.o, none⟩), keyA k, .int .i64 at_] w fun r w' => ∃ u ps, r = .returned (.tuple #[u, errV (pieE txs.length known k at_)]) /\ RowP w' w.heap.size u ps /\ PieSay txs k at_ (pieE txs.length known k at_) ps /\ Below w.heap.size w w' := by
 unfold pieE
 by_cases hc : countErr txs.length known at_ = 0
 ·rw [if_pos hc]
  obtain ⟨h0, h1, h2⟩ := count_zero hc
  cases hkb : keyB k.kind k.a k.word k.b with
  | false => exact (pieces_key h.p k hk hkb at_ h0 h1 h2).mono fun _ _ ⟨q1, q2⟩ => ⟨_, [], q1, World.ownsRow_nil _ _ _ _, pie_none _ _ _ _ (by decide), q2⟩
  | true =>
   refine (pieces_ok h.p h.bd k hk hkb at_ h0 h1 h2).mono ?_
   rintro r w' ⟨u, ps, rfl, hr, hc1, hc2, hb⟩
   exact ⟨u, ps, rfl, hr, ⟨hc1, hc2⟩, hb⟩
 ·rw [if_neg hc, errV_some hc]
  exact (pieces_bad h.p k at_ _ rfl hc).mono fun _ _ ⟨q1, q2⟩ => ⟨_, [], q1, World.ownsRow_nil _ _ _ _, pie_none _ _ _ _ hc, q2⟩
theorem pie_one {k : Ky} {at_ n : Int} {ps qs : List (Int × Int × ByteArray)} (h : PieSay txs k at_ n ps) (h' : PieSay txs k at_ n qs) : ps = qs := pieces_one h.1 h'.1 h.2 h'.2
def EverL (txs : List (List Fop)) (k : Ky) (a b lo hi n : Int) (L : List (List UInt8)) : Prop := L.Pairwise (· < ·) /\ ∀ x, x ∈ L ↔ n = 0 /\ x ≠ [] /\ ∃ c t : Int, a <= c /\ c <= b /\ lo <= t /\ t < hi /\ (refS txs k c.toNat t).data.toList = x
theorem ever_none (txs : List (List Fop)) (k : Ky) (a b lo hi n : Int) (h : n ≠ 0) : EverL txs k a b lo hi n [] := ⟨List.Pairwise.nil, fun x => ⟨fun q => (by cases q), fun q => absurd q.1 h⟩⟩
theorem ever_one {k : Ky} {a b lo hi n : Int} {L M : List (List UInt8)} (h : EverL txs k a b lo hi n L) (h' : EverL txs k a b lo hi n M) : L = M := rises_one lt_irr lt_asym L M h.1 h'.1 (fun x => by rw [h.2, h'.2])
def RowT (y : World) (base : Nat) (v : Value) (L : List (List UInt8)) : Prop := y.ownsRow base 9 1 v L.length (L.map encStr)
theorem ref_ever (h : TwoP w P R txs known F G) (k : Ky) (hk : KyOk k) (a b lo hi : Int) :
  Calls Tryz.prog 53 #[.pointer (some ⟨R, 0, none⟩), keyA k, .int .i64 a, .int .i64 b, .agg #[.int .i64 lo, .int .i64 hi]] w fun r w' => ∃ u L, r = .returned (.tuple #[u, .int .i64 (everE txs.length known k a b lo hi)]) /\ RowT w' w.heap.size u L /\ EverL txs k a b lo hi (everE txs.length known k a b lo hi) L /\ Below w.heap.size w w' := by
 unfold everE
 by_cases ha : countErr txs.length known a = 0
 ·rw [if_pos ha]
  by_cases hb : countErr txs.length known b = 0
  ·rw [if_pos hb]
   by_cases ho : b < a
   ·rw [if_pos ho]
    exact (rp_ever_order h.q.refP k a b lo hi ha hb ho).mono fun _ _ ⟨q1, q2⟩ => ⟨_, [], q1, World.ownsRow_nil _ _ _ _, ever_none _ _ _ _ _ _ _ (by simp), q2⟩
   ·rw [if_neg ho]
    cases hkb : keyB k.kind k.a k.word k.b with
    | false => exact (rp_ever_key h.q.refP k a b lo hi hk hkb ha hb ho).mono fun _ _ ⟨q1, q2⟩ => ⟨_, [], q1, World.ownsRow_nil _ _ _ _, ever_none _ _ _ _ _ _ _ (by simp), q2⟩
    | true =>
     cases hr : rightB lo hi with
     | false => exact (rp_ever_span h.q.refP k a b lo hi hk hkb ha hb ho hr).mono fun _ _ ⟨q1, q2⟩ => ⟨_, [], q1, World.ownsRow_nil _ _ _ _, ever_none _ _ _ _ _ _ _ (by simp), q2⟩
     | true =>
      obtain ⟨a0, a1, a2⟩ := count_zero ha
      obtain ⟨b0, b1, b2⟩ := count_zero hb
      have hca : a = ((a.toNat : Nat) : Int) := by omega
      have hcb : b = ((b.toNat : Nat) : Int) := by omega
      refine (rp_ever_ok h.q.refP k hk hkb a.toNat b.toNat a b lo hi hca hcb ho (by omega) ha hb hr (endsK_length h.ok h.q.most k) (fun c t => Nat.le_trans (refS_size h.ok k c t) (by unfold maxLen; decide))).mono ?_
      rintro r w' ⟨u, L, rfl, hrow, hp, hm, hbl⟩
      refine ⟨u, L, rfl, hrow, ⟨hp, fun x => ?_⟩, hbl⟩
      rw [hm x, vis_all, <- hca, <- hcb]
      simp
  ·rw [if_neg hb]
   exact (rp_ever_to h.q.refP k a b lo hi ha _ rfl hb).mono fun _ _ ⟨q1, q2⟩ => ⟨_, [], q1, World.ownsRow_nil _ _ _ _, ever_none _ _ _ _ _ _ _ hb, q2⟩
 ·rw [if_neg ha]
  exact (rp_ever_from h.q.refP k a b lo hi _ rfl ha).mono fun _ _ ⟨q1, q2⟩ => ⟨_, [], q1, World.ownsRow_nil _ _ _ _, ever_none _ _ _ _ _ _ _ ha, q2⟩
theorem past_ever (h : TwoP w P R txs known F G) (k : Ky) (hk : KyOk k) (a b lo hi : Int) :
  Calls Tryz.prog 54 #[.pointer (some ⟨P.b, P.o, none⟩), keyA k, .int .i64 a, .int .i64 b, .agg #[.int .i64 lo, .int .i64 hi]] w fun r w' => ∃ u L, r = .returned (.tuple #[u, errV (everE txs.length known k a b lo hi)]) /\ RowT w' w.heap.size u L /\ EverL txs k a b lo hi (everE txs.length known k a b lo hi) L /\ Below w.heap.size w w' := by
 unfold everE
 by_cases ha : countErr txs.length known a = 0
 ·rw [if_pos ha]
  by_cases hb : countErr txs.length known b = 0
  ·rw [if_pos hb]
   by_cases ho : b < a
   ·rw [if_pos ho]
    exact (ever_order h.p k a b lo hi (nil_err ha) (nil_err hb) ho).mono fun _ _ ⟨q1, q2⟩ => ⟨_, [], q1, World.ownsRow_nil _ _ _ _, ever_none _ _ _ _ _ _ _ (by simp), q2⟩
   ·rw [if_neg ho]
    cases hkb : keyB k.kind k.a k.word k.b with
    | false => exact (ever_key h.p k hk hkb a b lo hi (nil_err ha) (nil_err hb) ho).mono fun _ _ ⟨q1, q2⟩ => ⟨_, [], q1, World.ownsRow_nil _ _ _ _, ever_none _ _ _ _ _ _ _ (by simp), q2⟩
    | true =>
     cases hr : rightB lo hi with
     | false => exact (ever_span h.p k hk hkb a b lo hi (nil_err ha) (nil_err hb) ho hr).mono fun _ _ ⟨q1, q2⟩ => ⟨_, [], q1, World.ownsRow_nil _ _ _ _, ever_none _ _ _ _ _ _ _ (by simp), q2⟩
     | true =>
      obtain ⟨a0, a1, a2⟩ := count_zero ha
      obtain ⟨b0, b1, b2⟩ := count_zero hb
      refine (ever_ok h.p h.bd (by have := h.q.most; omega) k hk hkb a b lo hi a0 a1 (by omega) b2 hr).mono ?_
      rintro r w' ⟨u, L, rfl, hrow, hp, hm, hbl⟩
      refine ⟨u, L, rfl, hrow, ⟨hp, fun x => ?_⟩, hbl⟩
      rw [hm x]
      unfold refI
      simp
  ·rw [if_neg hb, errV_some hb]
   exact (ever_to h.p k a b lo hi (nil_err ha) _ rfl hb).mono fun _ _ ⟨q1, q2⟩ => ⟨_, [], q1, World.ownsRow_nil _ _ _ _, ever_none _ _ _ _ _ _ _ hb, q2⟩
 ·rw [if_neg ha, errV_some ha]
  exact (ever_from h.p k a b lo hi _ rfl ha).mono fun _ _ ⟨q1, q2⟩ => ⟨_, [], q1, World.ownsRow_nil _ _ _ _, ever_none _ _ _ _ _ _ _ ha, q2⟩
end
end Go.Proofs.YtfoojmflbifkpaaGreatDoor

namespace Go.Proofs.YtfoojmflbifkpaaGreatDoor
open Go.RowKit Go.Maps
structure AskK (B : Nat) (k : Ky) (a b t lo hi : Int) (w : World) : Prop where
 k : BoxK B k w
 a : w.cell? ⟨B, 4, none⟩ = some (.int .i64 a)
 b : w.cell? ⟨B, 5, none⟩ = some (.int .i64 b)
 t : w.cell? ⟨B, 6, none⟩ = some (.int .i64 t)
 lo : w.cell? ⟨B, 7, none⟩ = some (.int .i64 lo)
 hi : w.cell? ⟨B, 8, none⟩ = some (.int .i64 hi)
theorem AskK.below {B : Nat} {k : Ky} {a b t lo hi : Int} {w w' : World} (h : AskK B k a b t lo hi w) (hb : Below w.heap.size w w') : AskK B k a b t lo hi w' :=
 ⟨h.k.below hb, there_yet h.a hb, there_yet h.b hb, there_yet h.t hb, there_yet h.lo hb, there_yet h.hi hb⟩
theorem ask_new (w : World) (k : Ky) (a b t lo hi : Int) : AskK w.heap.size k a b t lo hi (w.alloc (.cells #[.int .i64 k.kind, .int .i64 k.a, .string k.word, .int .i64 k.b, .int .i64 a, .int .i64 b, .int .i64 t, .int .i64 lo, .int .i64 hi] 56)) :=
 ⟨⟨by simp, by simp, by simp, by simp, fun i => by simp⟩, by simp, by simp, by simp, by simp, by simp⟩
theorem rowP_cells {w : World} {base : Nat} {u : Value} {l : List (Int × Int × ByteArray)} (h : RowP w base u l) : ∃ g ad c, u = .slice ad l.length c /\ ∀ j, (hj : j < l.length) -> ad = some ⟨g, 0, none⟩ /\ w.cell? ⟨g, j * 3, none⟩ = some (.int .i64 l[j].1) /\ w.cell? ⟨g, j * 3 + 1, none⟩ = some (.int .i64 l[j].2.1) /\ w.cell? ⟨g, j * 3 + 2, none⟩ = some (.string l[j].2.2) := by
 obtain ⟨g, ad, c, e, hc⟩ := own_pieces h
 exact ⟨g, ad, c, e, fun j hj => by
  obtain ⟨q1, _, q2, q3, q4⟩ := hc j hj
  exact ⟨q1, q2, q3, q4⟩⟩
theorem same_pieces_own {w : World} {base base' : Nat} {u u' : Value} {l : List (Int × Int × ByteArray)} (h : RowP w base u l) (h' : RowP w base' u' l) :
  Calls Tryz.prog 52 #[u, u'] w fun e w' => e = .returned (.bool true) /\ Below w.heap.size w w' := by
 have hm := row_max (show World.ownsRow _ _ _ _ _ _ _ from h)
 obtain ⟨g, ad, c, rfl, hc⟩ := rowP_cells h
 obtain ⟨g', ad', c', rfl, hc'⟩ := rowP_cells h'
 exact same_pieces l ad ad' g g' c c' w hm hc hc'
theorem rowT_cells {w : World} {base : Nat} {u : Value} {L : List (List UInt8)} (h : RowT w base u L) : ∃ g ad c, u = .slice ad (unstrs L).length c /\ ∀ j, (hj : j < (unstrs L).length) -> ad = some ⟨g, 0, none⟩ /\ w.cell? ⟨g, j, none⟩ = some (.string (unstrs L)[j]) := by
 have hu : (unstrs L).length = L.length := by unfold unstrs; simp
 unfold RowT at h
 rw [<- unstrs_enc] at h
 obtain ⟨g, ad, c, e, hc⟩ := own1_at h
 refine ⟨g, ad, c, by rw [hu]; exact e, fun j hj => ?_⟩
 obtain ⟨q1, q2⟩ := hc j (by omega)
 refine ⟨q1, q2.trans ?_⟩
 simp [hj]
theorem same_texts_own {w : World} {base base' : Nat} {u u' : Value} {L : List (List UInt8)} (h : RowT w base u L) (h' : RowT w base' u' L) :
  Calls Tryz.prog 55 #[u, u'] w fun e w' => e = .returned (.bool true) /\ Below w.heap.size w w' := by
 have hm := row_max (show World.ownsRow _ _ _ _ _ _ _ from h)
 obtain ⟨g, ad, c, rfl, hc⟩ := rowT_cells h
 obtain ⟨g', ad', c', rfl, hc'⟩ := rowT_cells h'
 exact same_texts (unstrs L) ad ad' g g' c c' w (by unfold unstrs; simpa using hm) hc hc'
def TelH (Pb Po R : Nat) (n m : Nat) (known : Int) (ad : Option Addr) (w0 x : World) : Prop :=
 x.cell? ⟨R, 1, none⟩ = some (.int .i64 known) /\ x.cell? ⟨Pb, Po, none⟩ = some (.int .i64 (n : Nat)) /\ x.cell? ⟨Pb, Po + 1, none⟩ = some (.int .i64 known) /\ x.cell? ⟨R, 0, none⟩ = some (.slice ad n m) /\ Below w0.heap.size w0 x
theorem TelH.carry {Pb Po R n m : Nat} {known : Int} {ad : Option Addr} {w0 x y : World} (h : TelH Pb Po R n m known ad w0 x) (hb : Below x.heap.size x y) : TelH Pb Po R n m known ad w0 y := by
 obtain ⟨h1, h2, h3, h4, h5⟩ := h
 exact ⟨there_yet h1 hb, there_yet h2 hb, there_yet h3 hb, there_yet h4 hb, h5.trans (hb.mono h5.size)⟩
theorem law_tells {w : World} {P : Pl} {R : Nat} {txs : List (List Fop)} {known : Int} {F G : Nat -> Prop} (h : TwoP w P R txs known F G) (hg : ErrorType w) (k : Ky) (hk : KyOk k) (a b t lo hi : Int) (t0 : -9223372036854775808 <= t) (t1 : t <= 9223372036854775807) :
  Calls Tryz.prog 13 #[.pointer (some ⟨P.b, P.o, none⟩), .pointer (some ⟨R, 0, none⟩), .agg #[.int .i64 k.kind, .int .i64 k.a, .string k.word, .int .i64 k.b, .int .i64 a, .int .i64 b, .int .i64 t, .int .i64 lo, .int .i64 hi]] w fun e w' => e = .returned (.bool true) /\ Below w.heap.size w w' := by
 have HB := zh (below_box w (.cells #[.int .i64 k.kind, .int .i64 k.a, .string k.word, .int .i64 k.b, .int .i64 a, .int .i64 b, .int .i64 t, .int .i64 lo, .int .i64 hi] 56))
 have HA := zh (ask_new w k a b t lo hi)
 have HT := zh (h.below (uh HB))
 have HG := zh (hg.carry (uh HB))
 clear h hg
 have k0 := (uh HA).k.c0
 have k1 := (uh HA).k.c1
 have k2 := (uh HA).k.c2
 have k3 := (uh HA).k.c3
 have a4 := (uh HA).a
 have a6 := (uh HA).t
 by_cases hw : 60 < k.word.size
 ·have hw' : (60 : Int) < (k.word.size : Int) := by omega
  go_enter Tryz.func13, Tryz.ntmps13
  go_wp2
  go_ret
  exact ⟨rfl, uh HB⟩
 have hw' : ¬ (60 : Int) < (k.word.size : Int) := by omega
 go_enter Tryz.func13, Tryz.ntmps13
 go_wp2_with fail
 generalize w.alloc (.cells #[.int .i64 k.kind, .int .i64 k.a, .string k.word, .int .i64 k.b, .int .i64 a, .int .i64 b, .int .i64 t, .int .i64 lo, .int .i64 hi] 56) = W0 at *
 refine (ref_value (uh HT) k hk a t).mono ?_
 rintro e W1 ⟨rfl, b1⟩
 have HB1 := zh ((uh HB).trans (b1.mono (uh HB).size))
 have HA1 := zh ((uh HA).below b1)
 have HT1 := zh ((uh HT).below b1)
 have HG1 := zh ((uh HG).carry b1)
 clear b1 k0 k1 k2 k3 a4 a6 HB HA HT HG
 have k0 := (uh HA1).k.c0
 have k1 := (uh HA1).k.c1
 have k2 := (uh HA1).k.c2
 have k3 := (uh HA1).k.c3
 have a4 := (uh HA1).a
 have a6 := (uh HA1).t
 go_wp2_with fail
 refine (past_value (uh HT1) k hk a t t0 t1).mono ?_
 rintro e W2 ⟨rfl, b2⟩
 have HB2 := zh ((uh HB1).trans (b2.mono (uh HB1).size))
 have HA2 := zh ((uh HA1).below b2)
 have HT2 := zh ((uh HT1).below b2)
 have HG2 := zh ((uh HG1).carry b2)
 clear b2 k0 k1 k2 k3 a4 a6 HB1 HA1 HT1 HG1
 generalize valV txs k a t (valE txs.length known k a t) = vv at *
 generalize valE txs.length known k a t = e1 at *
 go_wp2_with fail
 refine (bare_err e1 _ (uh HG2)).mono ?_
 rintro e W3 ⟨rfl, b3⟩
 have HB3 := zh ((uh HB2).trans (b3.mono (uh HB2).size))
 have HA3 := zh ((uh HA2).below b3)
 have HT3 := zh ((uh HT2).below b3)
 have HG3 := zh ((uh HG2).carry b3)
 clear b3 HB2 HA2 HT2 HG2
 have k0 := (uh HA3).k.c0
 have k1 := (uh HA3).k.c1
 have k2 := (uh HA3).k.c2
 have k3 := (uh HA3).k.c3
 have a4 := (uh HA3).a
 go_wp2_with fail
 refine (ref_pieces (uh HT3) k hk a).mono ?_
 rintro e W4 ⟨up, lp, rfl, rp, sp, b4⟩
 have HB4 := zh ((uh HB3).trans (b4.mono (uh HB3).size))
 have HA4 := zh ((uh HA3).below b4)
 have HT4 := zh ((uh HT3).below b4)
 have HG4 := zh ((uh HG3).carry b4)
 have HRp := zh rp
 have HSp := zh sp
 obtain ⟨adp, cpp, rfl⟩ := row_slice (show World.ownsRow _ _ _ _ _ _ _ from rp)
 clear b4 k0 k1 k2 k3 a4 HB3 HA3 HT3 HG3 rp sp
 have k0 := (uh HA4).k.c0
 have k1 := (uh HA4).k.c1
 have k2 := (uh HA4).k.c2
 have k3 := (uh HA4).k.c3
 have a4 := (uh HA4).a
 go_wp2_with fail
 refine (past_pieces (uh HT4) k hk a).mono ?_
 rintro e W5 ⟨vp, mp, rfl, rp, sp, b5⟩
 obtain rfl : lp = mp := pie_one (uh HSp) sp
 have HB5 := zh ((uh HB4).trans (b5.mono (uh HB4).size))
 have HA5 := zh ((uh HA4).below b5)
 have HT5 := zh ((uh HT4).below b5)
 have HG5 := zh ((uh HG4).carry b5)
 have HRpx := zh (ownsRow_carry (uh HRp) b5)
 have HVp := zh rp
 obtain ⟨bdp, dpp, rfl⟩ := row_slice (show World.ownsRow _ _ _ _ _ _ _ from rp)
 clear b5 k0 k1 k2 k3 a4 HB4 HA4 HT4 HG4 rp sp HRp
 generalize pieE txs.length known k a = ep at *
 go_wp2_with fail
 refine (bare_err ep _ (uh HG5)).mono ?_
 rintro e W6 ⟨rfl, b6⟩
 have HB6 := zh ((uh HB5).trans (b6.mono (uh HB5).size))
 have HA6 := zh ((uh HA5).below b6)
 have HT6 := zh ((uh HT5).below b6)
 have HG6 := zh ((uh HG5).carry b6)
 have HXp := zh (same_pieces_own (ownsRow_carry (uh HVp) b6) (ownsRow_carry (uh HRpx) b6))
 clear b6 HB5 HA5 HT5 HG5 HVp HRpx
 go_wp2_with fail
 refine (uh HXp).mono ?_
 rintro e W7 ⟨rfl, b7⟩
 have HB7 := zh ((uh HB6).trans (b7.mono (uh HB6).size))
 have HA7 := zh ((uh HA6).below b7)
 have HT7 := zh ((uh HT6).below b7)
 have HG7 := zh ((uh HG6).carry b7)
 clear b7 HB6 HA6 HT6 HG6 HXp HSp
 have k0 := (uh HA7).k.c0
 have k1 := (uh HA7).k.c1
 have k2 := (uh HA7).k.c2
 have k3 := (uh HA7).k.c3
 have a4 := (uh HA7).a
 have a5 := (uh HA7).b
 have a7 := (uh HA7).lo
 have a8 := (uh HA7).hi
 go_wp2_with fail
 refine (ref_ever (uh HT7) k hk a b lo hi).mono ?_
 rintro e W8 ⟨ut, lt, rfl, rt, st, b8⟩
 have HB8 := zh ((uh HB7).trans (b8.mono (uh HB7).size))
 have HA8 := zh ((uh HA7).below b8)
 have HT8 := zh ((uh HT7).below b8)
 have HG8 := zh ((uh HG7).carry b8)
 have HRt := zh rt
 have HSt := zh st
 obtain ⟨adt, cpt, rfl⟩ := row_slice (show World.ownsRow _ _ _ _ _ _ _ from rt)
 clear b8 k0 k1 k2 k3 a4 a5 a7 a8 HB7 HA7 HT7 HG7 rt st
 have k0 := (uh HA8).k.c0
 have k1 := (uh HA8).k.c1
 have k2 := (uh HA8).k.c2
 have k3 := (uh HA8).k.c3
 have a4 := (uh HA8).a
 have a5 := (uh HA8).b
 have a7 := (uh HA8).lo
 have a8 := (uh HA8).hi
 go_wp2_with fail
 refine (past_ever (uh HT8) k hk a b lo hi).mono ?_
 rintro e W9 ⟨vt, mt, rfl, rt, st, b9⟩
 obtain rfl : lt = mt := ever_one (uh HSt) st
 have HB9 := zh ((uh HB8).trans (b9.mono (uh HB8).size))
 have HA9 := zh ((uh HA8).below b9)
 have HT9 := zh ((uh HT8).below b9)
 have HG9 := zh ((uh HG8).carry b9)
 have HRtx := zh (ownsRow_carry (uh HRt) b9)
 have HVt := zh rt
 obtain ⟨bdt, dpt, rfl⟩ := row_slice (show World.ownsRow _ _ _ _ _ _ _ from rt)
 clear b9 k0 k1 k2 k3 a4 a5 a7 a8 HB8 HA8 HT8 HG8 rt st HRt
 generalize everE txs.length known k a b lo hi = et at *
 go_wp2_with fail
 refine (bare_err et _ (uh HG9)).mono ?_
 rintro e W10 ⟨rfl, b10⟩
 have HB10 := zh ((uh HB9).trans (b10.mono (uh HB9).size))
 have HA10 := zh ((uh HA9).below b10)
 have HT10 := zh ((uh HT9).below b10)
 have HG10 := zh ((uh HG9).carry b10)
 have HXt := zh (same_texts_own (ownsRow_carry (uh HVt) b10) (ownsRow_carry (uh HRtx) b10))
 clear b10 HB9 HA9 HT9 HG9 HVt HRtx
 go_wp2_with fail
 refine (uh HXt).mono ?_
 rintro e W11 ⟨rfl, b11⟩
 have HB11 := zh ((uh HB10).trans (b11.mono (uh HB10).size))
 have HA11 := zh ((uh HA10).below b11)
 have HT11 := zh ((uh HT10).below b11)
 have HG11 := zh ((uh HG10).carry b11)
 clear b11 HB10 HA10 HT10 HG10 HXt HSt
 have a4 := (uh HA11).a
 have a6 := (uh HA11).t
 go_wp2_with fail
 refine (ref_keys (uh HT11) a t).mono ?_
 rintro e W12 ⟨uy, ly, rfl, ry, sy, b12⟩
 have HB12 := zh ((uh HB11).trans (b12.mono (uh HB11).size))
 have HA12 := zh ((uh HA11).below b12)
 have HT12 := zh ((uh HT11).below b12)
 have HG12 := zh ((uh HG11).carry b12)
 have HRy := zh ry
 have HSy := zh sy
 obtain ⟨ady, cpy, rfl⟩ := row_slice (show World.ownsRow _ _ _ _ _ _ _ from ry)
 clear b12 a4 a6 HB11 HA11 HT11 HG11 ry sy
 have a4 := (uh HA12).a
 have a6 := (uh HA12).t
 go_wp2_with fail
 refine (past_keys (uh HT12) a t t0 t1).mono ?_
 rintro e W13 ⟨vy, my, rfl, ry, sy, b13⟩
 obtain rfl : ly = my := key_one (uh HSy) sy
 have HB13 := zh ((uh HB12).trans (b13.mono (uh HB12).size))
 have HA13 := zh ((uh HA12).below b13)
 have HT13 := zh ((uh HT12).below b13)
 have HG13 := zh ((uh HG12).carry b13)
 have HRyx := zh (ownsRow_carry (uh HRy) b13)
 have HVy := zh ry
 obtain ⟨bdy, dpy, rfl⟩ := row_slice (show World.ownsRow _ _ _ _ _ _ _ from ry)
 clear b13 a4 a6 HB12 HA12 HT12 HG12 ry sy HRy
 generalize keysE txs.length known a t = ey at *
 go_upto_region 17 with fail
 obtain ⟨adr, cpr, hr0⟩ := (uh HT13).q.refP.len
 obtain ⟨hp0, hp1⟩ := PastW.cells (show PastW _ _ _ _ _ _ _ from (uh HT13).p)
 have HS0 : Hid (TelH P.b P.o R txs.length cpr known adr W13 W13) := ⟨(uh HT13).q.c1, hp0, hp1, hr0, Below.refl _ _⟩
 clear hr0 hp0 hp1
 generalize txs.length = n at *
 go_region_held3 (fun x => x.cell? ⟨R, 1, none⟩ = some (.int .i64 known) /\ x.cell? ⟨P.b, P.o, none⟩ = some (.int .i64 (n : Nat)) /\ x.cell? ⟨P.b, P.o + 1, none⟩ = some (.int .i64 known) /\ x.cell? ⟨R, 0, none⟩ = some (.slice adr n cpr) /\ Below W13.heap.size W13 x)
  (first | exact TelH.carry (uh HS0) (below_drew _) | exact hh2 | exact hh1 | assumption)
  (first
   | (go_at_call 25; refine (same_keys_own (ownsRow_carry (uh HVy) hh1.2.2.2.2) (ownsRow_carry (uh HRyx) hh1.2.2.2.2)).mono ?_; rintro e w2 ⟨rfl, b2⟩; have hh2 := hh1.carry b2)
   | (go_at_call 10; refine (bare_err ey _ ((uh HG13).carry (below_drew _))).mono ?_; rintro e w1 ⟨rfl, b1⟩; have hh1 := (TelH.carry (uh HS0) (below_drew _)).carry b1)
   | (go_at_call 58; refine (past_Now hh2.2.1).mono ?_; rintro e w3 ⟨rfl, rfl⟩)
   | (go_at_call 43; refine (rp_Now hh2.2.2.2.1).mono ?_; rintro e w4 ⟨rfl, rfl⟩)
   | (go_at_call 59; refine (past_Known hh2.2.2.1).mono ?_; rintro e w5 ⟨rfl, rfl⟩))
 all_goals
  have HBz := zh ((uh HB13).trans (hh2.2.2.2.2.mono (uh HB13).size))
  clear hh1 hh2 b1 b2
  go_wp2
  go_ret
  exact ⟨by simp, uh HBz⟩
end Go.Proofs.YtfoojmflbifkpaaGreatDoor

namespace Go.Proofs.YtfoojmflbifkpaaGreatDoor
open Go.RowKit
def Shorts (l : List Fop) : Prop := l.length <= 20 /\ ∀ x, x ∈ l -> x.word.size <= 60 /\ x.value.size <= 60
def ShortSays (l : List Fop) (w : World) (e : Ending) (w' : World) : Prop := ∃ r, e = .returned (.bool r) /\ (r = true -> Shorts l) /\ w' = w
theorem law_short_len (l : List Fop) (ad : Option Addr) (cap : Nat) (w : World) (hn : l.length <= maxLen) (h : 20 < l.length) :
  Calls Tryz.prog 9 #[.slice ad l.length cap] w fun e w' => e = .returned (.bool false) /\ w' = w := by
 unfold maxLen at hn
 have h' : 20 < (l.length : Int) := by omega
 go_enter Tryz.func9, Tryz.ntmps9
 go_wp2
 go_ret
 exact ⟨rfl, rfl⟩
theorem law_short_none (ad : Option Addr) (cap : Nat) (w : World) :
  Calls Tryz.prog 9 #[.slice ad 0 cap] w fun e w' => e = .returned (.bool true) /\ w' = w := by
 go_enter Tryz.func9, Tryz.ntmps9
 go_wp2
 refine wp_loop_rounds 1 ?_
 rw [rounds_succ]
 go_wp2
 go_ret
 exact ⟨rfl, rfl⟩
theorem law_short_at (l : List Fop) (b off cap : Nat) (w : World) (hl : l.length <= 20) (hs : ∀ x, x ∈ l -> x.word.size <= maxLen /\ x.value.size <= maxLen) (h : OpsAt w b off l) :
  Calls Tryz.prog 9 #[.slice (some ⟨b, off, none⟩) l.length cap] w (ShortSays l w) := by
 have H := zh h
 have HS := zh hs
 clear h hs
 have h' : ¬ 20 < (l.length : Int) := by omega
 go_enter Tryz.func9, Tryz.ntmps9
 go_wp2
 go_loop [3] (fun i => ∃ k : Nat, k <= l.length /\ i = .int .i64 k /\ ∀ j, (hj : j < l.length) -> j < k -> l[j].word.size <= 60 /\ l[j].value.size <= 60) (fun i => l.length - (intOf i).toNat)
 case atStart => exact ⟨0, Nat.zero_le _, rfl, fun j _ h => absurd h (Nat.not_lt_zero _)⟩
 case round =>
  obtain ⟨k, hk, rfl, hz⟩ := hrel
  have HZ := zh hz
  clear hz
  by_cases hlt : k < l.length
  ·have hlt' : (k : Int) < (l.length : Int) := by omega
   obtain ⟨_, _, c2, _, _, _, c6⟩ := (uh H).2 k hlt
   have hq := uh HS _ (List.getElem_mem hlt)
   unfold maxLen at hq
   by_cases h1 : 60 < l[k].word.size
   ·have h1' : 60 < (l[k].word.size : Int) := by omega
    generalize l[k] = o at *
    go_wp2
    go_ret
    exact ⟨false, rfl, (by intro e; cases e), rfl⟩
   ·have h1' : ¬ 60 < (l[k].word.size : Int) := by omega
    by_cases h2 : 60 < l[k].value.size
    ·have h2' : 60 < (l[k].value.size : Int) := by omega
     generalize l[k] = o at *
     go_wp2
     go_ret
     exact ⟨false, rfl, (by intro e; cases e), rfl⟩
    ·have h2' : ¬ 60 < (l[k].value.size : Int) := by omega
     have HN : Hid (∀ j, (hj : j < l.length) -> j < k + 1 -> l[j].word.size <= 60 /\ l[j].value.size <= 60) := by
      intro j hj hjk
      by_cases e : j = k
      ·subst e; omega
      ·exact uh HZ j hj (by omega)
     generalize l[k] = o at *
     go_wp2
     go_round
     case rel => exact ⟨k + 1, by omega, by go_num, uh HN⟩
     case measure => simp [intOf]; omega
  ·have hlt' : ¬ (k : Int) < (l.length : Int) := by omega
   have HN : Hid (Shorts l) := ⟨hl, fun x hx => by
    obtain ⟨j, hj, rfl⟩ := List.getElem_of_mem hx
    exact uh HZ j hj (by omega)⟩
   go_wp2
   go_ret
   exact ⟨true, rfl, fun _ => uh HN, rfl⟩
theorem law_short (l : List Fop) (v : Value) (w : World) (hn : l.length <= maxLen) (hs : ∀ x, x ∈ l -> Small x) (h : ReadsOps w v l) :
  Calls Tryz.prog 9 #[v] w (ShortSays l w) := by
 obtain ⟨ad, cap, rfl, h⟩ := h
 by_cases h20 : 20 < l.length
 ·exact (law_short_len l ad cap w hn h20).mono fun e w' ⟨h1, h2⟩ => ⟨false, h1, (by intro e; cases e), h2⟩
 ·rcases h with rfl | ⟨b, off, rfl, h⟩
  ·exact (law_short_none ad cap w).mono fun e w' ⟨h1, h2⟩ => ⟨true, h1, fun _ => ⟨by simp, by simp⟩, h2⟩
  ·exact law_short_at l b off cap w (by omega) hs h
end Go.Proofs.YtfoojmflbifkpaaGreatDoor

namespace Go.Proofs.YtfoojmflbifkpaaGreatDoor
open Go.RowKit Go.Maps
structure StepN where
 what : Int
 n : Int
 torn : Int
 v : Value
 l : List Fop
def StepsAt (w : World) (ad : Option Addr) (L : List StepN) : Prop :=
 ∀ j, (hj : j < L.length) -> ∃ b o, ad = some ⟨b, o, none⟩ /\ w.cell? ⟨b, o + j * 4, none⟩ = some (.int .i64 L[j].what) /\ w.cell? ⟨b, o + j * 4 + 1, none⟩ = some (.int .i64 L[j].n) /\ w.cell? ⟨b, o + j * 4 + 2, none⟩ = some (.int .i64 L[j].torn) /\ w.cell? ⟨b, o + j * 4 + 3, none⟩ = some L[j].v /\ ReadsOps w L[j].v L[j].l /\ L[j].l.length <= maxLen /\ (∀ x, x ∈ L[j].l -> Small x) /\ L[j].n <= 9223372036854775807
structure AskN where
 k : Ky
 a : Int
 b : Int
 t : Int
 lo : Int
 hi : Int
def AsksAt (w : World) (ad : Option Addr) (A : List AskN) : Prop :=
 ∀ j, (hj : j < A.length) -> ∃ b o, ad = some ⟨b, o, none⟩ /\ w.cell? ⟨b, o + j * 9, none⟩ = some (.int .i64 A[j].k.kind) /\ w.cell? ⟨b, o + j * 9 + 1, none⟩ = some (.int .i64 A[j].k.a) /\ w.cell? ⟨b, o + j * 9 + 2, none⟩ = some (.string A[j].k.word) /\ w.cell? ⟨b, o + j * 9 + 3, none⟩ = some (.int .i64 A[j].k.b) /\ w.cell? ⟨b, o + j * 9 + 4, none⟩ = some (.int .i64 A[j].a) /\ w.cell? ⟨b, o + j * 9 + 5, none⟩ = some (.int .i64 A[j].b) /\ w.cell? ⟨b, o + j * 9 + 6, none⟩ = some (.int .i64 A[j].t) /\ w.cell? ⟨b, o + j * 9 + 7, none⟩ = some (.int .i64 A[j].lo) /\ w.cell? ⟨b, o + j * 9 + 8, none⟩ = some (.int .i64 A[j].hi) /\ KyOk A[j].k /\ -9223372036854775808 <= A[j].t /\ A[j].t <= 9223372036854775807
end Go.Proofs.YtfoojmflbifkpaaGreatDoor
