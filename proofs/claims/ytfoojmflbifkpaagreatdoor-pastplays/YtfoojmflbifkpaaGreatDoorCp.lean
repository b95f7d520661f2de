/- Texts of one proof, one behind the other. -/
import Derived.Test.YtfoojmflbifkpaaGreatDoorCo
import Derived.Test.YtfoojmflbifkpaaGreatDoorCn
import Derived.Test.YtfoojmflbifkpaaGreatDoorBz
import Derived.Test.YtfoojmflbifkpaaGreatDoorBy
import Derived.Deep.RegionHeld3

/- The law's question to both pasts: walked. -/
namespace Go.Proofs.YtfoojmflbifkpaaGreatDoor
open Go.RowKit Go.Maps

structure AskK (B : Nat) (k : Ky) (a b t lo hi : Int) (w : World) : Prop where
  k : BoxK B k w
  a : w.cell? ⟨B, 4, none⟩ = some (.int .i64 a)
  b : w.cell? ⟨B, 5, none⟩ = some (.int .i64 b)
  t : w.cell? ⟨B, 6, none⟩ = some (.int .i64 t)
  lo : w.cell? ⟨B, 7, none⟩ = some (.int .i64 lo)
  hi : w.cell? ⟨B, 8, none⟩ = some (.int .i64 hi)
theorem AskK.below {B : Nat} {k : Ky} {a b t lo hi : Int} {w w' : World} (h : AskK B k a b t lo hi w) (hb : Below w.heap.size w w') : AskK B k a b t lo hi w' :=
  ⟨h.k.below hb, there_yet h.a hb, there_yet h.b hb, there_yet h.t hb, there_yet h.lo hb, there_yet h.hi hb⟩
theorem ask_new (w : World) (k : Ky) (a b t lo hi : Int) : AskK w.heap.size k a b t lo hi (w.alloc (.cells #[.int .i64 k.kind, .int .i64 k.a, .string k.word, .int .i64 k.b, .int .i64 a, .int .i64 b, .int .i64 t, .int .i64 lo, .int .i64 hi] 56)) :=
  ⟨⟨by simp, by simp, by simp, by simp, fun i => by simp⟩, by simp, by simp, by simp, by simp, by simp⟩

theorem rowP_cells {w : World} {base : Nat} {u : Value} {l : List (Int × Int × ByteArray)} (h : RowP w base u l) : ∃ g ad c, u = .slice ad l.length c ∧ ∀ j, (hj : j < l.length) → ad = some ⟨g, 0, none⟩ ∧ w.cell? ⟨g, j * 3, none⟩ = some (.int .i64 l[j].1) ∧ w.cell? ⟨g, j * 3 + 1, none⟩ = some (.int .i64 l[j].2.1) ∧ w.cell? ⟨g, j * 3 + 2, none⟩ = some (.string l[j].2.2) := by
  obtain ⟨g, ad, c, e, hc⟩ := own_pieces h
  exact ⟨g, ad, c, e, fun j hj => by
    obtain ⟨q1, _, q2, q3, q4⟩ := hc j hj
    exact ⟨q1, q2, q3, q4⟩⟩
theorem same_pieces_own {w : World} {base base' : Nat} {u u' : Value} {l : List (Int × Int × ByteArray)} (h : RowP w base u l) (h' : RowP w base' u' l) :
    Calls Tryz.prog 52 #[u, u'] w fun e w' => e = .returned (.bool true) ∧ Below w.heap.size w w' := by
  have hm := row_max (show World.ownsRow _ _ _ _ _ _ _ from h)
  obtain ⟨g, ad, c, rfl, hc⟩ := rowP_cells h
  obtain ⟨g', ad', c', rfl, hc'⟩ := rowP_cells h'
  exact same_pieces l ad ad' g g' c c' w hm hc hc'
theorem rowT_cells {w : World} {base : Nat} {u : Value} {L : List (List UInt8)} (h : RowT w base u L) : ∃ g ad c, u = .slice ad (unstrs L).length c ∧ ∀ j, (hj : j < (unstrs L).length) → ad = some ⟨g, 0, none⟩ ∧ w.cell? ⟨g, j, none⟩ = some (.string (unstrs L)[j]) := by
  have hu : (unstrs L).length = L.length := by unfold unstrs; simp
  unfold RowT at h
  rw [← unstrs_enc] at h
  obtain ⟨g, ad, c, e, hc⟩ := own1_at h
  refine ⟨g, ad, c, by rw [hu]; exact e, fun j hj => ?_⟩
  obtain ⟨q1, q2⟩ := hc j (by omega)
  refine ⟨q1, q2.trans ?_⟩
  simp [hj]
theorem same_texts_own {w : World} {base base' : Nat} {u u' : Value} {L : List (List UInt8)} (h : RowT w base u L) (h' : RowT w base' u' L) :
    Calls Tryz.prog 55 #[u, u'] w fun e w' => e = .returned (.bool true) ∧ Below w.heap.size w w' := by
  have hm := row_max (show World.ownsRow _ _ _ _ _ _ _ from h)
  obtain ⟨g, ad, c, rfl, hc⟩ := rowT_cells h
  obtain ⟨g', ad', c', rfl, hc'⟩ := rowT_cells h'
  exact same_texts (unstrs L) ad ad' g g' c c' w (by unfold unstrs; simpa using hm) hc hc'
theorem rowY_cells {w : World} {base : Nat} {u : Value} {l : List Ky} (h : RowY w base u l) : ∃ g ad c, u = .slice ad l.length c ∧ ∀ j, (hj : j < l.length) → ad = some ⟨g, 0, none⟩ ∧ w.cell? ⟨g, j * 4, none⟩ = some (.int .i64 l[j].kind) ∧ w.cell? ⟨g, j * 4 + 1, none⟩ = some (.int .i64 l[j].a) ∧ w.cell? ⟨g, j * 4 + 2, none⟩ = some (.string l[j].word) ∧ w.cell? ⟨g, j * 4 + 3, none⟩ = some (.int .i64 l[j].b) := by
  rcases h.2 with ⟨rfl, h0⟩ | ⟨g, cap, cur, rfl, hg, hh, h3, h4, h5, h6⟩
  · exact ⟨0, none, 0, by rw [h0], fun j hj => by omega⟩
  · refine ⟨g, _, cap, rfl, fun j hj => ⟨rfl, ?_⟩⟩
    have key : ∀ m, m < 4 → w.cell? ⟨g, j * 4 + m, none⟩ = some ((encY l[j])[m]!) := fun m hm => by
      have e1 := encYs_get l (j * 4 + m) (by omega)
      rw [show (j * 4 + m) / 4 = j by omega, show (j * 4 + m) % 4 = m by omega, List.getElem?_eq_getElem hj] at e1
      unfold World.cell?
      simp only [hh]
      rw [← Array.getElem?_toList, ← List.getElem?_take_of_lt (show j * 4 + m < l.length * 4 by omega), h6]
      exact e1
    exact ⟨key 0 (by omega), key 1 (by omega), key 2 (by omega), key 3 (by omega)⟩
theorem same_keys_own {w : World} {base base' : Nat} {u u' : Value} {l : List Ky} (h : RowY w base u l) (h' : RowY w base' u' l) :
    Calls Tryz.prog 25 #[u, u'] w fun e w' => e = .returned (.bool true) ∧ Below w.heap.size w w' := by
  have hm := row_max (show World.ownsRow _ _ _ _ _ _ _ from h)
  obtain ⟨g, ad, c, rfl, hc⟩ := rowY_cells h
  obtain ⟨g', ad', c', rfl, hc'⟩ := rowY_cells h'
  exact same_keys l ad ad' g g' c c' w hm hc hc'

/-- What the last question holds. -/
def TelH (Pb Po R : Nat) (n m : Nat) (known : Int) (ad : Option Addr) (w0 x : World) : Prop :=
  x.cell? ⟨R, 1, none⟩ = some (.int .i64 known) ∧ x.cell? ⟨Pb, Po, none⟩ = some (.int .i64 (n : Nat)) ∧ x.cell? ⟨Pb, Po + 1, none⟩ = some (.int .i64 known) ∧ x.cell? ⟨R, 0, none⟩ = some (.slice ad n m) ∧ Below w0.heap.size w0 x
theorem TelH.carry {Pb Po R n m : Nat} {known : Int} {ad : Option Addr} {w0 x y : World} (h : TelH Pb Po R n m known ad w0 x) (hb : Below x.heap.size x y) : TelH Pb Po R n m known ad w0 y := by
  obtain ⟨h1, h2, h3, h4, h5⟩ := h
  exact ⟨there_yet h1 hb, there_yet h2 hb, there_yet h3 hb, there_yet h4 hb, h5.trans (hb.mono h5.size)⟩

set_option maxRecDepth 100000 in
set_option maxHeartbeats 2000000 in
theorem law_tells {w : World} {P : Pl} {R : Nat} {txs : List (List Fop)} {known : Int} {F G : Nat → Prop} (h : TwoP w P R txs known F G) (hg : ErrorType w) (k : Ky) (hk : KyOk k) (a b t lo hi : Int) (t0 : -9223372036854775808 ≤ t) (t1 : t ≤ 9223372036854775807) :
    Calls Tryz.prog 13 #[.pointer (some ⟨P.b, P.o, none⟩), .pointer (some ⟨R, 0, none⟩), .agg #[.int .i64 k.kind, .int .i64 k.a, .string k.word, .int .i64 k.b, .int .i64 a, .int .i64 b, .int .i64 t, .int .i64 lo, .int .i64 hi]] w fun e w' => e = .returned (.bool true) ∧ Below w.heap.size w w' := by
  have HB := hide (below_box w (.cells #[.int .i64 k.kind, .int .i64 k.a, .string k.word, .int .i64 k.b, .int .i64 a, .int .i64 b, .int .i64 t, .int .i64 lo, .int .i64 hi] 56))
  have HA := hide (ask_new w k a b t lo hi)
  have HT := hide (h.below (unhide HB))
  have HG := hide (hg.carry (unhide HB))
  clear h hg
  have k0 := (unhide HA).k.c0
  have k1 := (unhide HA).k.c1
  have k2 := (unhide HA).k.c2
  have k3 := (unhide HA).k.c3
  have a4 := (unhide HA).a
  have a6 := (unhide HA).t
  by_cases hw : 60 < k.word.size
  · have hw' : (60 : Int) < (k.word.size : Int) := by omega
    go_enter Tryz.func13, Tryz.ntmps13
    go_wp2
    go_ret
    exact ⟨rfl, unhide HB⟩
  have hw' : ¬ (60 : Int) < (k.word.size : Int) := by omega
  go_enter Tryz.func13, Tryz.ntmps13
  go_wp2_with fail
  generalize w.alloc (.cells #[.int .i64 k.kind, .int .i64 k.a, .string k.word, .int .i64 k.b, .int .i64 a, .int .i64 b, .int .i64 t, .int .i64 lo, .int .i64 hi] 56) = W0 at *
  refine (ref_value (unhide HT) k hk a t).mono ?_
  rintro e W1 ⟨rfl, b1⟩
  have HB1 := hide ((unhide HB).trans (b1.mono (unhide HB).size))
  have HA1 := hide ((unhide HA).below b1)
  have HT1 := hide ((unhide HT).below b1)
  have HG1 := hide ((unhide HG).carry b1)
  clear b1 k0 k1 k2 k3 a4 a6 HB HA HT HG
  have k0 := (unhide HA1).k.c0
  have k1 := (unhide HA1).k.c1
  have k2 := (unhide HA1).k.c2
  have k3 := (unhide HA1).k.c3
  have a4 := (unhide HA1).a
  have a6 := (unhide HA1).t
  go_wp2_with fail
  refine (past_value (unhide HT1) k hk a t t0 t1).mono ?_
  rintro e W2 ⟨rfl, b2⟩
  have HB2 := hide ((unhide HB1).trans (b2.mono (unhide HB1).size))
  have HA2 := hide ((unhide HA1).below b2)
  have HT2 := hide ((unhide HT1).below b2)
  have HG2 := hide ((unhide HG1).carry b2)
  clear b2 k0 k1 k2 k3 a4 a6 HB1 HA1 HT1 HG1
  generalize valV txs k a t (valE txs.length known k a t) = vv at *
  generalize valE txs.length known k a t = e1 at *
  go_wp2_with fail
  refine (bare_err e1 _ (unhide HG2)).mono ?_
  rintro e W3 ⟨rfl, b3⟩
  have HB3 := hide ((unhide HB2).trans (b3.mono (unhide HB2).size))
  have HA3 := hide ((unhide HA2).below b3)
  have HT3 := hide ((unhide HT2).below b3)
  have HG3 := hide ((unhide HG2).carry b3)
  clear b3 HB2 HA2 HT2 HG2
  have k0 := (unhide HA3).k.c0
  have k1 := (unhide HA3).k.c1
  have k2 := (unhide HA3).k.c2
  have k3 := (unhide HA3).k.c3
  have a4 := (unhide HA3).a
  go_wp2_with fail
  refine (ref_pieces (unhide HT3) k hk a).mono ?_
  rintro e W4 ⟨up, lp, rfl, rp, sp, b4⟩
  have HB4 := hide ((unhide HB3).trans (b4.mono (unhide HB3).size))
  have HA4 := hide ((unhide HA3).below b4)
  have HT4 := hide ((unhide HT3).below b4)
  have HG4 := hide ((unhide HG3).carry b4)
  have HRp := hide rp
  have HSp := hide sp
  obtain ⟨adp, cpp, rfl⟩ := row_slice (show World.ownsRow _ _ _ _ _ _ _ from rp)
  clear b4 k0 k1 k2 k3 a4 HB3 HA3 HT3 HG3 rp sp
  have k0 := (unhide HA4).k.c0
  have k1 := (unhide HA4).k.c1
  have k2 := (unhide HA4).k.c2
  have k3 := (unhide HA4).k.c3
  have a4 := (unhide HA4).a
  go_wp2_with fail
  refine (past_pieces (unhide HT4) k hk a).mono ?_
  rintro e W5 ⟨vp, mp, rfl, rp, sp, b5⟩
  obtain rfl : lp = mp := pie_one (unhide HSp) sp
  have HB5 := hide ((unhide HB4).trans (b5.mono (unhide HB4).size))
  have HA5 := hide ((unhide HA4).below b5)
  have HT5 := hide ((unhide HT4).below b5)
  have HG5 := hide ((unhide HG4).carry b5)
  have HRpx := hide (ownsRow_carry (unhide HRp) b5)
  have HVp := hide rp
  obtain ⟨bdp, dpp, rfl⟩ := row_slice (show World.ownsRow _ _ _ _ _ _ _ from rp)
  clear b5 k0 k1 k2 k3 a4 HB4 HA4 HT4 HG4 rp sp HRp
  generalize pieE txs.length known k a = ep at *
  go_wp2_with fail
  refine (bare_err ep _ (unhide HG5)).mono ?_
  rintro e W6 ⟨rfl, b6⟩
  have HB6 := hide ((unhide HB5).trans (b6.mono (unhide HB5).size))
  have HA6 := hide ((unhide HA5).below b6)
  have HT6 := hide ((unhide HT5).below b6)
  have HG6 := hide ((unhide HG5).carry b6)
  have HXp := hide (same_pieces_own (ownsRow_carry (unhide HVp) b6) (ownsRow_carry (unhide HRpx) b6))
  clear b6 HB5 HA5 HT5 HG5 HVp HRpx
  go_wp2_with fail
  refine (unhide HXp).mono ?_
  rintro e W7 ⟨rfl, b7⟩
  have HB7 := hide ((unhide HB6).trans (b7.mono (unhide HB6).size))
  have HA7 := hide ((unhide HA6).below b7)
  have HT7 := hide ((unhide HT6).below b7)
  have HG7 := hide ((unhide HG6).carry b7)
  clear b7 HB6 HA6 HT6 HG6 HXp HSp
  have k0 := (unhide HA7).k.c0
  have k1 := (unhide HA7).k.c1
  have k2 := (unhide HA7).k.c2
  have k3 := (unhide HA7).k.c3
  have a4 := (unhide HA7).a
  have a5 := (unhide HA7).b
  have a7 := (unhide HA7).lo
  have a8 := (unhide HA7).hi
  go_wp2_with fail
  refine (ref_ever (unhide HT7) k hk a b lo hi).mono ?_
  rintro e W8 ⟨ut, lt, rfl, rt, st, b8⟩
  have HB8 := hide ((unhide HB7).trans (b8.mono (unhide HB7).size))
  have HA8 := hide ((unhide HA7).below b8)
  have HT8 := hide ((unhide HT7).below b8)
  have HG8 := hide ((unhide HG7).carry b8)
  have HRt := hide rt
  have HSt := hide st
  obtain ⟨adt, cpt, rfl⟩ := row_slice (show World.ownsRow _ _ _ _ _ _ _ from rt)
  clear b8 k0 k1 k2 k3 a4 a5 a7 a8 HB7 HA7 HT7 HG7 rt st
  have k0 := (unhide HA8).k.c0
  have k1 := (unhide HA8).k.c1
  have k2 := (unhide HA8).k.c2
  have k3 := (unhide HA8).k.c3
  have a4 := (unhide HA8).a
  have a5 := (unhide HA8).b
  have a7 := (unhide HA8).lo
  have a8 := (unhide HA8).hi
  go_wp2_with fail
  refine (past_ever (unhide HT8) k hk a b lo hi).mono ?_
  rintro e W9 ⟨vt, mt, rfl, rt, st, b9⟩
  obtain rfl : lt = mt := ever_one (unhide HSt) st
  have HB9 := hide ((unhide HB8).trans (b9.mono (unhide HB8).size))
  have HA9 := hide ((unhide HA8).below b9)
  have HT9 := hide ((unhide HT8).below b9)
  have HG9 := hide ((unhide HG8).carry b9)
  have HRtx := hide (ownsRow_carry (unhide HRt) b9)
  have HVt := hide rt
  obtain ⟨bdt, dpt, rfl⟩ := row_slice (show World.ownsRow _ _ _ _ _ _ _ from rt)
  clear b9 k0 k1 k2 k3 a4 a5 a7 a8 HB8 HA8 HT8 HG8 rt st HRt
  generalize everE txs.length known k a b lo hi = et at *
  go_wp2_with fail
  refine (bare_err et _ (unhide HG9)).mono ?_
  rintro e W10 ⟨rfl, b10⟩
  have HB10 := hide ((unhide HB9).trans (b10.mono (unhide HB9).size))
  have HA10 := hide ((unhide HA9).below b10)
  have HT10 := hide ((unhide HT9).below b10)
  have HG10 := hide ((unhide HG9).carry b10)
  have HXt := hide (same_texts_own (ownsRow_carry (unhide HVt) b10) (ownsRow_carry (unhide HRtx) b10))
  clear b10 HB9 HA9 HT9 HG9 HVt HRtx
  go_wp2_with fail
  refine (unhide HXt).mono ?_
  rintro e W11 ⟨rfl, b11⟩
  have HB11 := hide ((unhide HB10).trans (b11.mono (unhide HB10).size))
  have HA11 := hide ((unhide HA10).below b11)
  have HT11 := hide ((unhide HT10).below b11)
  have HG11 := hide ((unhide HG10).carry b11)
  clear b11 HB10 HA10 HT10 HG10 HXt HSt
  have a4 := (unhide HA11).a
  have a6 := (unhide HA11).t
  go_wp2_with fail
  refine (ref_keys (unhide HT11) a t).mono ?_
  rintro e W12 ⟨uy, ly, rfl, ry, sy, b12⟩
  have HB12 := hide ((unhide HB11).trans (b12.mono (unhide HB11).size))
  have HA12 := hide ((unhide HA11).below b12)
  have HT12 := hide ((unhide HT11).below b12)
  have HG12 := hide ((unhide HG11).carry b12)
  have HRy := hide ry
  have HSy := hide sy
  obtain ⟨ady, cpy, rfl⟩ := row_slice (show World.ownsRow _ _ _ _ _ _ _ from ry)
  clear b12 a4 a6 HB11 HA11 HT11 HG11 ry sy
  have a4 := (unhide HA12).a
  have a6 := (unhide HA12).t
  go_wp2_with fail
  refine (past_keys (unhide HT12) a t t0 t1).mono ?_
  rintro e W13 ⟨vy, my, rfl, ry, sy, b13⟩
  obtain rfl : ly = my := key_one (unhide HSy) sy
  have HB13 := hide ((unhide HB12).trans (b13.mono (unhide HB12).size))
  have HA13 := hide ((unhide HA12).below b13)
  have HT13 := hide ((unhide HT12).below b13)
  have HG13 := hide ((unhide HG12).carry b13)
  have HRyx := hide (ownsRow_carry (unhide HRy) b13)
  have HVy := hide ry
  obtain ⟨bdy, dpy, rfl⟩ := row_slice (show World.ownsRow _ _ _ _ _ _ _ from ry)
  clear b13 a4 a6 HB12 HA12 HT12 HG12 ry sy HRy
  generalize keysE txs.length known a t = ey at *
  go_upto_region 17 with fail
  obtain ⟨adr, cpr, hr0⟩ := (unhide HT13).q.refP.len
  obtain ⟨hp0, hp1⟩ := PastW.cells (show PastW _ _ _ _ _ _ _ from (unhide HT13).p)
  have HS0 : Hid (TelH P.b P.o R txs.length cpr known adr W13 W13) := ⟨(unhide HT13).q.c1, hp0, hp1, hr0, Below.refl _ _⟩
  clear hr0 hp0 hp1
  generalize txs.length = n at *
  go_region_held3 (fun x => x.cell? ⟨R, 1, none⟩ = some (.int .i64 known) ∧ x.cell? ⟨P.b, P.o, none⟩ = some (.int .i64 (n : Nat)) ∧ x.cell? ⟨P.b, P.o + 1, none⟩ = some (.int .i64 known) ∧ x.cell? ⟨R, 0, none⟩ = some (.slice adr n cpr) ∧ Below W13.heap.size W13 x)
    (first | exact TelH.carry (unhide HS0) (below_drew _) | exact hh2 | exact hh1 | assumption)
    (first
      | (go_at_call 25; refine (same_keys_own (ownsRow_carry (unhide HVy) hh1.2.2.2.2) (ownsRow_carry (unhide HRyx) hh1.2.2.2.2)).mono ?_; rintro e w2 ⟨rfl, b2⟩; have hh2 := hh1.carry b2)
      | (go_at_call 10; refine (bare_err ey _ ((unhide HG13).carry (below_drew _))).mono ?_; rintro e w1 ⟨rfl, b1⟩; have hh1 := (TelH.carry (unhide HS0) (below_drew _)).carry b1)
      | (go_at_call 58; refine (past_Now hh2.2.1).mono ?_; rintro e w3 ⟨rfl, rfl⟩)
      | (go_at_call 43; refine (rp_Now hh2.2.2.2.1).mono ?_; rintro e w4 ⟨rfl, rfl⟩)
      | (go_at_call 59; refine (past_Known hh2.2.2.1).mono ?_; rintro e w5 ⟨rfl, rfl⟩))
  all_goals
    have HBz := hide ((unhide HB13).trans (hh2.2.2.2.2.mono (unhide HB13).size))
    clear hh1 hh2 b1 b2
    go_wp2
    go_ret
    exact ⟨by simp, unhide HBz⟩

end Go.Proofs.YtfoojmflbifkpaaGreatDoor

/- Both pasts beside each other, as the law carries them: each commits, each forgets. -/
namespace Go.Proofs.YtfoojmflbifkpaaGreatDoor
open Go.RowKit Go.Maps

def oneO : Fop := ⟨1, 7, ⟨#[]⟩, 0, 1, 2, ⟨#[120]⟩⟩

/-- Both pasts in memory, and the one change. -/
structure PpI (w y : World) (txs : List (List Fop)) (known : Int) (F G : Nat → Prop) : Prop where
  two : TwoP y (pl0 w.heap.size) (w.heap.size + 1) txs known F G
  k0 : 0 ≤ known
  k1 : known ≤ (txs.length : Int)
  d : ∀ i, G i → ¬ F i
  fge : ∀ i, F i → i = w.heap.size ∨ w.heap.size + 3 ≤ i
  gge : ∀ i, G i → i = w.heap.size + 1 ∨ w.heap.size + 3 ≤ i
  low : Below w.heap.size w y
  one : OpsAt y (w.heap.size + 2) 0 [oneO]

def PpE (w y : World) : Prop := ∃ txs known F G, PpI w y txs known F G

theorem PpI.below {w y y' : World} {txs : List (List Fop)} {known : Int} {F G : Nat → Prop} (h : PpI w y txs known F G) (hb : Below y.heap.size y y') : PpI w y' txs known F G :=
  ⟨h.two.below hb, h.k0, h.k1, h.d, h.fge, h.gge, h.low.trans (hb.mono h.low.size), h.one.carry hb⟩
theorem PpE.below {w y y' : World} (h : PpE w y) (hb : Below y.heap.size y y') : PpE w y' := by
  obtain ⟨_, _, _, _, h⟩ := h
  exact ⟨_, _, _, _, h.below hb⟩
theorem PpE.low {w y : World} (h : PpE w y) : Below w.heap.size w y := by
  obtain ⟨_, _, _, _, h⟩ := h
  exact h.low

/-- Both went on. -/
theorem PpI.step {w y y1 y2 : World} {txs txs' : List (List Fop)} {known known' : Int} {F G F' G' : Nat → Prop} (h : PpI w y txs known F G) (hp : PastT y1 (pl0 w.heap.size) txs' known' F') (hg : Grew y F F' y1) (hq : RefQ y2 (w.heap.size + 1) txs' known' G') (hG : ∀ i, G' i → G i ∨ y1.heap.size ≤ i) (hk : Keeps (fun j => j = w.heap.size + 1) y1 y2) (h0 : 0 ≤ known') (h1 : known' ≤ (txs'.length : Int)) : PpI w y2 txs' known' F' G' := by
  have hy : w.heap.size + 2 < y.heap.size := h.one.1
  have hz := hg.2.size
  have hF1 : ∀ i, F' i → i ≠ w.heap.size + 1 := fun i hi e => by
    subst e
    rcases hg.1 _ hi with q | q
    · exact h.d _ h.two.q.r q
    · omega
  have hw := h.low.size
  have hFo : ¬ F (w.heap.size + 2) := fun q => by
    rcases h.fge _ q with q | q <;> omega
  refine ⟨⟨hp.keeps hk hF1, hq⟩, h0, h1, fun i hi q => ?_, fun i hi => ?_, fun i hi => ?_, ?_, opsAt_keeps (opsAt_keeps h.one hg.2 hFo) hk (by show ¬ w.heap.size + 2 = w.heap.size + 1; omega)⟩
  · have hlt := PastW.lt hp i q
    rcases hG i hi with r | r
    · rcases hg.1 i q with s | s
      · exact h.d i r s
      · have := h.two.q.lt i r
        omega
    · omega
  · rcases hg.1 i hi with s | s
    · exact h.fge i s
    · right; omega
  · rcases hG i hi with s | s
    · exact h.gge i s
    · right; omega
  · refine (h.low.trans (keeps_below hg.2 (fun i hi => ?_) hw)).trans (keeps_below hk (fun i hi => ?_) (by omega))
    · rcases h.fge i hi with q | q <;> omega
    · omega

theorem says_ok (l : List Fop) (v : Value) (w : World) (hs : ∀ x, x ∈ l → Small x) (h : ReadsOps w v l) (ht : Tab w) (hl : okL l) : ∀ W, Below w.heap.size w W → RefSays v ⟨(opsL l).toArray⟩ 0 (-1) W := fun W hW => by
  obtain ⟨ad, cap, rfl, h'⟩ := h.carry hW
  rcases h' with rfl | ⟨b, off, rfl, h'⟩
  · exact absurd hl.1 (by simp)
  · exact (refw_main l l.length b off cap W ⟨hl.1, hl.2.1⟩ hs h' (ht.carry hW) (Nat.le_refl _) (fun j hj _ => hl.2.2 _ (List.getElem_mem hj)) (fun hj => absurd hj (Nat.lt_irrefl _))).mono fun e w' ⟨hb, hr⟩ => by
      rcases hr with ⟨_, he⟩ | ⟨hlt, _⟩
      · exact ⟨he, hb⟩
      · exact absurd hlt (Nat.lt_irrefl _)
theorem says_bad (l : List Fop) (v : Value) (w : World) (hs : ∀ x, x ∈ l → Small x) (h : ReadsOps w v l) (ht : Tab w) (hl : 1 ≤ l.length ∧ l.length ≤ 8) (i0 : Nat) (hb : FirstBad l i0) : ∀ W, Below w.heap.size w W → RefSays v ⟨#[]⟩ 1 i0 W := fun W hW => by
  obtain ⟨ad, cap, rfl, h'⟩ := h.carry hW
  rcases h' with rfl | ⟨b, off, rfl, h'⟩
  · simp at hl
  · obtain ⟨b1, b2, b3⟩ := hb
    exact (refw_main l i0 b off cap W hl hs h' (ht.carry hW) (Nat.le_of_lt b1) (fun j hj hji => b3 j hji) (fun _ => b2)).mono fun e w' ⟨hb, hr⟩ => by
      rcases hr with ⟨heq, _⟩ | ⟨_, he⟩
      · exact absurd b1 (by omega)
      · exact ⟨he, hb⟩

/-- What the three calls of one transaction do. -/
def CommitSays (w : World) (v : Value) (F : Nat → Prop) (y : World) : Prop :=
  Calls Tryz.prog 7 #[.pointer (some ⟨w.heap.size, 0, none⟩), v] y fun e y1 => ∃ u, e = .returned u ∧ Keeps F y y1 ∧
    Calls Tryz.prog 8 #[.pointer (some ⟨w.heap.size + 1, 0, none⟩), v] y1 fun e2 y2 => ∃ n i : Int, e2 = .returned (.agg #[.int .i64 n, .int .i64 i]) ∧ Keeps (fun j => j = w.heap.size + 1) y1 y2 ∧ PpE w y2 ∧
      Calls Tryz.prog 6 #[u, .agg #[.int .i64 n, .int .i64 i]] y2 fun e3 y3 => e3 = .returned (.bool true) ∧ Below y2.heap.size y2 y3

theorem two_commit {w y : World} {txs : List (List Fop)} {known : Int} {F G : Nat → Prop} (h : PpI w y txs known F G) (ht : Tab w) (hg : ErrorType w) (l : List Fop) (v : Value) (hn : l.length < 1099511627776) (hs : ∀ x, x ∈ l → Small x) (hr : ReadsOps y v l) (hv : l ≠ [] → ∀ b o n c, v = .slice (some ⟨b, o, none⟩) n c → ¬ F b ∧ b ≠ w.heap.size + 1) : CommitSays w v F y := by
  have hty := ht.carry h.low
  unfold CommitSays
  by_cases hl : 1 ≤ l.length ∧ l.length ≤ 8
  · rcases first_bad l with hok | ⟨i0, hb⟩
    · have hokl : okL l := ⟨hl.1, hl.2, hok⟩
      by_cases hf : txs.length < 150
      · obtain ⟨ad, cap, rfl, hO⟩ := hr
        rcases hO with rfl | ⟨b, off, rfl, hO⟩
        · simp at hl
        obtain ⟨v1, v2⟩ := hv (by rintro rfl; simp at hl) b off l.length cap rfl
        refine (commit_txs h.two.p l b off cap hokl hO v1 hty hf h.k1).mono ?_
        rintro e y1 ⟨rfl, F', p1, g1⟩
        refine ⟨_, rfl, g1.2, ?_⟩
        have hO1 := opsAt_keeps hO g1.2 v1
        have q1 := h.two.q.keeps g1.2 h.d
        have hl1 : Below w.heap.size w y1 := h.low.trans (keeps_below g1.2 (fun i hi => by rcases h.fge i hi with q | q <;> omega) h.low.size)
        refine (rp_commit_ok (cap := cap) q1 hO1 hokl (says_ok l _ y1 hs ⟨_, cap, rfl, .inr ⟨b, off, rfl, hO1⟩⟩ (ht.carry hl1) hokl) hf).mono ?_
        rintro e y2 ⟨rfl, ⟨G', q2, hG⟩, k2⟩
        have hn2 : PpI w y2 (txs ++ [l]) known F' G' := h.step p1 g1 q2 hG k2 h.k0 (by have := h.k1; rw [List.length_append]; simp; omega)
        exact ⟨0, -1, rfl, k2, ⟨_, _, _, _, hn2⟩, law_is _ 0 (-1) y2 (fun W _ => Place_nil W)⟩
      · have hf' : txs.length = 150 := by have := h.two.q.most; omega
        refine (commit_full h.two.p l v hs hr hokl hty (by omega)).mono ?_
        rintro e y1 ⟨rfl, b1⟩
        have h1 := h.below b1
        refine ⟨_, rfl, Keeps.of_below F b1 (Nat.le_refl _), ?_⟩
        refine (rp_commit_full h1.two.q.refP (says_ok l v y1 hs (hr.carry b1) (ht.carry h1.low) hokl) hf').mono ?_
        rintro e y2 ⟨rfl, b2⟩
        have h2 := h1.below b2
        exact ⟨12, -1, rfl, Keeps.of_below _ b2 (Nat.le_refl _), ⟨_, _, _, _, h2⟩, law_is _ 12 (-1) y2 (fun W hW => Place_errno 12 W ((hg.carry h2.low).carry hW))⟩
    · refine (commit_err y (pl0 w.heap.size) l i0 v hs hr hl hb).mono ?_
      rintro e y1 ⟨u, rfl, ⟨b, rfl, c0, c1⟩, b1⟩
      have h1 := h.below b1
      refine ⟨_, rfl, Keeps.of_below F b1 (Nat.le_refl _), ?_⟩
      refine (rp_commit_err (says_bad l v y1 hs (hr.carry b1) (ht.carry h1.low) hl i0 hb) (by decide)).mono ?_
      rintro e y2 ⟨rfl, b2⟩
      have h2 := h1.below b2
      exact ⟨1, i0, rfl, Keeps.of_below _ b2 (Nat.le_refl _), ⟨_, _, _, _, h2⟩, law_is _ 1 i0 y2 (fun W hW => Place_at 1 i0 b W (there_yet (there_yet c0 b2) hW) (there_yet (there_yet c1 b2) hW) ((hg.carry h2.low).carry hW))⟩
  · refine (commit_limit y (pl0 w.heap.size) l v hn hr hl).mono ?_
    rintro e y1 ⟨rfl, rfl⟩
    refine ⟨_, rfl, Keeps.of_below F (Below.refl _ _) (Nat.le_refl _), ?_⟩
    refine (rp_commit_err (s := ⟨#[]⟩) (n := 4) (i := -1) (fun W hW => refw_limit l v W hn (hr.carry hW) hl) (by decide)).mono ?_
    rintro e y2 ⟨rfl, b2⟩
    have h2 := h.below b2
    exact ⟨4, -1, rfl, Keeps.of_below _ b2 (Nat.le_refl _), ⟨_, _, _, _, h2⟩, law_is _ 4 (-1) y2 (fun W hW => Place_errno 4 W ((hg.carry h2.low).carry hW))⟩

/-- A transaction that was handed in. -/
theorem two_commit_in {w y : World} {txs : List (List Fop)} {known : Int} {F G : Nat → Prop} (h : PpI w y txs known F G) (ht : Tab w) (hg : ErrorType w) (l : List Fop) (v : Value) (hn : l.length < 1099511627776) (hs : ∀ x, x ∈ l → Small x) (hr : ReadsOps w v l) : CommitSays w v F y := by
  refine two_commit h ht hg l v hn hs (hr.carry h.low) (fun hne b o n c e => ?_)
  obtain ⟨ad, cap, rfl, hO⟩ := hr
  rcases hO with q | ⟨b', o', rfl, hO⟩
  · exact absurd q hne
  · injection e with e1
    cases e1
    have := hO.1
    refine ⟨fun q => ?_, by omega⟩
    rcases h.fge _ q with r | r <;> omega
/-- The one change. -/
theorem two_commit_one {w y : World} {txs : List (List Fop)} {known : Int} {F G : Nat → Prop} (h : PpI w y txs known F G) (ht : Tab w) (hg : ErrorType w) : CommitSays w (.slice (some ⟨w.heap.size + 2, 0, none⟩) 1 1) F y := by
  refine two_commit h ht hg [oneO] _ (by decide) (fun x hx => ?_) ⟨_, 1, rfl, .inr ⟨_, _, rfl, h.one⟩⟩ (fun _ b o n c e => ?_)
  · obtain rfl := List.mem_singleton.1 hx
    exact ⟨by unfold maxLen; decide, by unfold maxLen; decide⟩
  · injection e with e1
    cases e1
    refine ⟨fun q => ?_, by omega⟩
    rcases h.fge _ q with r | r <;> omega

/-- What the three calls of one forgetting do. -/
def ForgetSays (w : World) (at_ : Int) (F : Nat → Prop) (y : World) : Prop :=
  Calls Tryz.prog 11 #[.pointer (some ⟨w.heap.size, 0, none⟩), .int .i64 at_] y fun e y1 => ∃ u, e = .returned u ∧ Keeps F y y1 ∧
    Calls Tryz.prog 12 #[.pointer (some ⟨w.heap.size + 1, 0, none⟩), .int .i64 at_] y1 fun e2 y2 => ∃ n : Int, e2 = .returned (.int .i64 n) ∧ Keeps (fun j => j = w.heap.size + 1) y1 y2 ∧ PpE w y2 ∧
      Calls Tryz.prog 10 #[u, .int .i64 n] y2 fun e3 y3 => e3 = .returned (.bool true) ∧ Below y2.heap.size y2 y3

theorem two_forget {w y : World} {txs : List (List Fop)} {known : Int} {F G : Nat → Prop} (h : PpI w y txs known F G) (hg : ErrorType w) (at_ : Int) : ForgetSays w at_ F y := by
  unfold ForgetSays
  obtain ⟨ad, cap, c0⟩ := h.two.q.refP.len
  have c1 := h.two.q.c1
  by_cases hb : at_ < 0 ∨ (txs.length : Int) < at_ ∨ at_ < known
  · obtain ⟨p0, p1⟩ := PastW.cells h.two.p
    refine (forget_bad p0 p1 at_ hb).mono ?_
    rintro e y1 ⟨rfl, rfl⟩
    refine ⟨_, rfl, Keeps.of_below F (Below.refl _ _) (Nat.le_refl _), ?_⟩
    refine (rp_forget_bad c0 c1 at_ hb).mono ?_
    rintro e y2 ⟨rfl, rfl⟩
    exact ⟨_, rfl, Keeps.of_below _ (Below.refl _ _) (Nat.le_refl _), ⟨_, _, _, _, h⟩, bare_err _ _ (hg.carry h.low)⟩
  · have hm := h.two.q.most
    refine (forget_ok h.two.p at_ (by omega) (by omega) (by omega) (by omega)).mono ?_
    rintro e y1 ⟨rfl, F', p1, g1⟩
    refine ⟨_, rfl, g1.2, ?_⟩
    have q1 := h.two.q.keeps g1.2 h.d
    obtain ⟨ad, cap, c0⟩ := q1.refP.len
    refine (rp_forget_ok c0 q1.c1 q1.f1 at_ (by omega) (by omega) (by omega)).mono ?_
    rintro e y2 ⟨rfl, rfl⟩
    have k2 := keeps_set y1 (w.heap.size + 1) 1 (.int .i64 at_)
    have hn2 := h.step p1 g1 (q1.forgot at_) (fun i hi => .inl hi) k2 (by omega) (by omega)
    exact ⟨0, rfl, k2, ⟨_, _, _, _, hn2⟩, bare_err 0 _ (hg.carry hn2.low)⟩

/-- How both begin. -/
theorem pp_start (w : World) : PpI w (((w.alloc (.cells #[.int .i64 0, .int .i64 0, .map none] 26)).alloc (.cells #[.slice none 0 0, .int .i64 0] 30)).alloc (.cells #[.int .i64 1, .int .i64 7, .string ⟨#[]⟩, .int .i64 0, .int .i64 1, .int .i64 2, .string ⟨#[120]⟩] 36)) [] 0 (fun i => i = w.heap.size) (fun i => i = w.heap.size + 1) := by
  have b1 := below_box w (.cells #[.int .i64 0, .int .i64 0, .map none] 26)
  have hp := past_new w
  have e0 : pastF (pl0 w.heap.size) none [] (fun _ _ => False) = fun i => i = w.heap.size := by
    funext i
    simp [pastF]
  rw [e0] at hp
  have s1 : (w.alloc (.cells #[.int .i64 0, .int .i64 0, .map none] 26)).heap.size = w.heap.size + 1 := by simp
  generalize w.alloc (.cells #[.int .i64 0, .int .i64 0, .map none] 26) = w1 at *
  have b2 := below_box w1 (.cells #[.slice none 0 0, .int .i64 0] 30)
  have r0 : (w1.alloc (.cells #[.slice none 0 0, .int .i64 0] 30)).cell? ⟨w.heap.size + 1, 0, none⟩ = some (.slice none 0 0) := by rw [← s1]; simp
  have r1 : (w1.alloc (.cells #[.slice none 0 0, .int .i64 0] 30)).cell? ⟨w.heap.size + 1, 1, none⟩ = some (.int .i64 0) := by rw [← s1]; simp
  have t0 : (w1.alloc (.cells #[.slice none 0 0, .int .i64 0] 30)).frozen? ⟨w.heap.size + 1, 0, none⟩ = false := by rw [← s1]; simp
  have t1 : (w1.alloc (.cells #[.slice none 0 0, .int .i64 0] 30)).frozen? ⟨w.heap.size + 1, 1, none⟩ = false := by rw [← s1]; simp
  have s2 : (w1.alloc (.cells #[.slice none 0 0, .int .i64 0] 30)).heap.size = w.heap.size + 2 := by simp [s1]
  have hp2 := PastW.below hp b2
  generalize w1.alloc (.cells #[.slice none 0 0, .int .i64 0] 30) = w2 at *
  have b3 := below_box w2 (.cells #[.int .i64 1, .int .i64 7, .string ⟨#[]⟩, .int .i64 0, .int .i64 1, .int .i64 2, .string ⟨#[120]⟩] 36)
  have hp3 := PastW.below hp2 b3
  have hq : RefQ w2 (w.heap.size + 1) [] 0 (fun i => i = w.heap.size + 1) := ⟨rfl, .inl ⟨rfl, r0⟩, r1, t0, t1, by simp, by simp, fun i hi => by omega⟩
  refine ⟨⟨?_, hq.below b3⟩, Int.le_refl _, by simp, fun i hi q => by omega, fun i hi => .inl hi, fun i hi => .inl hi, (b1.trans (b2.mono (by omega))).trans (b3.mono (by omega)), ?_⟩
  · exact PastW.congr hp3 (fun k c _ _ t => by unfold noneS refI refS; rw [List.take_nil]; rfl)
  · refine ⟨by simp [s2], fun k hk => ?_⟩
    obtain rfl : k = 0 := by have : k < 1 := hk; omega
    rw [← s2]
    simp [oneO]

end Go.Proofs.YtfoojmflbifkpaaGreatDoor
