/- Texts of one proof, one behind the other. -/
import Derived.Test.YtbloahcmakjchaaGreatDoorBn
import Derived.Test.YtbloahcmakjchaaGreatDoorBu
import Derived.Test.YtbloahcmakjchaaGreatDoorBv
import Derived.Deep.DeepCutAuto

/- PastForgets: two pasts in memory, one of which forgets. -/
namespace Go.Proofs.YtbloahcmakjchaaGreatDoor
open Go.RowKit Go.Maps

structure TwI (w : World) (na nb bx base : Nat) (k : Ky) (nowA nowB known : Int) (SA SB : Ky → Int → Int → ByteArray) (Fa Fb : Nat → Prop) (u10 : Value) (ts : List Value) (W : World) : Prop where
  pa : PastW W (pl0 na) nowA 0 (24 * nowA) SA Fa
  pb : PastW W (pl0 nb) nowB known (24 * nowB) SB Fb
  apart : ∀ i, Fa i → ¬ Fb i
  oa : ∀ i, Fa i → w.heap.size ≤ i ∧ i ≠ bx
  ob : ∀ i, Fb i → w.heap.size ≤ i ∧ i ≠ bx
  box : BoxK bx k W
  tab : Tab w
  low : Below w.heap.size w W
  txs : RowL W base u10 ts
  txsA : Out Fa u10
  txsB : Out Fb u10
  ops : ∀ v, v ∈ ts → Out Fa v ∧ Out Fb v ∧ ∃ l, okL l ∧ RowO W base v l
  bW : bx < W.heap.size

theorem TwI.below {w : World} {na nb bx base : Nat} {k : Ky} {nowA nowB known : Int} {SA SB : Ky → Int → Int → ByteArray} {Fa Fb : Nat → Prop} {u10 : Value} {ts : List Value} {W W' : World} (h : TwI w na nb bx base k nowA nowB known SA SB Fa Fb u10 ts W) (hb : Below W.heap.size W W') : TwI w na nb bx base k nowA nowB known SA SB Fa Fb u10 ts W' :=
  ⟨h.pa.below hb, h.pb.below hb, h.apart, h.oa, h.ob, h.box.below hb, h.tab, h.low.trans (hb.mono h.low.size), h.txs.carry hb, h.txsA, h.txsB, fun v hv => by
    obtain ⟨q1, q2, l, a, b⟩ := h.ops v hv
    exact ⟨q1, q2, l, a, b.carry hb⟩, Nat.lt_of_lt_of_le h.bW hb.size⟩

theorem TwI.stepA {w : World} {na nb bx base : Nat} {k : Ky} {nowA nowA' nowB known : Int} {SA SA' SB : Ky → Int → Int → ByteArray} {Fa Fb : Nat → Prop} {u10 : Value} {ts : List Value} {W W' : World} (h : TwI w na nb bx base k nowA nowB known SA SB Fa Fb u10 ts W) (hc : Changed W (pl0 na) nowA' 0 (24 * nowA') SA' Fa W') : ∃ Fa', TwI w na nb bx base k nowA' nowB known SA' SB Fa' Fb u10 ts W' := by
  obtain ⟨F', p, g⟩ := hc
  have hk := g.2
  refine ⟨F', p, h.pb.keeps hk (fun i hi q => h.apart i q hi), fun i hi q => ?_, fun i hi => ?_, h.ob, h.box.keeps hk (fun q => (h.oa _ q).2 rfl), h.tab, h.low.trans (keeps_below hk (fun i q => (h.oa i q).1) h.low.size), ownsRow_keeps h.txs hk h.txsA, h.txsA.grew h.txs g, h.txsB, fun v hv => ?_, Nat.lt_of_lt_of_le h.bW hk.size⟩
  · rcases g.1 i hi with r | r
    · exact h.apart i r q
    · have := h.pb.lt i q
      omega
  · rcases g.1 i hi with r | r
    · exact h.oa i r
    · have := h.low.size
      have := h.bW
      exact ⟨by omega, by omega⟩
  · obtain ⟨q1, q2, l, a, b⟩ := h.ops v hv
    exact ⟨q1.grew b g, q2, l, a, ownsRow_keeps b hk q1⟩

theorem TwI.stepB {w : World} {na nb bx base : Nat} {k : Ky} {nowA nowB nowB' known known' : Int} {SA SB SB' : Ky → Int → Int → ByteArray} {Fa Fb : Nat → Prop} {u10 : Value} {ts : List Value} {W W' : World} (h : TwI w na nb bx base k nowA nowB known SA SB Fa Fb u10 ts W) (hc : Changed W (pl0 nb) nowB' known' (24 * nowB') SB' Fb W') : ∃ Fb', TwI w na nb bx base k nowA nowB' known' SA SB' Fa Fb' u10 ts W' := by
  obtain ⟨F', p, g⟩ := hc
  have hk := g.2
  refine ⟨F', h.pa.keeps hk (fun i hi q => h.apart i hi q), p, fun i hi q => ?_, h.oa, fun i hi => ?_, h.box.keeps hk (fun q => (h.ob _ q).2 rfl), h.tab, h.low.trans (keeps_below hk (fun i q => (h.ob i q).1) h.low.size), ownsRow_keeps h.txs hk h.txsB, h.txsA, h.txsB.grew h.txs g, fun v hv => ?_, Nat.lt_of_lt_of_le h.bW hk.size⟩
  · rcases g.1 i q with r | r
    · exact h.apart i hi r
    · have := h.pa.lt i hi
      omega
  · rcases g.1 i hi with r | r
    · exact h.ob i r
    · have := h.low.size
      have := h.bW
      exact ⟨by omega, by omega⟩
  · obtain ⟨q1, q2, l, a, b⟩ := h.ops v hv
    exact ⟨q1, q2.grew b g, l, a, ownsRow_keeps b hk q2⟩

theorem PastW.cells {w : World} {P : Pl} {now known bd : Int} {S : Ky → Int → Int → ByteArray} {F : Nat → Prop} (h : PastW w P now known bd S F) : w.cell? ⟨P.b, P.o, none⟩ = some (.int .i64 now) ∧ w.cell? ⟨P.b, P.o + 1, none⟩ = some (.int .i64 known) := by
  obtain ⟨_, _, _, _, p, _⟩ := h
  exact ⟨p.c0, p.c1⟩

/-- Both pasts let one transaction be. -/
theorem TwI.commits {w : World} {na nb bx base : Nat} {k : Ky} {now known : Int} {S : Ky → Int → Int → ByteArray} {Fa Fb : Nat → Prop} {u10 : Value} {ts : List Value} {W : World} (h : TwI w na nb bx base k now now known S S Fa Fb u10 ts W) {v : Value} (hv : v ∈ ts) (h0 : 0 ≤ now) (h1 : now < 150) (hk : known ≤ now) :
    ∃ g cap n, v = .slice (some ⟨g, 0, none⟩) n cap ∧ ∃ S', Calls Tryz.prog 13 #[.pointer (some ⟨na, 0, none⟩), v] W fun e y => e = .returned .nilIface ∧ (∃ Fa', TwI w na nb bx base k (now + 1) now known S' S Fa' Fb u10 ts y) ∧
      ∀ z, Below y.heap.size y z → Calls Tryz.prog 13 #[.pointer (some ⟨nb, 0, none⟩), v] z fun e x => e = .returned .nilIface ∧ ∃ Fa' Fb', TwI w na nb bx base k (now + 1) (now + 1) known S' S' Fa' Fb' u10 ts x := by
  obtain ⟨hOa, hOb, l, hl, hr⟩ := h.ops v hv
  have hne : l ≠ [] := fun e => by
    have := hl.1
    rw [e] at this
    simp at this
  obtain ⟨g, cap, rfl, hat, _⟩ := hr.at hne
  refine ⟨g, cap, _, rfl, sayL (nextS S now) (now + 1) l, (commit_ok h.pa l g 0 cap hl hat (hOa g rfl) (h.tab.carry h.low) h0 h1 (by omega)).mono ?_⟩
  rintro e y ⟨rfl, hc⟩
  have hcK := hc
  obtain ⟨Fa', hA⟩ := h.stepA hc
  refine ⟨rfl, ⟨Fa', hA⟩, fun z hz => ?_⟩
  have hAz := hA.below hz
  have hry : RowO y base (.slice (some ⟨g, 0, none⟩) l.length cap) l := by
    obtain ⟨_, _, gr⟩ := hcK
    exact ownsRow_keeps hr gr.2 hOa
  obtain ⟨_, _, e2, hat2, _⟩ := (hry.carry hz).at hne
  injection e2 with e2 _ _
  injection e2 with e2
  injection e2 with e2
  subst e2
  refine (commit_ok hAz.pb l g 0 cap hl hat2 (hOb g rfl) (hAz.tab.carry hAz.low) h0 h1 hk).mono ?_
  rintro e x ⟨rfl, hc2⟩
  obtain ⟨Fb', hB⟩ := hAz.stepB hc2
  exact ⟨rfl, Fa', Fb', hB⟩

set_option maxRecDepth 100000 in
set_option maxHeartbeats 2000000 in
theorem pieces_bad {w : World} {P : Pl} {now known bd : Int} {S : Ky → Int → Int → ByteArray} {F : Nat → Prop} (h : PastW w P now known bd S F) (k : Ky) (at_ : Int) (e : Int) (he : countErr now known at_ = e) (hne : e ≠ 0) :
    Calls Tryz.prog 25 #[.pointer (some ⟨P.b, P.o, none⟩), .agg #[.int .i64 k.kind, .int .i64 k.a, .string k.word, .int .i64 k.b], .int .i64 at_] w fun r w' => r = .returned (.tuple #[.slice none 0 0, .iface 23 (.int .i64 e)]) ∧ Below w.heap.size w w' := by
  have HB := hide (below_box w (.cells #[.int .i64 k.kind, .int .i64 k.a, .string k.word, .int .i64 k.b] 43))
  obtain ⟨c0, c1⟩ := (h.below (unhide HB)).cells
  have HC := hide (past_count c0 c1 at_)
  have hv : errV (countErr now known at_) = .iface 23 (.int .i64 e) := by
    rw [he]
    unfold errV
    rw [if_neg hne]
  rw [hv] at HC
  clear h c0 c1 hv he hne
  go_enter Tryz.func25, Tryz.ntmps25
  go_wp2_with fail
  refine (unhide HC).mono ?_
  rintro r W1 ⟨rfl, rfl⟩
  go_wp2
  go_ret2
  exact ⟨rfl, unhide HB⟩

end Go.Proofs.YtbloahcmakjchaaGreatDoor

/- PastForgets: walked. -/
namespace Go.Proofs.YtbloahcmakjchaaGreatDoor
open Go.RowKit Go.Maps

def NumsAt (w : World) (ad : Option Addr) (l : List Int) : Prop := ∀ j, (hj : j < l.length) → ∃ b o, ad = some ⟨b, o, none⟩ ∧ w.cell? ⟨b, o + j, none⟩ = some (.int .i64 l[j])

theorem there_at {w w' : World} {p : Addr} {v : Value} (h : w.cell? p = some v) (hb : Below w.heap.size w w') : w'.cell? p = some v := (hb.cell (lt_of_cell h)).trans h

theorem row_most {w : World} {base : Nat} {e : TypeId} {size : Nat} {v : Value} {n : Nat} {xs : List Value} (h : w.ownsRow base e size v n xs) : n ≤ 9223372036854775807 := by
  rcases h.2 with ⟨_, h0⟩ | ⟨_, cap, _, _, _, _, h1, h2, _⟩
  · omega
  · unfold maxLen at h2
    omega

/-- Keys that are the same ones, in order, are one list. -/
theorem keys_one : ∀ (L M : List Ky), L.Pairwise (fun a b => cfY a b < 0) → M.Pairwise (fun a b => cfY a b < 0) → (∀ k, k ∈ L ↔ k ∈ M) → L = M
  | [], [], _, _, _ => rfl
  | [], b :: M, _, _, h => by have := (h b).2 (by simp); cases this
  | a :: L, [], _, _, h => by have := (h a).1 (by simp); cases this
  | a :: L, b :: M, hL, hM, h => by
    obtain ⟨l1, l2⟩ := List.pairwise_cons.1 hL
    obtain ⟨m1, m2⟩ := List.pairwise_cons.1 hM
    have e : a = b := by
      rcases List.mem_cons.1 ((h a).1 (by simp)) with q | q
      · exact q
      · rcases List.mem_cons.1 ((h b).2 (by simp)) with r | r
        · exact r.symm
        · have x := m1 a q
          have y := l1 b r
          have z := cfY_turn a b
          omega
    subst e
    have z : cfY a a = 0 := cfY_zero.2 rfl
    rw [keys_one L M l2 m2 (fun k => ?_)]
    constructor
    · intro q
      rcases List.mem_cons.1 ((h k).1 (by simp [q])) with r | r
      · subst r
        have := l1 k q
        omega
      · exact r
    · intro q
      rcases List.mem_cons.1 ((h k).2 (by simp [q])) with r | r
      · subst r
        have := m1 k q
        omega
      · exact r

/-- Where a row of keys lies. -/
theorem RowY.cells {W : World} {base : Nat} {v : Value} {L : List Ky} (h : RowY W base v L) : ∃ g ad c, v = .slice ad L.length c ∧ ∀ j, (hj : j < L.length) → ad = some ⟨g, 0, none⟩ ∧ W.cell? ⟨g, j * 4, none⟩ = some (.int .i64 L[j].kind) ∧ W.cell? ⟨g, j * 4 + 1, none⟩ = some (.int .i64 L[j].a) ∧ W.cell? ⟨g, j * 4 + 2, none⟩ = some (.string L[j].word) ∧ W.cell? ⟨g, j * 4 + 3, none⟩ = some (.int .i64 L[j].b) := by
  rcases (show World.ownsRow _ _ _ _ _ _ _ from h).2 with ⟨h1, h2⟩ | ⟨g, cap, cur, hv, _, hh, _, _, _, h6⟩
  · exact ⟨0, none, 0, by rw [h1, h2], fun j hj => by omega⟩
  · refine ⟨g, _, cap, hv, fun j hj => ⟨rfl, ?_⟩⟩
    have key : ∀ i, i < 4 → W.cell? ⟨g, j * 4 + i, none⟩ = some ((encY L[j])[i]!) := fun i hi => by
      have e := encYs_get L (j * 4 + i) (by omega)
      rw [show (j * 4 + i) / 4 = j by omega, show (j * 4 + i) % 4 = i by omega] at e
      unfold World.cell?
      simp only [hh]
      have q : cur.toList[j * 4 + i]? = (encYs L)[j * 4 + i]? := by rw [← h6, List.getElem?_take_of_lt (by omega)]
      rw [e] at q
      simp [hj] at q
      simpa using q
    exact ⟨key 0 (by omega), key 1 (by omega), key 2 (by omega), key 3 (by omega)⟩

/-- Two new pasts, a key's box behind them. -/
theorem TwI.begin {w W : World} (k : Ky) (ht : Tab w) (hb : Below ((w.alloc (.cells #[.int .i64 0, .int .i64 0, .map none] 37)).alloc (.cells #[.int .i64 0, .int .i64 0, .map none] 37)).heap.size ((w.alloc (.cells #[.int .i64 0, .int .i64 0, .map none] 37)).alloc (.cells #[.int .i64 0, .int .i64 0, .map none] 37)) W) {W' : World} (hb' : Below (W.alloc (.cells #[.int .i64 k.kind, .int .i64 k.a, .string k.word, .int .i64 k.b] 43)).heap.size (W.alloc (.cells #[.int .i64 k.kind, .int .i64 k.a, .string k.word, .int .i64 k.b] 43)) W') {base : Nat} (hbs : W.heap.size < base) {u10 : Value} {ts : List Value} (htx : RowL W' base u10 ts) (hts : ∀ v, v ∈ ts → ∃ l, okL l ∧ RowO W' base v l) :
    TwI w w.heap.size (w.heap.size + 1) W.heap.size base k 0 0 0 noneS noneS (pastF (pl0 w.heap.size) none [] (fun _ _ => False)) (pastF (pl0 (w.heap.size + 1)) none [] (fun _ _ => False)) u10 ts W' := by
  have b1 := below_box w (.cells #[.int .i64 0, .int .i64 0, .map none] 37)
  have e1 : (w.alloc (.cells #[.int .i64 0, .int .i64 0, .map none] 37)).heap.size = w.heap.size + 1 := by simp
  have b2 := below_box (w.alloc (.cells #[.int .i64 0, .int .i64 0, .map none] 37)) (.cells #[.int .i64 0, .int .i64 0, .map none] 37)
  have b3 := below_box W (.cells #[.int .i64 k.kind, .int .i64 k.a, .string k.word, .int .i64 k.b] 43)
  have hs := hb.size
  have e2 : ((w.alloc (.cells #[.int .i64 0, .int .i64 0, .map none] 37)).alloc (.cells #[.int .i64 0, .int .i64 0, .map none] 37)).heap.size = w.heap.size + 2 := by simp
  rw [e2] at hs
  have hFa : ∀ i, pastF (pl0 w.heap.size) none [] (fun _ _ => False) i → i = w.heap.size := fun i q => by
    rcases q with q | q | ⟨x, hx, _⟩
    · exact q
    · cases q
    · cases hx
  have hFb : ∀ i, pastF (pl0 (w.heap.size + 1)) none [] (fun _ _ => False) i → i = w.heap.size + 1 := fun i q => by
    rcases q with q | q | ⟨x, hx, _⟩
    · exact q
    · cases q
    · cases hx
  have hp2 := past_new (w.alloc (.cells #[.int .i64 0, .int .i64 0, .map none] 37))
  rw [e1] at hp2
  have l3 : (W.alloc (.cells #[.int .i64 k.kind, .int .i64 k.a, .string k.word, .int .i64 k.b] 43)).heap.size = W.heap.size + 1 := by simp
  have hs' := hb'.size
  rw [l3] at hs'
  have outA : ∀ {e : TypeId} {size : Nat} {v : Value} {n : Nat} {xs : List Value}, W'.ownsRow base e size v n xs → Out (pastF (pl0 w.heap.size) none [] (fun _ _ => False)) v := fun h g hv q => by
    have := (World.ownsRow.lt h g hv).1
    have := hFa g q
    omega
  have outB : ∀ {e : TypeId} {size : Nat} {v : Value} {n : Nat} {xs : List Value}, W'.ownsRow base e size v n xs → Out (pastF (pl0 (w.heap.size + 1)) none [] (fun _ _ => False)) v := fun h g hv q => by
    have := (World.ownsRow.lt h g hv).1
    have := hFb g q
    omega
  refine ⟨((((past_new w).below b2).below hb).below b3).below hb', ((hp2.below hb).below b3).below hb', fun i hi q => ?_, fun i hi => ?_, fun i hi => ?_, (boxK_new W k).below hb', ht, ?_, htx, outA htx, outB htx, fun v hv => ?_, by omega⟩
  · have := hFa i hi
    have := hFb i q
    omega
  · have := hFa i hi
    omega
  · have := hFb i hi
    omega
  · have c1 := b1.trans (b2.mono b1.size)
    have c2 := c1.trans (hb.mono c1.size)
    have c3 := c2.trans (b3.mono c2.size)
    exact c3.trans (hb'.mono c3.size)
  · obtain ⟨l, a, b⟩ := hts v hv
    exact ⟨outA b, outB b, l, a, b⟩

set_option maxRecDepth 100000 in
set_option maxHeartbeats 16000000 in
theorem past_forgets (l : List SayN) (ad : Option Addr) (cap : Nat) (at_ : List Int) (ad1 : Option Addr) (m1 cap1 : Nat) (hm1 : at_.length = m1) (key : Int) (w : World) (hS : SaysAt w ad l) (hN : NumsAt w ad1 at_) (ht : Tab w) (he : ErrorType w) :
    Calls Tryz.prog 6 #[.slice ad l.length cap, .slice ad1 m1 cap1, .int .i64 key] w fun e w' => e = .returned (.bool true) ∧ Below w.heap.size w w' := by
  by_cases hl : l.length ≤ 50
  · have hl' : ¬ (50 : Int) < (l.length : Int) := by omega
    by_cases ha : m1 ≤ 60
    · have ha' : ¬ (60 : Int) < (m1 : Int) := by omega
      have HS := hide hS
      have HN := hide hN
      have HM1 := hide hm1
      have HSd := hide (said_ok w ht)
      have HT := hide ht
      have HEr := hide he
      have HKy := hide (fun W => keep_keyOf key W)
      obtain ⟨hko, hkb⟩ := kyN_ok key
      have HKo := hide hko
      have HKb := hide hkb
      clear hS ht hko hkb he hN hm1
      generalize kyN key = k at *
      go_enter Tryz.func6, Tryz.ntmps6
      go_wp2_with fail
      refine (unhide HSd).mono ?_
      rintro e W1 ⟨rfl, b1⟩
      have HB1 := hide b1
      clear b1 HSd
      go_wp2_with fail
      refine (unhide HKy _).mono ?_
      rintro e W2 ⟨rfl, b2⟩
      have HB2 := hide b2
      have hB3 : Below w.heap.size w (W2.alloc (.cells #[.int .i64 k.kind, .int .i64 k.a, .string k.word, .int .i64 k.b] 43)) := by
        have c1 := (unhide HB1).trans ((below_box W1 (.cells #[.int .i64 0, .int .i64 0, .map none] 37)).mono (unhide HB1).size)
        have c2 := c1.trans ((below_box _ (.cells #[.int .i64 0, .int .i64 0, .map none] 37)).mono c1.size)
        have c3 := c2.trans (b2.mono c2.size)
        exact c3.trans ((below_box _ _).mono c3.size)
      have HOp := hide (keep_ops l ad cap _ (by omega) ((unhide HS).carry hB3))
      clear b2 hB3
      go_wp2_with fail
      refine (unhide HOp).mono ?_
      rintro e W5 ⟨v10, ts, rfl, q1, q2, q3, q4⟩
      obtain ⟨ad10, cap10, rfl⟩ := row_slice (show World.ownsRow _ _ _ _ _ _ _ from q1)
      have HI0 := hide (TwI.begin k ((unhide HT).carry (unhide HB1)) (unhide HB2) q4 (by simp) q1 q3)
      have hts : ts.length ≤ 50 := by omega
      clear q1 q2 q3 q4 HOp HB2 HKy HT HS
      generalize hna : W1.heap.size = na at *
      generalize hbx : W2.heap.size = bx at *
      generalize hbs : (W2.alloc (.cells #[.int .i64 k.kind, .int .i64 k.a, .string k.word, .int .i64 k.b] 43)).heap.size = base at *
      clear hbx hbs
      go_wp2
      go_loopw [11] (fun i y => ∃ (j : Nat) (known : Int) (S : Ky → Int → Int → ByteArray) (Fa Fb : Nat → Prop), i = .int .i64 j ∧ j ≤ ts.length ∧ 0 ≤ known ∧ known ≤ (j : Int) ∧ TwI W1 na (na + 1) bx base k (j : Int) (j : Int) known S S Fa Fb (.slice ad10 ts.length cap10) ts y) (fun i _ => ts.length - (intOf i).toNat)
      case atStart => exact ⟨0, 0, _, _, _, rfl, Nat.zero_le _, by decide, by decide, unhide HI0⟩
      case round =>
        clear HI0
        obtain ⟨j, known, S, Fa, Fb, rfl, hj, hk0, hk1, hI⟩ := hrel
        have HI := hide hI
        clear hI
        by_cases hlt : j < ts.length
        · have hlt' : (j : Int) < (ts.length : Int) := by omega
          have hj0 : (0 : Int) ≤ (j : Int) := by omega
          obtain ⟨g1, cp1, n1, ev, S', hc1⟩ := (unhide HI).commits (List.getElem_mem hlt) hj0 (by omega) hk1
          obtain ⟨g10, _, _, e10, hf10⟩ := own1_at (unhide HI).txs
          injection e10 with e10 e10b e10c
          subst e10 e10c
          clear e10b
          obtain ⟨rfl, t10⟩ := hf10 j hlt
          rw [List.getElem?_eq_getElem hlt, ev] at t10
          rw [ev] at hc1
          have HC1 := hide hc1
          clear hc1
          go_wp2_with fail
          refine (unhide HC1).mono ?_
          rintro e W6 ⟨rfl, ⟨Fa6, hA6⟩, hc2⟩
          obtain ⟨g10', _, _, e10, hf10'⟩ := own1_at hA6.txs
          injection e10 with e10 e10b e10c
          clear e10b
          obtain ⟨e12, t10'⟩ := hf10' j hlt
          rw [e12] at e10
          injection e10 with e10
          injection e10 with e10
          subst e10
          rw [List.getElem?_eq_getElem hlt, ev] at t10'
          have HC2 := hide (hc2 W6 (Below.refl _ _))
          clear hc2 hf10' e12 e10c t10 HC1 hA6 HI hf10
          go_wp2_with fail
          refine (unhide HC2).mono ?_
          rintro e W7 ⟨rfl, Fa7, Fb7, hI7⟩
          have HI7 := hide hI7
          clear hI7 HC2 t10'
          have HW7 := hide ((unhide HB1).trans ((unhide HI7).low.mono (unhide HB1).size))
          obtain ⟨q, hq⟩ : ∃ q, q = at_.getD (j % m1) 0 := ⟨_, rfl⟩
          have HQ := hide hq
          clear hq
          go_upto_region 13 with fail
          go_cut [69] (fun s69 wx => s69 = .bool (decide (0 < m1 ∧ pickI q 3 = 0)) ∧ wx = W7)
          case first =>
            by_cases e0 : m1 = 0
            · have e0' : ¬ (0 : Int) < (m1 : Int) := by omega
              have HD : Hid (decide (0 < m1 ∧ pickI q 3 = 0) = false) := decide_eq_false (fun h => by omega)
              clear e0
              go_wp2
              go_meet
              case rel => exact ⟨by rw [unhide HD], rfl⟩
            · have e0' : (0 : Int) < (m1 : Int) := by omega
              have e0n : ¬ (m1 : Int) = 0 := by omega
              have hjm : j % m1 < m1 := Nat.mod_lt _ (by omega)
              have hrem : Int.tmod (j : Int) (m1 : Int) = ((j % m1 : Nat) : Int) := by
                rw [Int.tmod_eq_emod_of_nonneg (by omega)]
                omega
              obtain ⟨bb, oo, rfl, c1⟩ := unhide HN (j % m1) (by rw [unhide HM1]; exact hjm)
              have hqe : at_[j % m1]'(by rw [unhide HM1]; exact hjm) = q := by
                rw [unhide HQ]
                simp [unhide HM1, hjm]
              rw [hqe] at c1
              have c2 := there_at c1 (unhide HW7)
              have HP := hide (fun W => keep_pick q 3 W (by decide) (by decide))
              have HD : Hid (decide (0 < m1 ∧ pickI q 3 = 0) = (pickI q 3 == 0)) := by
                unfold Hid
                by_cases z : pickI q 3 = 0
                · rw [decide_eq_true ⟨by omega, z⟩, z]; rfl
                · rw [decide_eq_false (fun h => z h.2)]; simp [z]
              clear c1 hqe e0
              generalize hjm2 : j % m1 = jm at *
              clear hjm2
              have hjm' : (jm : Int) < (m1 : Int) := by omega
              go_wp2_with fail
              refine (unhide HP _).mono ?_
              rintro e Wp ⟨rfl, rfl⟩
              go_wp2
              go_meet
              case rel => exact ⟨by rw [unhide HD], rfl⟩
          case rest =>
            obtain ⟨rfl, hwc⟩ := hcut
            obtain rfl : W7 = wc := hwc.symm
            clear hwc
            go_upto_if 69 with fail
            go_cut [] (fun wx => ∃ (known' : Int) (Fb' : Nat → Prop), 0 ≤ known' ∧ known' ≤ (j : Int) + 1 ∧ TwI W1 na (na + 1) bx base k ((j : Int) + 1) ((j : Int) + 1) known' S' S' Fa7 Fb' (.slice (some ⟨g10, 0, none⟩) ts.length cap10) ts wx)
            case first =>
              by_cases hc : 0 < m1 ∧ pickI q 3 = 0
              · rw [decide_eq_true hc]
                have e0' : (0 : Int) < (m1 : Int) := by omega
                have e0n : ¬ (m1 : Int) = 0 := by omega
                have e0N : ¬ m1 = 0 := by omega
                have hjm : j % m1 < m1 := Nat.mod_lt _ (by omega)
                have hrem : Int.tmod (j : Int) (m1 : Int) = ((j % m1 : Nat) : Int) := by
                  rw [Int.tmod_eq_emod_of_nonneg (by omega)]
                  omega
                obtain ⟨bb, oo, rfl, c1⟩ := unhide HN (j % m1) (by rw [unhide HM1]; exact hjm)
                have hqe : at_[j % m1]'(by rw [unhide HM1]; exact hjm) = q := by
                  rw [unhide HQ]
                  simp [unhide HM1, hjm]
                rw [hqe] at c1
                have c2 := there_at c1 (unhide HW7)
                clear c1 hqe hc
                generalize hjm2 : j % m1 = jm at *
                clear hjm2
                have hjm' : (jm : Int) < (m1 : Int) := by omega
                obtain ⟨p0, p1⟩ := (unhide HI7).pb.cells
                have hpk := pickI_lt q ((j : Int) + 1 - known + 1) (by omega)
                have hwr : IntKind.i64.wrap (IntKind.i64.wrap ((j : Int) + 1 - known) + 1) = (j : Int) + 1 - known + 1 := by
                  rw [IntKind.wrap_i64, IntKind.wrap_i64]
                  omega
                have HPk := hide (fun W => keep_pick q ((j : Int) + 1 - known + 1) W (by omega) (by omega))
                have HFg := hide (fun W (hb : Below W7.heap.size W7 W) => forget_ok ((unhide HI7).pb.below hb) (known + pickI q ((j : Int) + 1 - known + 1)) (by omega) (by omega) (by omega) (by omega))
                go_upto_region 14 with fail
                go_region_held3 (fun y => y.cell? ⟨na + 1, 0, none⟩ = some (.int .i64 ((j : Int) + 1)) ∧ y.cell? ⟨na + 1, 1, none⟩ = some (.int .i64 known) ∧ y.cell? ⟨bb, oo + jm, none⟩ = some (.int .i64 q))
                  (first | exact ⟨p0, p1, c2⟩)
                  (first
                    | (go_at_call 30; refine (past_Known (w := W7.drew) (P := pl0 (na + 1)) (known := known) p1).mono ?_; rintro e Wn ⟨rfl, rfl⟩)
                    | (go_at_call 28; refine (past_Now (w := W7.drew) (P := pl0 (na + 1)) (now := (j : Int) + 1) p0).mono ?_; rintro e Wn ⟨rfl, rfl⟩)
                    | (go_at_call 29; (try rw [hwr]); refine (unhide HPk _).mono ?_; rintro e Wn ⟨rfl, rfl⟩))
                have hwr2 : IntKind.i64.wrap (known + pickI q ((j : Int) + 1 - known + 1)) = known + pickI q ((j : Int) + 1 - known + 1) := by
                  rw [IntKind.wrap_i64]
                  omega
                rw [hwr2]
                have hn0 : 0 ≤ known + pickI q ((j : Int) + 1 - known + 1) := by omega
                have hn1 : known + pickI q ((j : Int) + 1 - known + 1) ≤ (j : Int) + 1 := by omega
                clear hwr hwr2 hpk HPk p0 p1 c2
                generalize known + pickI q ((j : Int) + 1 - known + 1) = nn at *
                go_wp2_with fail
                refine (unhide HFg _ (below_drew W7)).mono ?_
                rintro e W8 ⟨rfl, hc8⟩
                obtain ⟨Fb8, hI8⟩ := ((unhide HI7).below (below_drew W7)).stepB hc8
                have HI8 := hide hI8
                obtain ⟨_, p1⟩ := hI8.pb.cells
                have HKn := hide (past_Known p1)
                clear hI8 hc8 HFg p1
                go_wp2_with fail
                refine (unhide HKn).mono ?_
                rintro e W9 ⟨rfl, rfl⟩
                go_wp2
                go_meet
                case rel => exact ⟨nn, Fb8, hn0, hn1, unhide HI8⟩
              · rw [decide_eq_false hc]
                clear hc
                go_wp2
                go_meet
                case rel => exact ⟨known, Fb7, hk0, by omega, unhide HI7⟩
            case rest =>
              obtain ⟨known', Fb', h0', h1', hI8⟩ := hcut
              have HI8 := hide hI8
              clear hI8 HI7 HW7 HQ hk0 hk1
              obtain ⟨V0, rfl⟩ : ∃ V0, V0 = wc := ⟨_, rfl⟩
              have HEr0 : Hid (ErrorType V0) := there_at (unhide HEr) ((unhide HB1).trans ((unhide HI8).low.mono (unhide HB1).size))
              go_wp2
              go_loopw [13] (fun i y => ∃ m : Nat, m ≤ j + 2 ∧ i = .int .i64 m ∧ Below V0.heap.size V0 y) (fun i _ => j + 2 - (intOf i).toNat)
              case atStart => exact ⟨0, Nat.zero_le _, rfl, Below.refl _ _⟩
              case round =>
                obtain ⟨m, hm, rfl, hb⟩ := hrel
                have HBm := hide hb
                have HIm := hide ((unhide HI8).below hb)
                obtain ⟨pa0, _⟩ := (unhide HIm).pa.cells
                have HNw := hide (past_Now pa0)
                clear hb pa0
                go_wp2_with fail
                refine (unhide HNw).mono ?_
                rintro e V1 ⟨rfl, rfl⟩
                by_cases hmj : m ≤ j + 1
                · have hmj' : (m : Int) ≤ (j : Int) + 1 := by omega
                  have k0 := (unhide HIm).box.c0
                  have k1 := (unhide HIm).box.c1
                  have k2 := (unhide HIm).box.c2
                  have k3 := (unhide HIm).box.c3
                  have HPa := hide (pieces_ok (unhide HIm).pa (by omega) k (unhide HKo) (unhide HKb) (m : Int) (by omega) (by omega) (by omega))
                  clear HNw
                  go_wp2_with fail
                  refine (unhide HPa).mono ?_
                  rintro e V2 ⟨v14, ps, rfl, hps, hca, hco, b2⟩
                  obtain ⟨g14, ad14, c14, rfl, hf14⟩ := own_pieces hps
                  have HI2 := hide ((unhide HIm).below b2)
                  have HB2 := hide ((unhide HBm).trans (b2.mono (unhide HBm).size))
                  have HCa := hide hca
                  have HCo := hide hco
                  have HF14 := hide hf14
                  have hpm := row_most hps
                  clear hps hca hco b2 hf14 HPa HIm k0 k1 k2 k3 HBm
                  have k0 := (unhide HI2).box.c0
                  have k1 := (unhide HI2).box.c1
                  have k2 := (unhide HI2).box.c2
                  have k3 := (unhide HI2).box.c3
                  by_cases hkn : (m : Int) < known'
                  · have HPb := hide (pieces_bad (unhide HI2).pb k (m : Int) 7 (by unfold countErr; rw [if_neg (by omega), if_pos hkn]) (by decide))
                    go_wp2_with fail
                    refine (unhide HPb).mono ?_
                    rintro e V3 ⟨rfl, b3⟩
                    have HB3 := hide ((unhide HB2).trans (b3.mono (unhide HB2).size))
                    obtain ⟨_, p1⟩ := ((unhide HI2).pb.below b3).cells
                    have HTl := hide (fun W (hb : Below V3.heap.size V3 W) => Tell_errno 7 W (there_at (there_at (unhide HEr0) (unhide HB3)) hb))
                    clear b3 HPb HI2 HB2 k0 k1 k2 k3
                    go_upto_region 22 with fail
                    go_region_held3 (fun y => y.cell? ⟨na + 1, 1, none⟩ = some (.int .i64 known'))
                      (first | exact p1)
                      (first
                        | (go_at_call 30; refine (past_Known (w := V3.drew) (P := pl0 (na + 1)) (known := known') p1).mono ?_; rintro e Wn ⟨rfl, rfl⟩))
                    go_wp2_with fail
                    refine (unhide HTl _ (below_drew V3)).mono ?_
                    rintro e V4 ⟨rfl, b4⟩
                    have HB4 := hide ((unhide HB3).trans (((below_drew V3).trans b4).mono (unhide HB3).size))
                    clear b4 HTl HB3 p1
                    go_wp2
                    go_roundw
                    case rel => exact ⟨m + 1, by omega, by go_num, unhide HB4⟩
                    case measure => simp [intOf]; omega
                  · have hkn' : known' ≤ (m : Int) := by omega
                    have HPb := hide (pieces_ok (unhide HI2).pb (by omega) k (unhide HKo) (unhide HKb) (m : Int) (by omega) hkn' (by omega))
                    go_wp2_with fail
                    refine (unhide HPb).mono ?_
                    rintro e V3 ⟨v16, ps', rfl, hps, hca, hco, b3⟩
                    obtain rfl := pieces_one (unhide HCa) hca (unhide HCo) hco
                    obtain ⟨g16, ad16, c16, rfl, hf16⟩ := own_pieces hps
                    have HI3 := hide ((unhide HI2).below b3)
                    have HB3 := hide ((unhide HB2).trans (b3.mono (unhide HB2).size))
                    have HF14' : Hid (∀ j, (hj : j < ps.length) → ad14 = some ⟨g14, 0, none⟩ ∧ V3.cell? ⟨g14, j * 3, none⟩ = some (.int .i64 ps[j].1) ∧ V3.cell? ⟨g14, j * 3 + 1, none⟩ = some (.int .i64 ps[j].2.1) ∧ V3.cell? ⟨g14, j * 3 + 2, none⟩ = some (.string ps[j].2.2)) := fun j hj => by
                      obtain ⟨q, _, q1, q2, q3⟩ := unhide HF14 j hj
                      exact ⟨q, there_at q1 b3, there_at q2 b3, there_at q3 b3⟩
                    have HF16 := hide hf16
                    obtain ⟨_, p1⟩ := (unhide HI3).pb.cells
                    clear hps hca hco b3 hf16 HPb HI2 HB2 k0 k1 k2 k3 HF14 HCa HCo
                    go_upto_region 22 with fail
                    go_region_held3 (fun y => y.cell? ⟨na + 1, 1, none⟩ = some (.int .i64 known'))
                      (first | exact p1)
                      (first
                        | (go_at_call 30; refine (past_Known (w := V3.drew) (P := pl0 (na + 1)) (known := known') p1).mono ?_; rintro e Wn ⟨rfl, rfl⟩))
                    go_wp2
                    go_loopw [18] (fun i y => ∃ c : Nat, c ≤ ps.length ∧ i = .int .i64 c ∧ Below V3.heap.size V3 y) (fun i _ => ps.length - (intOf i).toNat)
                    case atStart => exact ⟨0, Nat.zero_le _, rfl, below_drew V3⟩
                    case round =>
                      obtain ⟨c, hc, rfl, hb⟩ := hrel
                      have HBc := hide hb
                      clear hb
                      by_cases hcl : c < ps.length
                      · have hcl' : (c : Int) < (ps.length : Int) := by omega
                        have hc0 : (0 : Int) ≤ (c : Int) := by omega
                        obtain ⟨rfl, q1, q2, q3⟩ := unhide HF14' c hcl
                        obtain ⟨rfl, _, r1, r2, r3⟩ := unhide HF16 c hcl
                        obtain ⟨p, hp⟩ : ∃ p, p = ps[c] := ⟨_, rfl⟩
                        rw [← hp] at q1 q2 q3 r1 r2 r3
                        have z1 := there_at q1 (unhide HBc)
                        have z2 := there_at q2 (unhide HBc)
                        have z3 := there_at q3 (unhide HBc)
                        have y1 := there_at r1 (unhide HBc)
                        have y2 := there_at r2 (unhide HBc)
                        have y3 := there_at r3 (unhide HBc)
                        clear q1 q2 q3 r1 r2 r3 hp
                        go_upto_region 32 with fail
                        go_quiet (fail)
                        go_wp2
                        go_roundw
                        case rel => exact ⟨c + 1, by omega, by go_num, (unhide HBc).trans ((below_drewN _ _).mono (unhide HBc).size)⟩
                        case measure => simp [intOf]; omega
                      · obtain rfl : c = ps.length := by omega
                        have hltc : ¬ (ps.length : Int) < (ps.length : Int) := by omega
                        obtain ⟨V4, rfl⟩ : ∃ V4, V4 = wr := ⟨_, rfl⟩
                        have HI4 := hide ((unhide HI3).below (unhide HBc))
                        have HB4 := hide ((unhide HB3).trans ((unhide HBc).mono (unhide HB3).size))
                        have hp60 := pickI_lt ((j : Int) * 7) 60 (by decide)
                        have HPk := hide (fun W => keep_pick ((j : Int) * 7) 60 W (by decide) (by decide))
                        have hw7 : IntKind.i64.wrap ((j : Int) * 7) = (j : Int) * 7 := by rw [IntKind.wrap_i64]; omega
                        have HKa := hide (fun W (hb : Below V4.heap.size V4 W) => keys_ok ((unhide HI4).below hb).pa (by omega) (m : Int) (pickI ((j : Int) * 7) 60) (by omega) (by omega) (by omega) (by omega) (by omega))
                        have HKb' := hide (fun W (hb : Below V4.heap.size V4 W) => keys_ok ((unhide HI4).below hb).pb (by omega) (m : Int) (pickI ((j : Int) * 7) 60) (by omega) hkn' (by omega) (by omega) (by omega))
                        generalize pickI ((j : Int) * 7) 60 = tt at *
                        clear hp60 HBc HI3 HB3 HF14' HF16 p1
                        go_wp2_with fail
                        refine (unhide HPk _).mono ?_
                        rintro e V5 ⟨rfl, rfl⟩
                        go_wp2_with fail
                        refine (unhide HKa _ (Below.refl _ _)).mono ?_
                        rintro e V6 ⟨v19, L, rfl, hro, hpw, hme, hl4, b6⟩
                        obtain ⟨g19, ad19, c19, rfl, hf19⟩ := hro.cells
                        have HF19 := hide hf19
                        have HPw := hide hpw
                        have HMe := hide hme
                        clear hro hpw hme hf19 HKa
                        go_wp2_with fail
                        refine (unhide HPk _).mono ?_
                        rintro e V7 ⟨rfl, rfl⟩
                        go_wp2_with fail
                        refine (unhide HKb' _ b6).mono ?_
                        rintro e V8 ⟨v20, L', rfl, hro, hpw, hme, _, b8⟩
                        obtain rfl := keys_one L L' (unhide HPw) hpw (fun x => ((unhide HMe) x).trans (hme x).symm)
                        obtain ⟨g20, ad20, c20, rfl, hf20⟩ := hro.cells
                        have HF19' : Hid (∀ j, (hj : j < L.length) → ad19 = some ⟨g19, 0, none⟩ ∧ V8.cell? ⟨g19, j * 4, none⟩ = some (.int .i64 L[j].kind) ∧ V8.cell? ⟨g19, j * 4 + 1, none⟩ = some (.int .i64 L[j].a) ∧ V8.cell? ⟨g19, j * 4 + 2, none⟩ = some (.string L[j].word) ∧ V8.cell? ⟨g19, j * 4 + 3, none⟩ = some (.int .i64 L[j].b)) := fun j hj => by
                          obtain ⟨q, q1, q2, q3, q4⟩ := unhide HF19 j hj
                          exact ⟨q, there_at q1 b8, there_at q2 b8, there_at q3 b8, there_at q4 b8⟩
                        have HF20 := hide hf20
                        have HB8 := hide ((unhide HB4).trans ((b6.trans (b8.mono b6.size)).mono (unhide HB4).size))
                        clear hro hpw hme hf20 HKb' b6 b8 HF19 HPw HMe HPk hw7
                        go_wp2
                        go_loopw [21] (fun i y => ∃ c : Nat, c ≤ L.length ∧ i = .int .i64 c ∧ Below V8.heap.size V8 y) (fun i _ => L.length - (intOf i).toNat)
                        case atStart => exact ⟨0, Nat.zero_le _, rfl, Below.refl _ _⟩
                        case round =>
                          obtain ⟨c, hc, rfl, hb⟩ := hrel
                          have HBc := hide hb
                          clear hb
                          by_cases hcl : c < L.length
                          · have hcl' : (c : Int) < (L.length : Int) := by omega
                            have hc0 : (0 : Int) ≤ (c : Int) := by omega
                            obtain ⟨rfl, q1, q2, q3, q4⟩ := unhide HF19' c hcl
                            obtain ⟨rfl, r1, r2, r3, r4⟩ := unhide HF20 c hcl
                            obtain ⟨p, hp⟩ : ∃ p, p = L[c] := ⟨_, rfl⟩
                            rw [← hp] at q1 q2 q3 q4 r1 r2 r3 r4
                            have z1 := there_at q1 (unhide HBc)
                            have z2 := there_at q2 (unhide HBc)
                            have z3 := there_at q3 (unhide HBc)
                            have z4 := there_at q4 (unhide HBc)
                            have y1 := there_at r1 (unhide HBc)
                            have y2 := there_at r2 (unhide HBc)
                            have y3 := there_at r3 (unhide HBc)
                            have y4 := there_at r4 (unhide HBc)
                            clear q1 q2 q3 q4 r1 r2 r3 r4 hp
                            go_upto_region 41 with fail
                            go_quiet (fail)
                            go_wp2
                            go_roundw
                            case rel => exact ⟨c + 1, by omega, by go_num, (unhide HBc).trans ((below_drewN _ _).mono (unhide HBc).size)⟩
                            case measure => simp [intOf]; omega
                          · obtain rfl : c = L.length := by omega
                            have hltL : ¬ (L.length : Int) < (L.length : Int) := by omega
                            have HB9 := hide ((unhide HB8).trans ((unhide HBc).mono (unhide HB8).size))
                            clear HBc HB8
                            go_wp2
                            go_roundw
                            case rel => exact ⟨m + 1, by omega, by go_num, unhide HB9⟩
                            case measure => simp [intOf]; omega
                · have hmj' : ¬ (m : Int) ≤ (j : Int) + 1 := by omega
                  clear HNw
                  have HI9 : Hid (TwI W1 na (na + 1) bx base k ((j + 1 : Nat) : Int) ((j + 1 : Nat) : Int) known' S' S' Fa7 Fb' (.slice (some ⟨g10, 0, none⟩) ts.length cap10) ts V1) := by
                    unfold Hid
                    rw [show ((j + 1 : Nat) : Int) = (j : Int) + 1 by omega]
                    exact unhide HIm
                  clear HIm HBm
                  go_wp2
                  go_roundw
                  case rel => exact ⟨j + 1, known', _, _, _, by go_num, by omega, h0', by omega, unhide HI9⟩
                  case measure => simp [intOf]; omega
        · obtain rfl : j = ts.length := by omega
          have hlt' : ¬ (ts.length : Int) < (ts.length : Int) := by omega
          obtain ⟨pa0, _⟩ := (unhide HI).pa.cells
          obtain ⟨pb0, _⟩ := (unhide HI).pb.cells
          have HNa := hide (past_Now pa0)
          have HNb := hide (past_Now pb0)
          have HBz := hide ((unhide HB1).trans ((unhide HI).low.mono (unhide HB1).size))
          clear pa0 pb0 HI
          go_wp2_with fail
          refine (unhide HNa).mono ?_
          rintro e V1 ⟨rfl, rfl⟩
          go_wp2_with fail
          refine (unhide HNb).mono ?_
          rintro e V2 ⟨rfl, rfl⟩
          go_wp2
          go_ret
          exact ⟨by simp, unhide HBz⟩
    · have ha' : (60 : Int) < (m1 : Int) := by omega
      go_enter Tryz.func6, Tryz.ntmps6
      go_wp2
      go_ret
      exact ⟨rfl, Below.refl _ _⟩
  · have hl' : (50 : Int) < (l.length : Int) := by omega
    go_enter Tryz.func6, Tryz.ntmps6
    go_wp2
    go_ret
    exact ⟨rfl, Below.refl _ _⟩

end Go.Proofs.YtbloahcmakjchaaGreatDoor
