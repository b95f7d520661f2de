/- Texts of one proof, one behind the other. -/
import Derived.Test.YtfoojmflbifkpaaGreatDoorBx
import Derived.Test.YtfoojmflbifkpaaGreatDoorBa
import Derived.Test.YtfoojmflbifkpaaGreatDoorBl
import Derived.Deep.DeepCutAuto

/- The document's Past: Now, Ask, Forget: walked. -/
namespace Go.Proofs.YtfoojmflbifkpaaGreatDoor
open Go.RowKit Go.Maps
set_option maxHeartbeats 1000000 in
theorem rp_Now {w : World} {R n cap : Nat} {ad : Option Addr} (c0 : w.cell? ⟨R, 0, none⟩ = some (.slice ad n cap)) :
    Calls Tryz.prog 43 #[.pointer (some ⟨R, 0, none⟩)] w fun e w' => e = .returned (.int .i64 n) ∧ w' = w := by
  go_enter Tryz.func43, Tryz.ntmps43
  go_wp2
  go_ret
  exact ⟨rfl, rfl⟩
set_option maxHeartbeats 4000000 in
theorem rp_Ask {w : World} {R n cap : Nat} {known : Int} {ad : Option Addr} (c0 : w.cell? ⟨R, 0, none⟩ = some (.slice ad n cap)) (c1 : w.cell? ⟨R, 1, none⟩ = some (.int .i64 known)) (at_ : Int) :
    Calls Tryz.prog 96 #[.pointer (some ⟨R, 0, none⟩), .int .i64 at_] w fun e w' => e = .returned (.int .i64 (countErr n known at_)) ∧ w' = w := by
  have HN := hide (rp_Now c0)
  have HI := hide (fun W => ref_in at_ 0 n W)
  by_cases h1 : at_ < 0 ∨ (n : Int) < at_
  · have e : Hid (countErr n known at_ = 2) := by unfold Hid countErr; rw [if_pos h1]
    have hi : inB at_ 0 n = false := decide_eq_false (by omega)
    rw [hi] at HI
    clear h1 hi c0
    go_enter Tryz.func96, Tryz.ntmps96
    go_wp2_with fail
    refine (unhide HN).mono ?_
    rintro r W1 ⟨rfl, rfl⟩
    go_wp2_with fail
    refine (unhide HI _).mono ?_
    rintro r W2 ⟨rfl, rfl⟩
    go_wp2
    go_ret
    exact ⟨by rw [unhide e]; rfl, rfl⟩
  · have hi : inB at_ 0 n = true := decide_eq_true (by omega)
    rw [hi] at HI
    by_cases h3 : at_ < known
    · have e : Hid (countErr n known at_ = 7) := by unfold Hid countErr; rw [if_neg h1, if_pos h3]
      clear h1 hi c0
      go_enter Tryz.func96, Tryz.ntmps96
      go_wp2_with fail
      refine (unhide HN).mono ?_
      rintro r W1 ⟨rfl, rfl⟩
      go_wp2_with fail
      refine (unhide HI _).mono ?_
      rintro r W2 ⟨rfl, rfl⟩
      go_wp2
      go_ret
      exact ⟨by rw [unhide e]; rfl, rfl⟩
    · have e : Hid (countErr n known at_ = 0) := by unfold Hid countErr; rw [if_neg h1, if_neg h3]
      clear h1 hi c0
      go_enter Tryz.func96, Tryz.ntmps96
      go_wp2_with fail
      refine (unhide HN).mono ?_
      rintro r W1 ⟨rfl, rfl⟩
      go_wp2_with fail
      refine (unhide HI _).mono ?_
      rintro r W2 ⟨rfl, rfl⟩
      go_wp2
      go_ret
      exact ⟨by rw [unhide e]; rfl, rfl⟩
end Go.Proofs.YtfoojmflbifkpaaGreatDoor

/- The document's Has: walked. -/
namespace Go.Proofs.YtfoojmflbifkpaaGreatDoor
open Go.RowKit
set_option maxHeartbeats 1000000 in
theorem ref_Has (lo hi t : Int) (w : World) :
    Calls Tryz.prog 110 #[.agg #[.int .i64 lo, .int .i64 hi], .int .i64 t] w fun e w' => e = .returned (.bool (decide (lo ≤ t ∧ t < hi))) ∧ Below w.heap.size w w' := by
  by_cases h1 : lo ≤ t
  · by_cases h2 : t < hi
    · have e : decide (lo ≤ t ∧ t < hi) = true := by simp [h1, h2]
      rw [e]
      clear e
      go_enter Tryz.func110, Tryz.ntmps110
      go_wp2
      go_ret
      exact ⟨rfl, below_box _ _⟩
    · have e : decide (lo ≤ t ∧ t < hi) = false := by simp [h2]
      rw [e]
      clear e
      go_enter Tryz.func110, Tryz.ntmps110
      go_wp2
      go_ret
      exact ⟨rfl, below_box _ _⟩
  · have e : decide (lo ≤ t ∧ t < hi) = false := by simp [h1]
    rw [e]
    clear e
    go_enter Tryz.func110, Tryz.ntmps110
    go_wp2
    go_ret
    exact ⟨rfl, below_box _ _⟩
end Go.Proofs.YtfoojmflbifkpaaGreatDoor

/- The document's Past: what was said of a key, of a time: walked. -/
namespace Go.Proofs.YtfoojmflbifkpaaGreatDoor
open Go.RowKit Go.Maps
def TxsAt (w : World) (b o : Nat) (txs : List (List Fop)) : Prop :=
  ∀ j, (hj : j < txs.length) → ∃ g f cap, w.cell? ⟨b, o + j, none⟩ = some (.slice (some ⟨g, f, none⟩) (txs[j]).length cap) ∧ OpsAt w g f txs[j] ∧ txs[j].length ≤ 8
theorem TxsAt.carry {w w' : World} {b o : Nat} {txs : List (List Fop)} (h : TxsAt w b o txs) (hb : Below w.heap.size w w') : TxsAt w' b o txs := fun j hj => by
  obtain ⟨g, f, cap, h1, h2, h3⟩ := h j hj
  exact ⟨g, f, cap, (hb.cell (lt_of_cell h1)).trans h1, h2.carry hb, h3⟩
set_option maxRecDepth 100000 in
set_option maxHeartbeats 8000000 in
theorem rp_Said {w : World} {R b o n cap : Nat} {txs : List (List Fop)} (c0 : w.cell? ⟨R, 0, none⟩ = some (.slice (some ⟨b, o, none⟩) n cap)) (hn : Hid (n = txs.length)) (hc : n ≤ cap) (hT : TxsAt w b o txs) (k : Ky) (c : Nat) (ha : c ≤ n) (hm : n ≤ 1000) (t : Int) :
    Calls Tryz.prog 60 #[.pointer (some ⟨R, 0, none⟩), .agg #[.int .i64 k.kind, .int .i64 k.a, .string k.word, .int .i64 k.b], .int .i64 c, .int .i64 t] w fun e w' => e = .returned (.string (refS txs k c t)) ∧ Below w.heap.size w w' := by
  have HB := hide (below_box w (.cells #[.int .i64 k.kind, .int .i64 k.a, .string k.word, .int .i64 k.b] 32))
  have HK := hide (boxK_new w k)
  have d0 := there_yet c0 (unhide HB)
  have HT := hide (hT.carry (unhide HB))
  have hc0 : (0 : Int) ≤ (c : Int) := by omega
  have hc1 : (c : Int) ≤ (cap : Int) := by omega
  clear hT c0
  go_enter Tryz.func60, Tryz.ntmps60
  go_wp2
  generalize w.alloc (.cells #[.int .i64 k.kind, .int .i64 k.a, .string k.word, .int .i64 k.b] 32) = W0 at *
  go_loopw [9, 21] (fun v i y => ∃ j : Nat, j ≤ c ∧ v = .string (refS txs k j t) ∧ i = .int .i64 j ∧ Below W0.heap.size W0 y) (fun _ i _ => c - (intOf i).toNat)
  case atStart => exact ⟨0, by omega, rfl, rfl, Below.refl _ _⟩
  case round =>
    obtain ⟨j, hj, rfl, rfl, hb⟩ := hrel
    have HB1 := hide hb
    clear hb
    by_cases hlt : j < c
    · have hlt' : (j : Int) < (c : Int) := by omega
      have hj0 : (0 : Int) ≤ (j : Int) := by omega
      have hjt : j < txs.length := by have := unhide hn; omega
      have HSj := hide (refS_snoc txs k t j hjt)
      obtain ⟨g, f, cp, r0, r1, r2⟩ := unhide HT j hjt
      obtain ⟨l, hl⟩ : ∃ l, l = txs[j] := ⟨_, rfl⟩
      rw [← hl] at r0 r1 r2 HSj
      have q0 := there_yet r0 (unhide HB1)
      have HAt := hide (r1.carry (unhide HB1))
      have HK1 := hide ((unhide HK).below (unhide HB1))
      obtain ⟨v0, hv0⟩ : ∃ v, v = refS txs k j t := ⟨_, rfl⟩
      rw [← hv0] at HSj ⊢
      clear r0 r1 hl hv0 hjt
      go_upto_region 5 with fail
      go_wp2
      go_loopw [9, 27] (fun v i y => ∃ m : Nat, m ≤ l.length ∧ v = .string (lastV k t v0 (l.take m)) ∧ i = .int .i64 m ∧ Below wr.heap.size wr y) (fun _ i _ => l.length - (intOf i).toNat)
      case atStart => exact ⟨0, by omega, rfl, rfl, Below.refl _ _⟩
      case round =>
        obtain ⟨m, hm', rfl, rfl, hb⟩ := hrel
        have HBm := hide hb
        clear hb q0
        by_cases hml : m < l.length
        · have hml' : (m : Int) < (l.length : Int) := by omega
          have hm0 : (0 : Int) ≤ (m : Int) := by omega
          obtain ⟨a0, a1, a2, a3, a4, a5, a6⟩ := (unhide HAt).2 m hml
          have HSn : Hid (lastV k t v0 (l.take (m + 1)) = stepV k t (lastV k t v0 (l.take m)) l[m]) := by
            unfold Hid
            rw [List.take_succ_eq_append_getElem hml, lastV_snoc]
          obtain ⟨o, ho⟩ : ∃ o, o = l[m] := ⟨_, rfl⟩
          rw [← ho] at a0 a1 a2 a3 a4 a5 a6 HSn
          have z0 := there_yet a0 (unhide HBm)
          have z1 := there_yet a1 (unhide HBm)
          have z2 := there_yet a2 (unhide HBm)
          have z3 := there_yet a3 (unhide HBm)
          have z4 := there_yet a4 (unhide HBm)
          have z5 := there_yet a5 (unhide HBm)
          have z6 := there_yet a6 (unhide HBm)
          obtain ⟨v1, hv1⟩ : ∃ v, v = lastV k t v0 (l.take m) := ⟨_, rfl⟩
          rw [← hv1] at HSn ⊢
          have HB8 := hide (below_box wr (.cells #[.int .i64 o.kind, .int .i64 o.a, .string o.word, .int .i64 o.b, .int .i64 o.lo, .int .i64 o.hi, .string o.value] 36))
          have k0 := there_yet (unhide HK1).c0 (unhide HBm)
          have k1 := there_yet (unhide HK1).c1 (unhide HBm)
          have k2 := there_yet (unhide HK1).c2 (unhide HBm)
          have k3 := there_yet (unhide HK1).c3 (unhide HBm)
          clear a0 a1 a2 a3 a4 a5 a6 ho hv1
          go_upto_region 8 with fail
          have y0 : (wr.alloc (.cells #[.int .i64 o.kind, .int .i64 o.a, .string o.word, .int .i64 o.b, .int .i64 o.lo, .int .i64 o.hi, .string o.value] 36)).cell? ⟨wr.heap.size, 0, none⟩ = some (.int .i64 o.kind) := by simp
          have y1 : (wr.alloc (.cells #[.int .i64 o.kind, .int .i64 o.a, .string o.word, .int .i64 o.b, .int .i64 o.lo, .int .i64 o.hi, .string o.value] 36)).cell? ⟨wr.heap.size, 1, none⟩ = some (.int .i64 o.a) := by simp
          have y2 : (wr.alloc (.cells #[.int .i64 o.kind, .int .i64 o.a, .string o.word, .int .i64 o.b, .int .i64 o.lo, .int .i64 o.hi, .string o.value] 36)).cell? ⟨wr.heap.size, 2, none⟩ = some (.string o.word) := by simp
          have y3 : (wr.alloc (.cells #[.int .i64 o.kind, .int .i64 o.a, .string o.word, .int .i64 o.b, .int .i64 o.lo, .int .i64 o.hi, .string o.value] 36)).cell? ⟨wr.heap.size, 3, none⟩ = some (.int .i64 o.b) := by simp
          have y4 : (wr.alloc (.cells #[.int .i64 o.kind, .int .i64 o.a, .string o.word, .int .i64 o.b, .int .i64 o.lo, .int .i64 o.hi, .string o.value] 36)).cell? ⟨wr.heap.size, 4, none⟩ = some (.int .i64 o.lo) := by simp
          have y5 : (wr.alloc (.cells #[.int .i64 o.kind, .int .i64 o.a, .string o.word, .int .i64 o.b, .int .i64 o.lo, .int .i64 o.hi, .string o.value] 36)).cell? ⟨wr.heap.size, 5, none⟩ = some (.int .i64 o.hi) := by simp
          have y6 : (wr.alloc (.cells #[.int .i64 o.kind, .int .i64 o.a, .string o.word, .int .i64 o.b, .int .i64 o.lo, .int .i64 o.hi, .string o.value] 36)).cell? ⟨wr.heap.size, 6, none⟩ = some (.string o.value) := by simp
          have k0' := there_yet k0 (unhide HB8)
          have k1' := there_yet k1 (unhide HB8)
          have k2' := there_yet k2 (unhide HB8)
          have k3' := there_yet k3 (unhide HB8)
          have HB9 := hide ((unhide HBm).trans ((unhide HB8).mono (unhide HBm).size))
          clear z0 z1 z2 z3 z4 z5 z6 k0 k1 k2 k3 HB8 HBm
          generalize wr.alloc (.cells #[.int .i64 o.kind, .int .i64 o.a, .string o.word, .int .i64 o.b, .int .i64 o.lo, .int .i64 o.hi, .string o.value] 36) = W9 at *
          generalize wr.heap.size = gb at *
          by_cases hsk : kyO o = k
          · have HHas := hide (fun W => ref_Has o.lo o.hi t W)
            have HE := hide (sameK_iff.2 hsk)
            have hk0 : k.kind = o.kind := by rw [← hsk]; rfl
            have hk1 : k.a = o.a := by rw [← hsk]; rfl
            have hk2 : k.word = o.word := by rw [← hsk]; rfl
            have hk3 : k.b = o.b := by rw [← hsk]; rfl
            rw [hk0] at k0'
            rw [hk1] at k1'
            rw [hk2] at k2'
            rw [hk3] at k3'
            clear hsk hk0 hk1 hk2 hk3
            go_wp2_with fail
            refine (unhide HHas _).mono ?_
            rintro e Wh ⟨rfl, bh⟩
            have HB10 := hide ((unhide HB9).trans (bh.mono (unhide HB9).size))
            have y6' := there_yet y6 bh
            clear bh
            by_cases hh : o.lo ≤ t ∧ t < o.hi
            · have HSv : Hid (lastV k t v0 (l.take (m + 1)) = o.value) := by
                unfold Hid
                rw [unhide HSn]
                unfold stepV
                rw [unhide HE, decide_eq_true hh]
                rfl
              have hd := decide_eq_true hh
              rw [hd]
              clear hh hd
              go_wp2
              go_roundw
              case rel => exact ⟨m + 1, by omega, by rw [unhide HSv], by go_num, unhide HB10⟩
              case measure => simp [intOf]; omega
            · have HSv : Hid (lastV k t v0 (l.take (m + 1)) = v1) := by
                unfold Hid
                rw [unhide HSn]
                unfold stepV
                rw [unhide HE, decide_eq_false hh]
                rfl
              have hd := decide_eq_false hh
              rw [hd]
              clear hh hd
              go_wp2
              go_roundw
              case rel => exact ⟨m + 1, by omega, by rw [unhide HSv], by go_num, unhide HB10⟩
              case measure => simp [intOf]; omega
          · have HSv : Hid (lastV k t v0 (l.take (m + 1)) = v1) := by
              have HE : sameK (kyO o) k = false := by
                cases e : sameK (kyO o) k with
                | false => rfl
                | true => exact absurd (sameK_iff.1 e) hsk
              unfold Hid
              rw [unhide HSn]
              unfold stepV
              rw [HE]
              rfl
            go_upto_region 9 with fail
            all_goals (try (exfalso; exact hsk (key_of (by assumption) (by assumption) (by assumption) (by assumption))))
            · go_wp2
              go_roundw
              case rel => exact ⟨m + 1, by omega, by rw [unhide HSv], by go_num, unhide HB9⟩
              case measure => simp [intOf]; omega
            · go_wp2
              go_roundw
              case rel => exact ⟨m + 1, by omega, by rw [unhide HSv], by go_num, unhide HB9⟩
              case measure => simp [intOf]; omega
            · go_wp2
              go_roundw
              case rel => exact ⟨m + 1, by omega, by rw [unhide HSv], by go_num, unhide HB9⟩
              case measure => simp [intOf]; omega
            · go_wp2
              go_roundw
              case rel => exact ⟨m + 1, by omega, by rw [unhide HSv], by go_num, unhide HB9⟩
              case measure => simp [intOf]; omega
        · obtain rfl : m = l.length := by omega
          have hlt3 : ¬ (l.length : Int) < (l.length : Int) := by omega
          rw [List.take_length]
          go_wp2
          go_roundw
          case rel => exact ⟨j + 1, by omega, by rw [unhide HSj], by go_num, (unhide HB1).trans ((unhide HBm).mono (unhide HB1).size)⟩
          case measure => simp [intOf]; omega
    · obtain rfl : j = c := by omega
      have hlt' : ¬ (j : Int) < (j : Int) := by omega
      go_wp2
      go_ret
      exact ⟨rfl, (unhide HB).trans ((unhide HB1).mono (unhide HB).size)⟩
end Go.Proofs.YtfoojmflbifkpaaGreatDoor

/- The document's Past: Value: walked. -/
namespace Go.Proofs.YtfoojmflbifkpaaGreatDoor
open Go.RowKit Go.Maps
structure RefP (w : World) (R : Nat) (txs : List (List Fop)) (known : Int) : Prop where
  c0 : (txs = [] ∧ w.cell? ⟨R, 0, none⟩ = some (.slice none 0 0)) ∨ ∃ b o cap, w.cell? ⟨R, 0, none⟩ = some (.slice (some ⟨b, o, none⟩) txs.length cap) ∧ txs.length ≤ cap ∧ TxsAt w b o txs
  c1 : w.cell? ⟨R, 1, none⟩ = some (.int .i64 known)
  most : txs.length ≤ 150
theorem RefP.carry {w w' : World} {R : Nat} {txs : List (List Fop)} {known : Int} (h : RefP w R txs known) (hb : Below w.heap.size w w') : RefP w' R txs known := by
  refine ⟨?_, there_yet h.c1 hb, h.most⟩
  rcases h.c0 with ⟨e, c⟩ | ⟨b, o, cap, c, hc, ht⟩
  · exact .inl ⟨e, there_yet c hb⟩
  · exact .inr ⟨b, o, cap, there_yet c hb, hc, ht.carry hb⟩
theorem RefP.len {w : World} {R : Nat} {txs : List (List Fop)} {known : Int} (h : RefP w R txs known) : ∃ ad cap, w.cell? ⟨R, 0, none⟩ = some (.slice ad txs.length cap) := by
  rcases h.c0 with ⟨rfl, c⟩ | ⟨b, o, cap, c, _, _⟩
  · exact ⟨_, _, c⟩
  · exact ⟨_, _, c⟩
set_option maxRecDepth 100000 in
set_option maxHeartbeats 8000000 in
theorem rp_Said0 {w : World} {R : Nat} (c0 : w.cell? ⟨R, 0, none⟩ = some (.slice none 0 0)) (k : Ky) (t : Int) :
    Calls Tryz.prog 60 #[.pointer (some ⟨R, 0, none⟩), .agg #[.int .i64 k.kind, .int .i64 k.a, .string k.word, .int .i64 k.b], .int .i64 0, .int .i64 t] w fun e w' => e = .returned (.string ⟨#[]⟩) ∧ Below w.heap.size w w' := by
  have HB := hide (below_box w (.cells #[.int .i64 k.kind, .int .i64 k.a, .string k.word, .int .i64 k.b] 32))
  have d0 := there_yet c0 (unhide HB)
  clear c0
  go_enter Tryz.func60, Tryz.ntmps60
  go_wp2
  generalize w.alloc (.cells #[.int .i64 k.kind, .int .i64 k.a, .string k.word, .int .i64 k.b] 32) = W0 at *
  go_loopw [9, 21] (fun v i y => v = .string ⟨#[]⟩ ∧ i = .int .i64 0 ∧ y = W0) (fun _ _ _ => 0)
  case atStart => exact ⟨rfl, rfl, rfl⟩
  case round =>
    obtain ⟨rfl, rfl, rfl⟩ := hrel
    go_wp2
    go_ret
    exact ⟨rfl, unhide HB⟩
theorem rp_said {w : World} {R : Nat} {txs : List (List Fop)} {known : Int} (h : RefP w R txs known) (k : Ky) (c : Nat) (ha : c ≤ txs.length) (t : Int) :
    Calls Tryz.prog 60 #[.pointer (some ⟨R, 0, none⟩), .agg #[.int .i64 k.kind, .int .i64 k.a, .string k.word, .int .i64 k.b], .int .i64 c, .int .i64 t] w fun e w' => e = .returned (.string (refS txs k c t)) ∧ Below w.heap.size w w' := by
  rcases h.c0 with ⟨rfl, c0⟩ | ⟨b, o, cap, c0, hc, ht⟩
  · obtain rfl : c = 0 := Nat.le_zero.1 ha
    exact rp_Said0 c0 k t
  · exact rp_Said c0 rfl hc ht k c ha (Nat.le_trans h.most (by decide)) t
def timedB (t : Int) : Bool := decide (-1099511627776 ≤ t ∧ t < 1099511627776)
set_option maxHeartbeats 1000000 in
theorem ref_timed (t : Int) (w : World) :
    Calls Tryz.prog 98 #[.int .i64 t] w fun e w' => e = .returned (.bool (timedB t)) ∧ w' = w := by
  by_cases h1 : -1099511627776 ≤ t
  · by_cases h2 : t < 1099511627776
    · have e : timedB t = true := decide_eq_true ⟨h1, h2⟩
      rw [e]
      clear e
      go_enter Tryz.func98, Tryz.ntmps98
      go_wp2
      go_ret
      exact ⟨rfl, rfl⟩
    · have e : timedB t = false := decide_eq_false (fun q => h2 q.2)
      rw [e]
      clear e
      go_enter Tryz.func98, Tryz.ntmps98
      go_wp2
      go_ret
      exact ⟨rfl, rfl⟩
  · have e : timedB t = false := decide_eq_false (fun q => h1 q.1)
    rw [e]
    clear e
    go_enter Tryz.func98, Tryz.ntmps98
    go_wp2
    go_ret
    exact ⟨rfl, rfl⟩
end Go.Proofs.YtfoojmflbifkpaaGreatDoor

/- The document's Value, at all arguments: walked. -/
namespace Go.Proofs.YtfoojmflbifkpaaGreatDoor
open Go.RowKit Go.Maps
end Go.Proofs.YtfoojmflbifkpaaGreatDoor

/- The document's pieces: plain. -/
namespace Go.Proofs.YtfoojmflbifkpaaGreatDoor
def closeL (l : List (Int × Int × ByteArray)) (t : Int) : List (Int × Int × ByteArray) := l.dropLast ++ (l.getLast?.map (fun p => (p.1, t, p.2.2))).toList
def pieceStep (f : Int → ByteArray) (st : List (Int × Int × ByteArray) × ByteArray) (t : Int) : List (Int × Int × ByteArray) × ByteArray :=
  if f t = st.2 then st else
    let o := if st.2 = ByteArray.empty then st.1 else closeL st.1 t
    (if f t = ByteArray.empty then o else o ++ [(t, 0, f t)], f t)
theorem closeL_snoc (d : List (Int × Int × ByteArray)) (a z t : Int) (v : ByteArray) : closeL (d ++ [(a, z, v)]) t = d ++ [(a, t, v)] := by
  unfold closeL
  simp
structure Half (f : Int → ByteArray) (e : Int) (st : List (Int × Int × ByteArray) × ByteArray) (d : List (Int × Int × ByteArray)) (cut : Int) : Prop where
  here : f e = st.2
  le : cut ≤ e
  canon : Canon d
  ends : ∀ p, p ∈ d → p.2.1 ≤ cut
  cov : ∀ t, t < cut → (∀ p, p ∈ d → p.1 ≤ t → t < p.2.1 → p.2.2 = f t) ∧ (f t ≠ ByteArray.empty → ∃ p, p ∈ d ∧ p.1 ≤ t ∧ t < p.2.1)
  shape : (st.2 = ByteArray.empty ∧ st.1 = d ∧ cut = e) ∨ (st.2 ≠ ByteArray.empty ∧ st.1 = d ++ [(cut, 0, st.2)] ∧ (-1099511627776 ≤ cut ∧ cut ≤ 1099511627776) ∧ (∀ t, cut ≤ t → t ≤ e → f t = st.2) ∧ ∀ p, d.getLast? = some p → ¬ (p.2.1 = cut ∧ p.2.2 = st.2))
theorem Half.step {f : Int → ByteArray} {e : Int} {st : List (Int × Int × ByteArray) × ByteArray} {d : List (Int × Int × ByteArray)} {cut : Int} (h : Half f e st d cut) {t : Int} (ht : e ≤ t) (hb : -1099511627776 ≤ t ∧ t ≤ 1099511627776) (hf : ∀ s, e ≤ s → s < t → f s = f e) : ∃ d' cut', Half f t (pieceStep f st t) d' cut' := by
  unfold pieceStep
  by_cases hv : f t = st.2
  · rw [if_pos hv]
    rcases h.shape with ⟨s1, s2, s3⟩ | ⟨s1, s2, s3, s4, s5⟩
    · subst s3
      refine ⟨d, t, hv, Int.le_refl _, h.canon, fun p hp => by have := h.ends p hp; omega, fun s hs => ?_, .inl ⟨s1, s2, rfl⟩⟩
      by_cases q : s < cut
      · exact h.cov s q
      · have fs : f s = ByteArray.empty := by rw [hf s (by omega) hs, h.here, s1]
        refine ⟨fun p hp a b => ?_, fun n => absurd fs n⟩
        have := h.ends p hp
        omega
    · refine ⟨d, cut, hv, by have := h.le; omega, h.canon, h.ends, h.cov, .inr ⟨s1, s2, s3, fun s a b => ?_, s5⟩⟩
      by_cases q : s ≤ e
      · exact s4 s a q
      · by_cases q2 : s < t
        · rw [hf s (by omega) q2, h.here]
        · obtain rfl : s = t := by omega
          exact hv
  · rw [if_neg hv]
    have het : e ≠ t := fun q => hv (by rw [← q]; exact h.here)
    dsimp only
    -- what is shut
    obtain ⟨d1, k1, k2, k3, k4, k5⟩ : ∃ d1, (if st.2 = ByteArray.empty then st.1 else closeL st.1 t) = d1 ∧ Canon d1 ∧ (∀ p, p ∈ d1 → p.2.1 ≤ t) ∧ (∀ s, s < t → (∀ p, p ∈ d1 → p.1 ≤ s → s < p.2.1 → p.2.2 = f s) ∧ (f s ≠ ByteArray.empty → ∃ p, p ∈ d1 ∧ p.1 ≤ s ∧ s < p.2.1)) ∧ (∀ p, d1.getLast? = some p → ¬ (p.2.1 = t ∧ p.2.2 = f t)) := by
      rcases h.shape with ⟨s1, s2, s3⟩ | ⟨s1, s2, s3, s4, s5⟩
      · subst s3
        refine ⟨d, by rw [if_pos s1, s2], h.canon, fun p hp => by have := h.ends p hp; omega, fun s hs => ?_, fun p hp hq => ?_⟩
        · by_cases q : s < cut
          · exact h.cov s q
          · have fs : f s = ByteArray.empty := by rw [hf s (by omega) hs, h.here, s1]
            refine ⟨fun p hp a b => ?_, fun n => absurd fs n⟩
            have := h.ends p hp
            omega
        · have := h.ends p (List.mem_of_getLast? hp)
          omega
      · have hle := h.le
        have hlt : cut < t := by omega
        have hr : rightB cut t = true := decide_eq_true ⟨s3.1, hb.2, hlt⟩
        refine ⟨d ++ [(cut, t, st.2)], by rw [if_neg s1, s2, closeL_snoc], canon_snoc h.canon ⟨hr, s1⟩ h.ends s5, fun p hp => ?_, fun s hs => ?_, fun p hp hq => ?_⟩
        · rcases List.mem_append.1 hp with q | q
          · have := h.ends p q; omega
          · obtain rfl := List.mem_singleton.1 q
            exact Int.le_refl _
        · have here : ∀ u, cut ≤ u → u < t → f u = st.2 := fun u a b => by
            by_cases q : u ≤ e
            · exact s4 u a q
            · rw [hf u (by omega) b, h.here]
          by_cases q : s < cut
          · obtain ⟨c1, c2⟩ := h.cov s q
            refine ⟨fun p hp a b => ?_, fun n => ?_⟩
            · rcases List.mem_append.1 hp with r | r
              · exact c1 p r a b
              · obtain rfl := List.mem_singleton.1 r
                have : cut ≤ s := a
                omega
            · obtain ⟨p, hp, a, b⟩ := c2 n
              exact ⟨p, by simp [hp], a, b⟩
          · refine ⟨fun p hp a b => ?_, fun _ => ⟨(cut, t, st.2), by simp, by show cut ≤ s; omega, hs⟩⟩
            rcases List.mem_append.1 hp with r | r
            · have := h.ends p r
              omega
            · obtain rfl := List.mem_singleton.1 r
              exact (here s (by omega) hs).symm
        · rw [List.getLast?_concat] at hp
          cases hp
          exact hv hq.2.symm
    rw [k1]
    by_cases he : f t = ByteArray.empty
    · rw [if_pos he]
      exact ⟨d1, t, rfl, Int.le_refl _, k2, k3, k4, .inl ⟨he, rfl, rfl⟩⟩
    · rw [if_neg he]
      refine ⟨d1, t, rfl, Int.le_refl _, k2, k3, k4, .inr ⟨he, rfl, hb, fun s a b => ?_, k5⟩⟩
      obtain rfl : s = t := by omega
      rfl
end Go.Proofs.YtfoojmflbifkpaaGreatDoor
