/- Texts of one proof, one behind the other. -/
import Derived.Test.YtfoojmflbifkpaaGreatDoorEx
import Derived.Test.YtfoojmflbifkpaaGreatDoorEa
import Derived.Test.YtfoojmflbifkpaaGreatDoorEl
import Derived.Deep.DeepCutAuto
set_option maxRecDepth 100000
set_option maxHeartbeats 16000000
namespace Go.Proofs.YtfoojmflbifkpaaGreatDoor
open Go.RowKit Go.Maps
theorem rp_Now {w : World} {R n cap : Nat} {ad : Option Addr} (c0 : w.cell? ⟨R, 0, none⟩ = some (.slice ad n cap)) :
  Calls Tryz.prog 43 #[.pointer (some ⟨R, 0, none⟩)] w fun e w' => e = .returned (.int .i64 n) /\ w' = w := by
 go_enter Tryz.func43, Tryz.ntmps43
 go_wp2
 go_ret
 exact ⟨rfl, rfl⟩
theorem rp_Ask {w : World} {R n cap : Nat} {known : Int} {ad : Option Addr} (c0 : w.cell? ⟨R, 0, none⟩ = some (.slice ad n cap)) (c1 : w.cell? ⟨R, 1, none⟩ = some (.int .i64 known)) (at_ : Int) :
  Calls Tryz.prog 96 #[.pointer (some ⟨R, 0, none⟩), .int .i64 at_] w fun e w' => e = .returned (.int .i64 (countErr n known at_)) /\ w' = w := by
 have HN := zh (rp_Now c0)
 have HI := zh (fun W => ref_in at_ 0 n W)
 by_cases h1 : at_ < 0 \/ (n : Int) < at_
 ·have e : Hid (countErr n known at_ = 2) := by unfold Hid countErr; rw [if_pos h1]
  have hi : inB at_ 0 n = false := decide_eq_false (by omega)
  rw [hi] at HI
  clear h1 hi c0
  go_enter Tryz.func96, Tryz.ntmps96
  go_wp2_with fail
  refine (uh HN).mono ?_
  rintro r W1 ⟨rfl, rfl⟩
  go_wp2_with fail
  refine (uh HI _).mono ?_
  rintro r W2 ⟨rfl, rfl⟩
  go_wp2
  go_ret
  exact ⟨by rw [uh e]; rfl, rfl⟩
 ·have hi : inB at_ 0 n = true := decide_eq_true (by omega)
  rw [hi] at HI
  by_cases h3 : at_ < known
  ·have e : Hid (countErr n known at_ = 7) := by unfold Hid countErr; rw [if_neg h1, if_pos h3]
   clear h1 hi c0
   go_enter Tryz.func96, Tryz.ntmps96
   go_wp2_with fail
   refine (uh HN).mono ?_
   rintro r W1 ⟨rfl, rfl⟩
   go_wp2_with fail
   refine (uh HI _).mono ?_
   rintro r W2 ⟨rfl, rfl⟩
   go_wp2
   go_ret
   exact ⟨by rw [uh e]; rfl, rfl⟩
  ·have e : Hid (countErr n known at_ = 0) := by unfold Hid countErr; rw [if_neg h1, if_neg h3]
   clear h1 hi c0
   go_enter Tryz.func96, Tryz.ntmps96
   go_wp2_with fail
   refine (uh HN).mono ?_
   rintro r W1 ⟨rfl, rfl⟩
   go_wp2_with fail
   refine (uh HI _).mono ?_
   rintro r W2 ⟨rfl, rfl⟩
   go_wp2
   go_ret
   exact ⟨by rw [uh e]; rfl, rfl⟩
end Go.Proofs.YtfoojmflbifkpaaGreatDoor

namespace Go.Proofs.YtfoojmflbifkpaaGreatDoor
open Go.RowKit
theorem ref_Has (lo hi t : Int) (w : World) :
  Calls Tryz.prog 110 #[.agg #[.int .i64 lo, .int .i64 hi], .int .i64 t] w fun e w' => e = .returned (.bool (decide (lo <= t /\ t < hi))) /\ Below w.heap.size w w' := by
 by_cases h1 : lo <= t
 ·by_cases h2 : t < hi
  ·have e : decide (lo <= t /\ t < hi) = true := by simp [h1, h2]
   rw [e]
   clear e
   go_enter Tryz.func110, Tryz.ntmps110
   go_wp2
   go_ret
   exact ⟨rfl, below_box _ _⟩
  ·have e : decide (lo <= t /\ t < hi) = false := by simp [h2]
   rw [e]
   clear e
   go_enter Tryz.func110, Tryz.ntmps110
   go_wp2
   go_ret
   exact ⟨rfl, below_box _ _⟩
 ·have e : decide (lo <= t /\ t < hi) = false := by simp [h1]
  rw [e]
  clear e
  go_enter Tryz.func110, Tryz.ntmps110
  go_wp2
  go_ret
  exact ⟨rfl, below_box _ _⟩
end Go.Proofs.YtfoojmflbifkpaaGreatDoor

namespace Go.Proofs.YtfoojmflbifkpaaGreatDoor
open Go.RowKit Go.Maps
def TxsAt (w : World) (b o : Nat) (txs : List (List Fop)) : Prop :=
 ∀ j, (hj : j < txs.length) -> ∃ g f cap, w.cell? ⟨b, o + j, none⟩ = some (.slice (some ⟨g, f, none⟩) (txs[j]).length cap) /\ OpsAt w g f txs[j] /\ txs[j].length <= 8
theorem TxsAt.carry {w w' : World} {b o : Nat} {txs : List (List Fop)} (h : TxsAt w b o txs) (hb : Below w.heap.size w w') : TxsAt w' b o txs := fun j hj => by
 obtain ⟨g, f, cap, h1, h2, h3⟩ := h j hj
 exact ⟨g, f, cap, (hb.cell (lt_of_cell h1)).trans h1, h2.carry hb, h3⟩
theorem rp_Said {w : World} {R b o n cap : Nat} {txs : List (List Fop)} (c0 : w.cell? ⟨R, 0, none⟩ = some (.slice (some ⟨b, o, none⟩) n cap)) (hn : Hid (n = txs.length)) (hc : n <= cap) (hT : TxsAt w b o txs) (k : Ky) (c : Nat) (ha : c <= n) (hm : n <= 1000) (t : Int) :
  Calls Tryz.prog 60 #[.pointer (some ⟨R, 0, none⟩), .agg #[.int .i64 k.kind, .int .i64 k.a, .string k.word, .int .i64 k.b], .int .i64 c, .int .i64 t] w fun e w' => e = .returned (.string (refS txs k c t)) /\ Below w.heap.size w w' := by
 have HB := zh (below_box w (.cells #[.int .i64 k.kind, .int .i64 k.a, .string k.word, .int .i64 k.b] 32))
 have HK := zh (boxK_new w k)
 have d0 := there_yet c0 (uh HB)
 have HT := zh (hT.carry (uh HB))
 have hc0 : (0 : Int) <= (c : Int) := by omega
 have hc1 : (c : Int) <= (cap : Int) := by omega
 clear hT c0
 go_enter Tryz.func60, Tryz.ntmps60
 go_wp2
 generalize w.alloc (.cells #[.int .i64 k.kind, .int .i64 k.a, .string k.word, .int .i64 k.b] 32) = W0 at *
 go_loopw [9, 21] (fun v i y => ∃ j : Nat, j <= c /\ v = .string (refS txs k j t) /\ i = .int .i64 j /\ Below W0.heap.size W0 y) (fun _ i _ => c - (intOf i).toNat)
 case atStart => exact ⟨0, by omega, rfl, rfl, Below.refl _ _⟩
 case round =>
  obtain ⟨j, hj, rfl, rfl, hb⟩ := hrel
  have HB1 := zh hb
  clear hb
  by_cases hlt : j < c
  ·have hlt' : (j : Int) < (c : Int) := by omega
   have hj0 : (0 : Int) <= (j : Int) := by omega
   have hjt : j < txs.length := by have := uh hn; omega
   have HSj := zh (refS_snoc txs k t j hjt)
   obtain ⟨g, f, cp, r0, r1, r2⟩ := uh HT j hjt
   obtain ⟨l, hl⟩ : ∃ l, l = txs[j] := ⟨_, rfl⟩
   rw [<- hl] at r0 r1 r2 HSj
   have q0 := there_yet r0 (uh HB1)
   have HAt := zh (r1.carry (uh HB1))
   have HK1 := zh ((uh HK).below (uh HB1))
   obtain ⟨v0, hv0⟩ : ∃ v, v = refS txs k j t := ⟨_, rfl⟩
   rw [<- hv0] at HSj ⊢
   clear r0 r1 hl hv0 hjt
   go_upto_region 5 with fail
   go_wp2
   go_loopw [9, 27] (fun v i y => ∃ m : Nat, m <= l.length /\ v = .string (lastV k t v0 (l.take m)) /\ i = .int .i64 m /\ Below wr.heap.size wr y) (fun _ i _ => l.length - (intOf i).toNat)
   case atStart => exact ⟨0, by omega, rfl, rfl, Below.refl _ _⟩
   case round =>
    obtain ⟨m, hm', rfl, rfl, hb⟩ := hrel
    have HBm := zh hb
    clear hb q0
    by_cases hml : m < l.length
    ·have hml' : (m : Int) < (l.length : Int) := by omega
     have hm0 : (0 : Int) <= (m : Int) := by omega
     obtain ⟨a0, a1, a2, a3, a4, a5, a6⟩ := (uh HAt).2 m hml
     have HSn : Hid (lastV k t v0 (l.take (m + 1)) = stepV k t (lastV k t v0 (l.take m)) l[m]) := by
      unfold Hid
      rw [List.take_succ_eq_append_getElem hml, lastV_snoc]
     obtain ⟨o, ho⟩ : ∃ o, o = l[m] := ⟨_, rfl⟩
     rw [<- ho] at a0 a1 a2 a3 a4 a5 a6 HSn
     have z0 := there_yet a0 (uh HBm)
     have z1 := there_yet a1 (uh HBm)
     have z2 := there_yet a2 (uh HBm)
     have z3 := there_yet a3 (uh HBm)
     have z4 := there_yet a4 (uh HBm)
     have z5 := there_yet a5 (uh HBm)
     have z6 := there_yet a6 (uh HBm)
     obtain ⟨v1, hv1⟩ : ∃ v, v = lastV k t v0 (l.take m) := ⟨_, rfl⟩
     rw [<- hv1] at HSn ⊢
     have HB8 := zh (below_box wr (.cells #[.int .i64 o.kind, .int .i64 o.a, .string o.word, .int .i64 o.b, .int .i64 o.lo, .int .i64 o.hi, .string o.value] 36))
     have k0 := there_yet (uh HK1).c0 (uh HBm)
     have k1 := there_yet (uh HK1).c1 (uh HBm)
     have k2 := there_yet (uh HK1).c2 (uh HBm)
     have k3 := there_yet (uh HK1).c3 (uh HBm)
     clear a0 a1 a2 a3 a4 a5 a6 ho hv1
     go_upto_region 8 with fail
     have y0 : (wr.alloc (.cells #[.int .i64 o.kind, .int .i64 o.a, .string o.word, .int .i64 o.b, .int .i64 o.lo, .int .i64 o.hi, .string o.value] 36)).cell? ⟨wr.heap.size, 0, none⟩ = some (.int .i64 o.kind) := by simp
     have y1 : (wr.alloc (.cells #[.int .i64 o.kind, .int .i64 o.a, .string o.word, .int .i64 o.b, .int .i64 o.lo, .int .i64 o.hi, .string o.value] 36)).cell? ⟨wr.heap.size, 1, none⟩ = some (.int .i64 o.a) := by simp
     have y2 : (wr.alloc (.cells #[.int .i64 o.kind, .int .i64 o.a, .string o.word, .int .i64 o.b, .int .i64 o.lo, .int .i64 o.hi, .string o.value] 36)).cell? ⟨wr.heap.size, 2, none⟩ = some (.string o.word) := by simp
     have y3 : (wr.alloc (.cells #[.int .i64 o.kind, .int .i64 o.a, .string o.word, .int .i64 o.b, .int .i64 o.lo, .int .i64 o.hi, .string o.value] 36)).cell? ⟨wr.heap.size, 3, none⟩ = some (.int .i64 o.b) := by simp
     have y4 : (wr.alloc (.cells #[.int .i64 o.kind, .int .i64 o.a, .string o.word, .int .i64 o.b, .int .i64 o.lo, .int .i64 o.hi, .string o.value] 36)).cell? ⟨wr.heap.size, 4, none⟩ = some (.int .i64 o.lo) := by simp
     have y5 : (wr.alloc (.cells #[.int .i64 o.kind, .int .i64 o.a, .string o.word, .int .i64 o.b, .int .i64 o.lo, .int .i64 o.hi, .string o.value] 36)).cell? ⟨wr.heap.size, 5, none⟩ = some (.int .i64 o.hi) := by simp
     have y6 : (wr.alloc (.cells #[.int .i64 o.kind, .int .i64 o.a, .string o.word, .int .i64 o.b, .int .i64 o.lo, .int .i64 o.hi, .string o.value] 36)).cell? ⟨wr.heap.size, 6, none⟩ = some (.string o.value) := by simp
     have k0' := there_yet k0 (uh HB8)
     have k1' := there_yet k1 (uh HB8)
     have k2' := there_yet k2 (uh HB8)
     have k3' := there_yet k3 (uh HB8)
     have HB9 := zh ((uh HBm).trans ((uh HB8).mono (uh HBm).size))
     clear z0 z1 z2 z3 z4 z5 z6 k0 k1 k2 k3 HB8 HBm
     generalize wr.alloc (.cells #[.int .i64 o.kind, .int .i64 o.a, .string o.word, .int .i64 o.b, .int .i64 o.lo, .int .i64 o.hi, .string o.value] 36) = W9 at *
     generalize wr.heap.size = gb at *
     by_cases hsk : kyO o = k
     ·have HHas := zh (fun W => ref_Has o.lo o.hi t W)
      have HE := zh (sameK_iff.2 hsk)
      have hk0 : k.kind = o.kind := by rw [<- hsk]; rfl
      have hk1 : k.a = o.a := by rw [<- hsk]; rfl
      have hk2 : k.word = o.word := by rw [<- hsk]; rfl
      have hk3 : k.b = o.b := by rw [<- hsk]; rfl
      rw [hk0] at k0'
      rw [hk1] at k1'
      rw [hk2] at k2'
      rw [hk3] at k3'
      clear hsk hk0 hk1 hk2 hk3
      go_wp2_with fail
      refine (uh HHas _).mono ?_
      rintro e Wh ⟨rfl, bh⟩
      have HB10 := zh ((uh HB9).trans (bh.mono (uh HB9).size))
      have y6' := there_yet y6 bh
      clear bh
      by_cases hh : o.lo <= t /\ t < o.hi
      ·have HSv : Hid (lastV k t v0 (l.take (m + 1)) = o.value) := by
        unfold Hid
        rw [uh HSn]
        unfold stepV
        rw [uh HE, decide_eq_true hh]
        rfl
       have hd := decide_eq_true hh
       rw [hd]
       clear hh hd
       go_wp2
       go_roundw
       case rel => exact ⟨m + 1, by omega, by rw [uh HSv], by go_num, uh HB10⟩
       case measure => simp [intOf]; omega
      ·have HSv : Hid (lastV k t v0 (l.take (m + 1)) = v1) := by
        unfold Hid
        rw [uh HSn]
        unfold stepV
        rw [uh HE, decide_eq_false hh]
        rfl
       have hd := decide_eq_false hh
       rw [hd]
       clear hh hd
       go_wp2
       go_roundw
       case rel => exact ⟨m + 1, by omega, by rw [uh HSv], by go_num, uh HB10⟩
       case measure => simp [intOf]; omega
     ·have HSv : Hid (lastV k t v0 (l.take (m + 1)) = v1) := by
       have HE : sameK (kyO o) k = false := by
        cases e : sameK (kyO o) k with
        | false => rfl
        | true => exact absurd (sameK_iff.1 e) hsk
       unfold Hid
       rw [uh HSn]
       unfold stepV
       rw [HE]
       rfl
      go_upto_region 9 with fail
      all_goals (try (exfalso; exact hsk (key_of (by assumption) (by assumption) (by assumption) (by assumption))))
      ·go_wp2
       go_roundw
       case rel => exact ⟨m + 1, by omega, by rw [uh HSv], by go_num, uh HB9⟩
       case measure => simp [intOf]; omega
      ·go_wp2
       go_roundw
       case rel => exact ⟨m + 1, by omega, by rw [uh HSv], by go_num, uh HB9⟩
       case measure => simp [intOf]; omega
      ·go_wp2
       go_roundw
       case rel => exact ⟨m + 1, by omega, by rw [uh HSv], by go_num, uh HB9⟩
       case measure => simp [intOf]; omega
      ·go_wp2
       go_roundw
       case rel => exact ⟨m + 1, by omega, by rw [uh HSv], by go_num, uh HB9⟩
       case measure => simp [intOf]; omega
    ·obtain rfl : m = l.length := by omega
     have hlt3 : ¬ (l.length : Int) < (l.length : Int) := by omega
     rw [List.take_length]
     go_wp2
     go_roundw
     case rel => exact ⟨j + 1, by omega, by rw [uh HSj], by go_num, (uh HB1).trans ((uh HBm).mono (uh HB1).size)⟩
     case measure => simp [intOf]; omega
  ·obtain rfl : j = c := by omega
   have hlt' : ¬ (j : Int) < (j : Int) := by omega
   go_wp2
   go_ret
   exact ⟨rfl, (uh HB).trans ((uh HB1).mono (uh HB).size)⟩
structure RefP (w : World) (R : Nat) (txs : List (List Fop)) (known : Int) : Prop where
 c0 : (txs = [] /\ w.cell? ⟨R, 0, none⟩ = some (.slice none 0 0)) \/ ∃ b o cap, w.cell? ⟨R, 0, none⟩ = some (.slice (some ⟨b, o, none⟩) txs.length cap) /\ txs.length <= cap /\ TxsAt w b o txs
 c1 : w.cell? ⟨R, 1, none⟩ = some (.int .i64 known)
 most : txs.length <= 150
theorem RefP.carry {w w' : World} {R : Nat} {txs : List (List Fop)} {known : Int} (h : RefP w R txs known) (hb : Below w.heap.size w w') : RefP w' R txs known := by
 refine ⟨?_, there_yet h.c1 hb, h.most⟩
 rcases h.c0 with ⟨e, c⟩ | ⟨b, o, cap, c, hc, ht⟩
 ·exact .inl ⟨e, there_yet c hb⟩
 ·exact .inr ⟨b, o, cap, there_yet c hb, hc, ht.carry hb⟩
theorem RefP.len {w : World} {R : Nat} {txs : List (List Fop)} {known : Int} (h : RefP w R txs known) : ∃ ad cap, w.cell? ⟨R, 0, none⟩ = some (.slice ad txs.length cap) := by
 rcases h.c0 with ⟨rfl, c⟩ | ⟨b, o, cap, c, _, _⟩
 ·exact ⟨_, _, c⟩
 ·exact ⟨_, _, c⟩
theorem rp_Said0 {w : World} {R : Nat} (c0 : w.cell? ⟨R, 0, none⟩ = some (.slice none 0 0)) (k : Ky) (t : Int) :
  Calls Tryz.prog 60 #[.pointer (some ⟨R, 0, none⟩), .agg #[.int .i64 k.kind, .int .i64 k.a, .string k.word, .int .i64 k.b], .int .i64 0, .int .i64 t] w fun e w' => e = .returned (.string ⟨#[]⟩) /\ Below w.heap.size w w' := by
 have HB := zh (below_box w (.cells #[.int .i64 k.kind, .int .i64 k.a, .string k.word, .int .i64 k.b] 32))
 have d0 := there_yet c0 (uh HB)
 clear c0
 go_enter Tryz.func60, Tryz.ntmps60
 go_wp2
 generalize w.alloc (.cells #[.int .i64 k.kind, .int .i64 k.a, .string k.word, .int .i64 k.b] 32) = W0 at *
 go_loopw [9, 21] (fun v i y => v = .string ⟨#[]⟩ /\ i = .int .i64 0 /\ y = W0) (fun _ _ _ => 0)
 case atStart => exact ⟨rfl, rfl, rfl⟩
 case round =>
  obtain ⟨rfl, rfl, rfl⟩ := hrel
  go_wp2
  go_ret
  exact ⟨rfl, uh HB⟩
theorem rp_said {w : World} {R : Nat} {txs : List (List Fop)} {known : Int} (h : RefP w R txs known) (k : Ky) (c : Nat) (ha : c <= txs.length) (t : Int) :
  Calls Tryz.prog 60 #[.pointer (some ⟨R, 0, none⟩), .agg #[.int .i64 k.kind, .int .i64 k.a, .string k.word, .int .i64 k.b], .int .i64 c, .int .i64 t] w fun e w' => e = .returned (.string (refS txs k c t)) /\ Below w.heap.size w w' := by
 rcases h.c0 with ⟨rfl, c0⟩ | ⟨b, o, cap, c0, hc, ht⟩
 ·obtain rfl : c = 0 := Nat.le_zero.1 ha
  exact rp_Said0 c0 k t
 ·exact rp_Said c0 rfl hc ht k c ha (Nat.le_trans h.most (by decide)) t
def timedB (t : Int) : Bool := decide (-1099511627776 <= t /\ t < 1099511627776)
theorem ref_timed (t : Int) (w : World) :
  Calls Tryz.prog 98 #[.int .i64 t] w fun e w' => e = .returned (.bool (timedB t)) /\ w' = w := by
 by_cases h1 : -1099511627776 <= t
 ·by_cases h2 : t < 1099511627776
  ·have e : timedB t = true := decide_eq_true ⟨h1, h2⟩
   rw [e]
   clear e
   go_enter Tryz.func98, Tryz.ntmps98
   go_wp2
   go_ret
   exact ⟨rfl, rfl⟩
  ·have e : timedB t = false := decide_eq_false (fun q => h2 q.2)
   rw [e]
   clear e
   go_enter Tryz.func98, Tryz.ntmps98
   go_wp2
   go_ret
   exact ⟨rfl, rfl⟩
 ·have e : timedB t = false := decide_eq_false (fun q => h1 q.1)
  rw [e]
  clear e
  go_enter Tryz.func98, Tryz.ntmps98
  go_wp2
  go_ret
  exact ⟨rfl, rfl⟩
theorem rp_value_count {w : World} {R : Nat} {txs : List (List Fop)} {known : Int} (h : RefP w R txs known) (k : Ky) (at_ t e : Int) (he : countErr txs.length known at_ = e) (hne : e ≠ 0) :
  Calls Tryz.prog 48 #[.pointer (some ⟨R, 0, none⟩), .agg #[.int .i64 k.kind, .int .i64 k.a, .string k.word, .int .i64 k.b], .int .i64 at_, .int .i64 t] w fun r w' => r = .returned (.tuple #[.string ⟨#[]⟩, .int .i64 e]) /\ Below w.heap.size w w' := by
 have HB := zh (below_box w (.cells #[.int .i64 k.kind, .int .i64 k.a, .string k.word, .int .i64 k.b] 32))
 have HP := zh (h.carry (uh HB))
 have HK := zh (boxK_new w k)
 obtain ⟨ad, cap, c0⟩ := (uh HP).len
 have HA := zh (rp_Ask c0 (uh HP).c1 at_)
 rw [he] at HA
 clear h c0 he
 go_enter Tryz.func48, Tryz.ntmps48
 go_wp2_with fail
 generalize w.alloc (.cells #[.int .i64 k.kind, .int .i64 k.a, .string k.word, .int .i64 k.b] 32) = W0 at *
 refine (uh HA).mono ?_
 rintro e W1 ⟨rfl, rfl⟩
 go_wp2
 go_ret2
 exact ⟨rfl, uh HB⟩
theorem rp_value_key {w : World} {R : Nat} {txs : List (List Fop)} {known : Int} (h : RefP w R txs known) (k : Ky) (hk : KyOk k) (hkb : keyB k.kind k.a k.word k.b = false) (at_ t : Int) (he : countErr txs.length known at_ = 0) :
  Calls Tryz.prog 48 #[.pointer (some ⟨R, 0, none⟩), .agg #[.int .i64 k.kind, .int .i64 k.a, .string k.word, .int .i64 k.b], .int .i64 at_, .int .i64 t] w fun r w' => r = .returned (.tuple #[.string ⟨#[]⟩, .int .i64 1]) /\ Below w.heap.size w w' := by
 have HB := zh (below_box w (.cells #[.int .i64 k.kind, .int .i64 k.a, .string k.word, .int .i64 k.b] 32))
 have HP := zh (h.carry (uh HB))
 have HK := zh (boxK_new w k)
 obtain ⟨ad, cap, c0⟩ := (uh HP).len
 have HA := zh (rp_Ask c0 (uh HP).c1 at_)
 rw [he] at HA
 have HKy := zh (fun W => ref_Key k.kind k.a k.word k.b W hk.word)
 rw [hkb] at HKy
 have k0 := (uh HK).c0
 have k1 := (uh HK).c1
 have k2 := (uh HK).c2
 have k3 := (uh HK).c3
 clear h c0 he hkb
 go_enter Tryz.func48, Tryz.ntmps48
 go_wp2_with fail
 generalize w.alloc (.cells #[.int .i64 k.kind, .int .i64 k.a, .string k.word, .int .i64 k.b] 32) = W0 at *
 refine (uh HA).mono ?_
 rintro e W1 ⟨rfl, rfl⟩
 go_wp2_with fail
 refine (uh HKy _).mono ?_
 rintro e W2 ⟨rfl, hW2⟩
 have b2 : Below W1.heap.size W1 W2 := by rw [hW2]; exact below_box _ _
 have HB2 := zh ((uh HB).trans (b2.mono (uh HB).size))
 clear hW2 b2 HK HB k0 k1 k2 k3 HA HKy HP
 go_wp2
 go_ret2
 exact ⟨rfl, uh HB2⟩
theorem rp_value_time {w : World} {R : Nat} {txs : List (List Fop)} {known : Int} (h : RefP w R txs known) (k : Ky) (hk : KyOk k) (hkb : keyB k.kind k.a k.word k.b = true) (at_ t : Int) (he : countErr txs.length known at_ = 0) (ht : timedB t = false) :
  Calls Tryz.prog 48 #[.pointer (some ⟨R, 0, none⟩), .agg #[.int .i64 k.kind, .int .i64 k.a, .string k.word, .int .i64 k.b], .int .i64 at_, .int .i64 t] w fun r w' => r = .returned (.tuple #[.string ⟨#[]⟩, .int .i64 1]) /\ Below w.heap.size w w' := by
 have HB := zh (below_box w (.cells #[.int .i64 k.kind, .int .i64 k.a, .string k.word, .int .i64 k.b] 32))
 have HP := zh (h.carry (uh HB))
 have HK := zh (boxK_new w k)
 obtain ⟨ad, cap, c0⟩ := (uh HP).len
 have HA := zh (rp_Ask c0 (uh HP).c1 at_)
 rw [he] at HA
 have HTm := zh (fun W => ref_timed t W)
 rw [ht] at HTm
 have HKy := zh (fun W => ref_Key k.kind k.a k.word k.b W hk.word)
 rw [hkb] at HKy
 have k0 := (uh HK).c0
 have k1 := (uh HK).c1
 have k2 := (uh HK).c2
 have k3 := (uh HK).c3
 clear h c0 he hkb ht
 go_enter Tryz.func48, Tryz.ntmps48
 go_wp2_with fail
 generalize w.alloc (.cells #[.int .i64 k.kind, .int .i64 k.a, .string k.word, .int .i64 k.b] 32) = W0 at *
 refine (uh HA).mono ?_
 rintro e W1 ⟨rfl, rfl⟩
 go_wp2_with fail
 refine (uh HKy _).mono ?_
 rintro e W2 ⟨rfl, hW2⟩
 have b2 : Below W1.heap.size W1 W2 := by rw [hW2]; exact below_box _ _
 have HB2 := zh ((uh HB).trans (b2.mono (uh HB).size))
 clear hW2 b2 HK HB k0 k1 k2 k3 HA HKy HP
 go_wp2_with fail
 refine (uh HTm _).mono ?_
 rintro e W3 ⟨rfl, rfl⟩
 go_wp2
 go_ret2
 exact ⟨rfl, uh HB2⟩
theorem rp_value_ok {w : World} {R : Nat} {txs : List (List Fop)} {known : Int} (h : RefP w R txs known) (k : Ky) (hk : KyOk k) (hkb : keyB k.kind k.a k.word k.b = true) (c : Nat) (at_ t : Int) (hc : at_ = (c : Int)) (hcn : c <= txs.length) (he : countErr txs.length known at_ = 0) (ht : timedB t = true) :
  Calls Tryz.prog 48 #[.pointer (some ⟨R, 0, none⟩), .agg #[.int .i64 k.kind, .int .i64 k.a, .string k.word, .int .i64 k.b], .int .i64 at_, .int .i64 t] w fun r w' => r = .returned (.tuple #[.string (refS txs k c t), .int .i64 0]) /\ Below w.heap.size w w' := by
 have HB := zh (below_box w (.cells #[.int .i64 k.kind, .int .i64 k.a, .string k.word, .int .i64 k.b] 32))
 have HP := zh (h.carry (uh HB))
 have HK := zh (boxK_new w k)
 obtain ⟨ad, cap, c0⟩ := (uh HP).len
 have HA := zh (rp_Ask c0 (uh HP).c1 at_)
 rw [he] at HA
 have HTm := zh (fun W => ref_timed t W)
 rw [ht] at HTm
 have HKy := zh (fun W => ref_Key k.kind k.a k.word k.b W hk.word)
 rw [hkb] at HKy
 have k0 := (uh HK).c0
 have k1 := (uh HK).c1
 have k2 := (uh HK).c2
 have k3 := (uh HK).c3
 clear h c0 he hkb ht
 subst hc
 go_enter Tryz.func48, Tryz.ntmps48
 go_wp2_with fail
 generalize w.alloc (.cells #[.int .i64 k.kind, .int .i64 k.a, .string k.word, .int .i64 k.b] 32) = W0 at *
 refine (uh HA).mono ?_
 rintro e W1 ⟨rfl, rfl⟩
 go_wp2_with fail
 refine (uh HKy _).mono ?_
 rintro e W2 ⟨rfl, hW2⟩
 have b2 : Below W1.heap.size W1 W2 := by rw [hW2]; exact below_box _ _
 have HB2 := zh ((uh HB).trans (b2.mono (uh HB).size))
 have HSd := zh (rp_said ((uh HP).carry b2) k c hcn t)
 have j0 := ((uh HK).below b2).c0
 have j1 := ((uh HK).below b2).c1
 have j2 := ((uh HK).below b2).c2
 have j3 := ((uh HK).below b2).c3
 clear hW2 b2 HK HB k0 k1 k2 k3 HA HKy HP
 go_wp2_with fail
 refine (uh HTm _).mono ?_
 rintro e W3 ⟨rfl, hW3⟩
 obtain rfl : W2 = W3 := hW3.symm
 clear hW3
 go_wp2_with fail
 refine (uh HSd).mono ?_
 rintro e W4 ⟨rfl, b4⟩
 have HB4 := zh ((uh HB2).trans (b4.mono (uh HB2).size))
 clear b4 j0 j1 j2 j3
 go_wp2
 go_ret2
 exact ⟨rfl, uh HB4⟩
theorem rp_forget_ok {w : World} {R n cap : Nat} {known : Int} {ad : Option Addr} (c0 : w.cell? ⟨R, 0, none⟩ = some (.slice ad n cap)) (c1 : w.cell? ⟨R, 1, none⟩ = some (.int .i64 known)) (f1 : w.frozen? ⟨R, 1, none⟩ = false) (at_ : Int) (h0 : 0 <= at_) (h1 : at_ <= n) (h2 : known <= at_) :
  Calls Tryz.prog 12 #[.pointer (some ⟨R, 0, none⟩), .int .i64 at_] w fun e w' => e = .returned (.int .i64 0) /\ w' = w.setCell ⟨R, 1, none⟩ (.int .i64 at_) := by
 have HN := zh (rp_Now c0)
 have HI := zh (fun W => ref_in at_ 0 n W)
 have hi : inB at_ 0 n = true := decide_eq_true ⟨h0, h1⟩
 rw [hi] at HI
 have h3 : ¬ at_ < known := by omega
 clear h0 h1 h2 hi c0
 go_enter Tryz.func12, Tryz.ntmps12
 go_wp2_with fail
 refine (uh HN).mono ?_
 rintro r W1 ⟨rfl, hW1⟩
 obtain rfl : w = W1 := hW1.symm
 clear hW1
 go_wp2_with fail
 refine (uh HI _).mono ?_
 rintro r W2 ⟨rfl, hW2⟩
 obtain rfl : w = W2 := hW2.symm
 clear hW2
 go_wp2
 go_ret
 exact ⟨rfl, rfl⟩
end Go.Proofs.YtfoojmflbifkpaaGreatDoor

namespace Go.Proofs.YtfoojmflbifkpaaGreatDoor
def closeL (l : List (Int × Int × ByteArray)) (t : Int) : List (Int × Int × ByteArray) := l.dropLast ++ (l.getLast?.map (fun p => (p.1, t, p.2.2))).toList
def pieceStep (f : Int -> ByteArray) (st : List (Int × Int × ByteArray) × ByteArray) (t : Int) : List (Int × Int × ByteArray) × ByteArray :=
 if f t = st.2 then st else
  let o := if st.2 = ByteArray.empty then st.1 else closeL st.1 t
  (if f t = ByteArray.empty then o else o ++ [(t, 0, f t)], f t)
def piecesR (f : Int -> ByteArray) (E : List Int) : List (Int × Int × ByteArray) × ByteArray := E.foldl (pieceStep f) ([], ByteArray.empty)
theorem closeL_snoc (d : List (Int × Int × ByteArray)) (a z t : Int) (v : ByteArray) : closeL (d ++ [(a, z, v)]) t = d ++ [(a, t, v)] := by
 unfold closeL
 simp
structure Half (f : Int -> ByteArray) (e : Int) (st : List (Int × Int × ByteArray) × ByteArray) (d : List (Int × Int × ByteArray)) (cut : Int) : Prop where
 here : f e = st.2
 le : cut <= e
 canon : Canon d
 ends : ∀ p, p ∈ d -> p.2.1 <= cut
 cov : ∀ t, t < cut -> (∀ p, p ∈ d -> p.1 <= t -> t < p.2.1 -> p.2.2 = f t) /\ (f t ≠ ByteArray.empty -> ∃ p, p ∈ d /\ p.1 <= t /\ t < p.2.1)
 shape : (st.2 = ByteArray.empty /\ st.1 = d /\ cut = e) \/ (st.2 ≠ ByteArray.empty /\ st.1 = d ++ [(cut, 0, st.2)] /\ (-1099511627776 <= cut /\ cut <= 1099511627776) /\ (∀ t, cut <= t -> t <= e -> f t = st.2) /\ ∀ p, d.getLast? = some p -> ¬ (p.2.1 = cut /\ p.2.2 = st.2))
theorem Half.step {f : Int -> ByteArray} {e : Int} {st : List (Int × Int × ByteArray) × ByteArray} {d : List (Int × Int × ByteArray)} {cut : Int} (h : Half f e st d cut) {t : Int} (ht : e <= t) (hb : -1099511627776 <= t /\ t <= 1099511627776) (hf : ∀ s, e <= s -> s < t -> f s = f e) : ∃ d' cut', Half f t (pieceStep f st t) d' cut' := by
 unfold pieceStep
 by_cases hv : f t = st.2
 ·rw [if_pos hv]
  rcases h.shape with ⟨s1, s2, s3⟩ | ⟨s1, s2, s3, s4, s5⟩
  ·subst s3
   refine ⟨d, t, hv, Int.le_refl _, h.canon, fun p hp => by have := h.ends p hp; omega, fun s hs => ?_, .inl ⟨s1, s2, rfl⟩⟩
   by_cases q : s < cut
   ·exact h.cov s q
   ·have fs : f s = ByteArray.empty := by rw [hf s (by omega) hs, h.here, s1]
    refine ⟨fun p hp a b => ?_, fun n => absurd fs n⟩
    have := h.ends p hp
    omega
  ·refine ⟨d, cut, hv, by have := h.le; omega, h.canon, h.ends, h.cov, .inr ⟨s1, s2, s3, fun s a b => ?_, s5⟩⟩
   by_cases q : s <= e
   ·exact s4 s a q
   ·by_cases q2 : s < t
    ·rw [hf s (by omega) q2, h.here]
    ·obtain rfl : s = t := by omega
     exact hv
 ·rw [if_neg hv]
  have het : e ≠ t := fun q => hv (by rw [<- q]; exact h.here)
  dsimp only
  obtain ⟨d1, k1, k2, k3, k4, k5⟩ : ∃ d1, (if st.2 = ByteArray.empty then st.1 else closeL st.1 t) = d1 /\ Canon d1 /\ (∀ p, p ∈ d1 -> p.2.1 <= t) /\ (∀ s, s < t -> (∀ p, p ∈ d1 -> p.1 <= s -> s < p.2.1 -> p.2.2 = f s) /\ (f s ≠ ByteArray.empty -> ∃ p, p ∈ d1 /\ p.1 <= s /\ s < p.2.1)) /\ (∀ p, d1.getLast? = some p -> ¬ (p.2.1 = t /\ p.2.2 = f t)) := by
   rcases h.shape with ⟨s1, s2, s3⟩ | ⟨s1, s2, s3, s4, s5⟩
   ·subst s3
    refine ⟨d, by rw [if_pos s1, s2], h.canon, fun p hp => by have := h.ends p hp; omega, fun s hs => ?_, fun p hp hq => ?_⟩
    ·by_cases q : s < cut
     ·exact h.cov s q
     ·have fs : f s = ByteArray.empty := by rw [hf s (by omega) hs, h.here, s1]
      refine ⟨fun p hp a b => ?_, fun n => absurd fs n⟩
      have := h.ends p hp
      omega
    ·have := h.ends p (List.mem_of_getLast? hp)
     omega
   ·have hle := h.le
    have hlt : cut < t := by omega
    have hr : rightB cut t = true := decide_eq_true ⟨s3.1, hb.2, hlt⟩
    refine ⟨d ++ [(cut, t, st.2)], by rw [if_neg s1, s2, closeL_snoc], canon_snoc h.canon ⟨hr, s1⟩ h.ends s5, fun p hp => ?_, fun s hs => ?_, fun p hp hq => ?_⟩
    ·rcases List.mem_append.1 hp with q | q
     ·have := h.ends p q; omega
     ·obtain rfl := List.mem_singleton.1 q
      exact Int.le_refl _
    ·have here : ∀ u, cut <= u -> u < t -> f u = st.2 := fun u a b => by
      by_cases q : u <= e
      ·exact s4 u a q
      ·rw [hf u (by omega) b, h.here]
     by_cases q : s < cut
     ·obtain ⟨c1, c2⟩ := h.cov s q
      refine ⟨fun p hp a b => ?_, fun n => ?_⟩
      ·rcases List.mem_append.1 hp with r | r
       ·exact c1 p r a b
       ·obtain rfl := List.mem_singleton.1 r
        have : cut <= s := a
        omega
      ·obtain ⟨p, hp, a, b⟩ := c2 n
       exact ⟨p, by simp [hp], a, b⟩
     ·refine ⟨fun p hp a b => ?_, fun _ => ⟨(cut, t, st.2), by simp, by show cut <= s; omega, hs⟩⟩
      rcases List.mem_append.1 hp with r | r
      ·have := h.ends p r
       omega
      ·obtain rfl := List.mem_singleton.1 r
       exact (here s (by omega) hs).symm
    ·rw [List.getLast?_concat] at hp
     cases hp
     exact hv hq.2.symm
  rw [k1]
  by_cases he : f t = ByteArray.empty
  ·rw [if_pos he]
   exact ⟨d1, t, rfl, Int.le_refl _, k2, k3, k4, .inl ⟨he, rfl, rfl⟩⟩
  ·rw [if_neg he]
   refine ⟨d1, t, rfl, Int.le_refl _, k2, k3, k4, .inr ⟨he, rfl, hb, fun s a b => ?_, k5⟩⟩
   obtain rfl : s = t := by omega
   rfl
theorem half_all {f : Int -> ByteArray} (hC : ∀ e t, (∀ s, e < s -> s <= t -> f s = f (s - 1)) -> e <= t -> f t = f e) (E : List Int) (hE : E.Pairwise (· <= ·)) (hb : ∀ e, e ∈ E -> -1099511627776 <= e /\ e <= 1099511627776) (hj : ∀ s, s ∉ E -> f s = f (s - 1)) : ∀ (n : Nat) (hn : n < E.length), (∀ t, t < E[0]'(by omega) -> f t = ByteArray.empty) -> ∃ d cut, Half f E[n] (piecesR f (E.take (n + 1))) d cut := by
 intro n
 induction n with
 | zero =>
  intro hn h0
  have e1 : piecesR f (E.take 1) = pieceStep f ([], ByteArray.empty) E[0] := by
   rw [show E.take 1 = [E[0]] from by cases E with | nil => simp at hn | cons a l => simp]
   rfl
  rw [e1]
  unfold pieceStep
  have hb0 := hb E[0] (List.getElem_mem _)
  by_cases hv : f E[0] = ByteArray.empty
  ·rw [if_pos hv]
   exact ⟨[], E[0], hv, Int.le_refl _, canon_nil, by simp, fun t ht => ⟨by simp, fun q => absurd (h0 t ht) q⟩, .inl ⟨rfl, rfl, rfl⟩⟩
  ·rw [if_neg hv]
   dsimp only
   rw [if_pos rfl, if_neg hv]
   refine ⟨[], E[0], rfl, Int.le_refl _, canon_nil, by simp, fun t ht => ⟨by simp, fun q => absurd (h0 t ht) q⟩, .inr ⟨hv, rfl, hb0, fun s a b => ?_, by simp⟩⟩
   obtain rfl : s = E[0] := by omega
   rfl
 | succ n ih =>
  intro hn h0
  obtain ⟨d, cut, h⟩ := ih (by omega) h0
  have e1 : piecesR f (E.take (n + 1 + 1)) = pieceStep f (piecesR f (E.take (n + 1))) E[n + 1] := by
   unfold piecesR
   rw [List.take_succ_eq_append_getElem hn, List.foldl_append]
   rfl
  rw [e1]
  have hle : E[n] <= E[n + 1] := List.pairwise_iff_getElem.1 hE n (n + 1) (by omega) hn (by omega)
  refine h.step hle (hb _ (List.getElem_mem _)) (fun s a b => hC E[n] s (fun u u1 u2 => hj u (fun hu => ?_)) a)
  obtain ⟨i, hi, rfl⟩ := List.getElem_of_mem hu
  rcases Nat.lt_or_ge n i with q | q
  ·have : E[n + 1] <= E[i] := by
    rcases Nat.lt_or_ge (n + 1) i with r | r
    ·exact List.pairwise_iff_getElem.1 hE (n + 1) i hn hi r
    ·obtain rfl : i = n + 1 := by omega
     exact Int.le_refl _
   omega
  ·have : E[i] <= E[n] := by
    rcases Nat.lt_or_ge i n with r | r
    ·exact List.pairwise_iff_getElem.1 hE i n hi (by omega) r
    ·obtain rfl : i = n := by omega
     exact Int.le_refl _
   omega
theorem still_of {f : Int -> ByteArray} (e : Int) : ∀ (n : Nat), (∀ s, e < s -> s <= e + n -> f s = f (s - 1)) -> f (e + n) = f e
 | 0, _ => by simp
 | n + 1, h => by
  have h1 := h (e + (n + 1 : Nat)) (by omega) (Int.le_refl _)
  rw [show e + ((n + 1 : Nat) : Int) - 1 = e + n by omega] at h1
  rw [h1]
  exact still_of e n (fun s a b => h s a (by omega))
theorem still_to {f : Int -> ByteArray} (e t : Int) (h : ∀ s, e < s -> s <= t -> f s = f (s - 1)) (ht : e <= t) : f t = f e := by
 have := still_of (f := f) e (t - e).toNat (fun s a b => h s a (by omega))
 rwa [show e + ((t - e).toNat : Int) = t by omega] at this
theorem pieces_are {f : Int -> ByteArray} (E : List Int) (hE : E.Pairwise (· <= ·)) (hb : ∀ e, e ∈ E -> -1099511627776 <= e /\ e <= 1099511627776) (hj : ∀ s, s ∉ E -> f s = f (s - 1)) (lo hi : Int) (hlo : ∀ t, t < lo -> f t = ByteArray.empty) (hhi : ∀ t, hi <= t -> f t = ByteArray.empty) : Canon (piecesR f E).1 /\ Covers (piecesR f E).1 f := by
 have before : ∀ t, (∀ s, s ∈ E -> t < s) -> f t = ByteArray.empty := fun t ht => by
  rw [still_to (min (lo - 1) t) t (fun s _ b => hj s (fun q => by have := ht s q; omega)) (by omega)]
  exact hlo _ (by omega)
 have after : ∀ t, (∀ s, s ∈ E -> s <= t) -> f t = ByteArray.empty := fun t ht => by
  rw [<- still_to t (max hi t) (fun s a _ => hj s (fun q => by have := ht s q; omega)) (by omega)]
  exact hhi _ (by omega)
 rcases Nat.eq_zero_or_pos E.length with q | q
 ·obtain rfl := List.length_eq_zero_iff.1 q
  exact ⟨canon_nil, fun t => ⟨by simp [piecesR], fun n => absurd (before t (by simp)) n⟩⟩
 ·have hle : ∀ i j, (hi : i < E.length) -> (hj : j < E.length) -> i <= j -> E[i] <= E[j] := fun i j hi hj hij => by
   rcases Nat.lt_or_ge i j with r | r
   ·exact List.pairwise_iff_getElem.1 hE i j hi hj r
   ·obtain rfl : i = j := by omega
    exact Int.le_refl _
  obtain ⟨d, cut, h⟩ := half_all (f := f) (fun e t a b => still_to e t a b) E hE hb hj (E.length - 1) (by omega) (fun t ht => before t (fun s hs => by
   obtain ⟨i, hi, rfl⟩ := List.getElem_of_mem hs
   have := hle 0 i q hi (by omega)
   omega))
  rw [show E.length - 1 + 1 = E.length by omega, List.take_length] at h
  have hend : ∀ t, E[E.length - 1] <= t -> f t = ByteArray.empty := fun t ht => after t (fun s hs => by
   obtain ⟨i, hi, rfl⟩ := List.getElem_of_mem hs
   have := hle i (E.length - 1) hi (by omega) (by omega)
   omega)
  have h2 : (piecesR f E).2 = ByteArray.empty := by rw [<- h.here]; exact hend _ (Int.le_refl _)
  rcases h.shape with ⟨s1, s2, s3⟩ | ⟨s1, _⟩
  ·rw [s2]
   refine ⟨h.canon, fun t => ?_⟩
   by_cases r : t < cut
   ·exact h.cov t r
   ·have ft := hend t (by omega)
    refine ⟨fun p hp a b => ?_, fun n => absurd ft n⟩
    have := h.ends p hp
    omega
  ·exact absurd h2 s1
end Go.Proofs.YtfoojmflbifkpaaGreatDoor
