/- Texts of one proof, one behind the other. -/
import Derived.Test.YtbmkmfoaoganeaaGreatDoorPa
import Derived.Test.YtbmkmfoaoganeaaGreatDoorShelf3
import Derived.Test.YtbmkmfoaoganeaaGreatDoorOe
import Derived.Test.YtbmkmfoaoganeaaGreatDoorNb
import Derived.Test.YtbmkmfoaoganeaaGreatDoorNj
import Derived.Lib.SplitLaws
set_option maxRecDepth 100000
set_option maxHeartbeats 16000000
namespace Go.Proofs.YtbmkmfoaoganeaaGreatDoor
open Go.RowKit Go.Maps
def numW (s : ByteArray) : Option Int := match Lib.atoiAll s.data.toList with
 | .ok v => if Lib.itoa v = s.data.toList then some v else none
 | _ => none
theorem numW_wf {s : ByteArray} {n : Int} (h : numW s = some n) : -9223372036854775808 <= n /\ n <= 9223372036854775807 := by
 unfold numW at h
 cases e : Lib.atoiAll s.data.toList with
 | ok v =>
  rw [e] at h
  dsimp only at h
  by_cases q : Lib.itoa v = s.data.toList
  ·rw [if_pos q] at h
   cases h
   exact atoi_bounds _ _ e
  ·rw [if_neg q] at h
   cases h
 | _ => rw [e] at h; cases h
theorem parse_ok (s : ByteArray) (v : Int) (w : World) (hs : s.size <= 100000) (h : Lib.atoiAll s.data.toList = .ok v) :
  Calls Tryz.prog 85 #[.string s, .int .i64 10, .int .i64 64] w fun e w' => e = .returned (.tuple #[.int .i64 v, .nilIface]) /\ Below w.heap.size w w' :=
 (Tryz.strconv_ParseInt_10_at64_ok s (by omega) v ((parseInt_64 _).trans h) w).mono fun e w' ⟨he, hw⟩ => ⟨he, by
  rcases hw with rfl | ⟨t, rfl⟩
  ·exact Below.refl _ _
  ·exact Lib.bytesWorld_below _ _ _⟩
theorem parse_bad (s : ByteArray) (w : World) (hs : s.size <= 100000) (h : ∀ v, Lib.atoiAll s.data.toList ≠ .ok v) (hl : Libs w) :
  Calls Tryz.prog 85 #[.string s, .int .i64 10, .int .i64 64] w (AtoiBad w) := by
 obtain ⟨_, ⟨tp, p, h2⟩, tq, q, h3⟩ := hl
 cases hh : Lib.atoiAll s.data.toList
 ·exact absurd hh (h _)
 ·exact (Any.strconv_ParseInt_10_at64_syntax_var Tryz.laysC174 s (by omega) ((parseInt_64 _).trans hh) tp p w h2).mono fun e w' ⟨N, he, _, _, hb⟩ => ⟨0, N, he, hb⟩
 ·exact (Any.strconv_ParseInt_10_at64_range_var Tryz.laysC174 s (by omega) ((parseInt_64 _).trans hh) tq q w h3).mono fun e w' ⟨N, he, _, _, hb⟩ => ⟨_, N, he, hb⟩
theorem format (n : Int) (w : World) (h : -9223372036854775808 <= n /\ n <= 9223372036854775807) (ht : Tab w) :
  Calls Tryz.prog 86 #[.int .i64 n, .int .i64 10] w fun e w' => e = .returned (.string ⟨(Lib.itoa n).toArray⟩) /\ Below w.heap.size w w' :=
 (Tryz.strconv_FormatInt_10 n h.1 h.2 w ht).mono fun e w' ⟨he, k, os, hw⟩ => ⟨he, by rw [hw]; exact ⟨rfl, rfl, rfl, by simp [Go.Sort.grow, World.drewN], fun i hi => by simp [Go.Sort.grow, World.drewN, Array.getElem?_append_left hi]⟩⟩
abbrev thrown (n : Int) : Ending := .panicked [{ v := .iface 25 (.int .i64 n), recovered := false }]
structure WdI (y : World) (bx : Nat) (ws : List ByteArray) : Prop where
 c : ∃ ad cap, y.cell? ⟨bx, 0, none⟩ = some (.slice ad ws.length cap) /\ ws.length <= cap /\ ∀ j, (hj : j < ws.length) -> ∃ A o, ad = some ⟨A, o, none⟩ /\ A < bx /\ y.cell? ⟨A, o + j, none⟩ = some (.string ws[j])
 f : y.frozen? ⟨bx, 0, none⟩ = false
 s : ∀ x, x ∈ ws -> x.size <= 30000
theorem WdI.keeps {y y' : World} {bx : Nat} {ws : List ByteArray} {H : Nat -> Prop} (h : WdI y bx ws) (hk : Keeps H y y') (hb : ¬ H bx) (hA : ∀ i, i < bx -> ¬ H i) : WdI y' bx ws := by
 obtain ⟨ad, cap, c, hc, hw⟩ := h.c
 refine ⟨⟨ad, cap, (hk.cell (p := ⟨bx, 0, none⟩) (lt_of_cell c) hb).trans c, hc, fun j hj => ?_⟩, (hk.frozen (p := ⟨bx, 0, none⟩) (lt_of_cell c) hb).trans h.f, h.s⟩
 obtain ⟨A, o, e, hne, q⟩ := hw j hj
 exact ⟨A, o, e, hne, (hk.cell (p := ⟨A, o + j, none⟩) (lt_of_cell q) (hA A hne)).trans q⟩
theorem WdI.below {y y' : World} {bx : Nat} {ws : List ByteArray} (h : WdI y bx ws) (hb : Below y.heap.size y y') : WdI y' bx ws := h.keeps (Keeps.of_below (fun _ => False) hb zr) (fun q => q) (fun _ _ q => q)
theorem words_next {y : World} {bx : Nat} {x : ByteArray} {ws : List ByteArray} (h : WdI y bx (x :: ws)) :
  Calls Tryz.prog 73 #[.pointer (some ⟨bx, 0, none⟩)] y fun e y' => e = .returned (.string x) /\ WdI y' bx ws /\ Keeps (· = bx) y y' := by
 obtain ⟨ad, cap, c, hcap, hw⟩ := h.c
 obtain ⟨A, o, rfl, hne, q0⟩ := hw 0 (by simp)
 have f := h.f
 have HS : Hid (∀ j, (hj : j < ws.length) -> y.cell? ⟨A, o + 1 + j, none⟩ = some (.string ws[j])) := fun j hj => by
  obtain ⟨A', o', e, _, q⟩ := hw (j + 1) (by simpa using hj)
  cases e
  rw [show o + 1 + j = o + (j + 1) by omega]
  simpa using q
 have HZ := zh h.s
 obtain ⟨n, hn⟩ : ∃ n, n = ws.length := ⟨_, rfl⟩
 have HN := zh hn
 rw [List.length_cons] at c hcap
 rw [<- hn] at c hcap
 simp only [Nat.add_zero, List.getElem_cons_zero] at q0
 have hcap2 : 0 < cap := by omega
 clear h hw hn
 have fin : ∀ o' cap', (n = 0 \/ o' = o + 1) -> n <= cap' -> Hid (WdI (y.setCell ⟨bx, 0, none⟩ (.slice (some ⟨A, o', none⟩) n cap')) bx ws /\ Keeps (· = bx) y (y.setCell ⟨bx, 0, none⟩ (.slice (some ⟨A, o', none⟩) n cap'))) := fun o' cap' ho hc' => by
  refine ⟨⟨⟨_, cap', by rw [<- uh HN]; exact zs _ _ _ c, by rw [<- uh HN]; exact hc', fun j hj => ?_⟩, by rw [World.frozen?_setCell]; exact f, fun z hz => uh HZ z (List.mem_cons_of_mem _ hz)⟩, keeps_set _ _ _ _⟩
  have ho' : o' = o + 1 := by
   rcases ho with q | q
   ·rw [uh HN] at q; omega
   ·exact q
  refine ⟨A, o', rfl, hne, ?_⟩
  rw [zo _ _ _ _ (fun e => by injection e with e1; omega), ho']
  exact uh HS j hj
 have HF := zh fin
 clear fin
 go_enter Tryz.func73, Tryz.ntmps73
 go_wp2
 ·go_ret
  exact ⟨rfl, uh (uh HF o 0 (.inl (by omega)) (by omega))⟩
 ·go_ret
  exact ⟨rfl, uh (uh HF (o + 1) (cap - 1) (.inr rfl) (by omega))⟩
theorem words_word {y : World} {bx : Nat} {x : ByteArray} {ws : List ByteArray} (h : WdI y bx (x :: ws)) :
  Calls Tryz.prog 56 #[.pointer (some ⟨bx, 0, none⟩)] y fun e y' => e = .returned (.string (textB x)) /\ WdI y' bx ws /\ Keeps (· = bx) y y' := by
 have HN := zh (words_next h)
 clear h
 unfold textB
 by_cases he : x.toList = [45]
 ·rw [if_pos he]
  have hb : (x.toList == [45]) = true := by rw [he]; rfl
  clear he
  go_enter Tryz.func56, Tryz.ntmps56
  go_wp2_with fail
  refine (uh HN).mono ?_
  rintro e y1 ⟨rfl, h1, k1⟩
  have HF := zh (And.intro h1 k1)
  clear h1 k1 HN
  go_wp2
  go_ret
  exact ⟨rfl, uh HF⟩
 ·rw [if_neg he]
  have hb : (x.toList == [45]) = false := by simpa using he
  clear he
  go_enter Tryz.func56, Tryz.ntmps56
  go_wp2_with fail
  refine (uh HN).mono ?_
  rintro e y1 ⟨rfl, h1, k1⟩
  have HF := zh (And.intro h1 k1)
  clear h1 k1 HN
  go_wp2
  go_ret
  exact ⟨rfl, uh HF⟩
theorem keeps_low {F : Nat -> Prop} {n : Nat} {w w' : World} (hk : Keeps F w w') (hF : ∀ i, F i -> n <= i) (hn : n <= w.heap.size) : Below n w w' :=
 ⟨hk.os, hk.tape, hk.output, hk.size, fun k hk' => hk.block k (by omega) (fun q => by have := hF k q; omega)⟩
def NumSays (x : ByteArray) (ws : List ByteArray) (bx : Nat) (y : World) (e : Ending) (y' : World) : Prop :=
 (∃ n, numW x = some n /\ e = .returned (.int .i64 n) /\ WdI y' bx ws /\ Keeps (· = bx) y y') \/ (numW x = none /\ e = thrown 3 /\ Keeps (· = bx) y y')
theorem keeps_then_below {F : Nat -> Prop} {a b c : World} (h : Keeps F a b) (hb : Below b.heap.size b c) : Keeps F a c := h.then (Keeps.of_below (fun _ => False) hb zr) (fun _ _ q => q.elim)
theorem words_number {y : World} {bx : Nat} {x : ByteArray} {ws : List ByteArray} (h : WdI y bx (x :: ws)) {w : World} (hlow : Below w.heap.size w y) (hbx : w.heap.size <= bx) (hl : Libs w) (ht : Tab w) :
  Calls Tryz.prog 36 #[.pointer (some ⟨bx, 0, none⟩)] y (NumSays x ws bx y) := by
 have hs : x.size <= 100000 := Nat.le_trans (h.s x (by simp)) (by decide)
 have HN := zh (words_next h)
 have HLo : Hid (∀ W, Keeps (· = bx) y W -> Below w.heap.size w W) := fun W hk => hlow.trans (keeps_low hk (fun i e => by rw [e]; exact hbx) hlow.size)
 by_cases hv : ∃ v, Lib.atoiAll x.data.toList = .ok v
 ·obtain ⟨v, hv⟩ := hv
  have hb := atoi_bounds _ _ hv
  have HC := zh (fun W => parse_ok x v W hs hv)
  have HF := zh (fun W (h : Below w.heap.size w W) => format v W hb (ht.carry h))
  by_cases he : Lib.itoa v = x.data.toList
  ·have hE : Hid (numW x = some v) := by unfold Hid numW; rw [hv]; exact if_pos he
   have h' : ((⟨(Lib.itoa v).toArray⟩ : ByteArray).toList == x.toList) = true := by rw [ByteArray.toList_eq, ByteArray.toList_eq]; simpa using he
   clear hv hb hl ht h he hlow
   generalize (⟨(Lib.itoa v).toArray⟩ : ByteArray) = tx at *
   go_enter Tryz.func36, Tryz.ntmps36
   go_wp2_with fail
   refine (uh HN).mono ?_
   rintro e y1 ⟨rfl, h1, k1⟩
   have H1 := zh h1
   have K1 := zh k1
   have HC1 := zh (uh HC y1)
   clear h1 k1 HN HC
   go_wp2_with fail
   refine (uh HC1).mono ?_
   rintro e y2 ⟨rfl, b2⟩
   have H2 := zh ((uh H1).below b2)
   have K2 := zh (keeps_then_below (uh K1) b2)
   have HF2 := zh (uh HF y2 (uh HLo y2 (uh K2)))
   clear b2 HC1 H1 K1
   go_wp2_with fail
   refine (uh HF2).mono ?_
   rintro e y3 ⟨rfl, b3⟩
   have H3 := zh ((uh H2).below b3)
   have K3 := zh (keeps_then_below (uh K2) b3)
   clear b3 HF2 HF H2 K2
   go_wp2
   go_ret
   exact .inl ⟨v, uh hE, rfl, uh H3, uh K3⟩
  ·have hE : Hid (numW x = none) := by unfold Hid numW; rw [hv]; exact if_neg he
   have h' : ((⟨(Lib.itoa v).toArray⟩ : ByteArray).toList == x.toList) = false := by rw [ByteArray.toList_eq, ByteArray.toList_eq]; simpa using he
   clear hv hb hl ht h he hlow
   generalize (⟨(Lib.itoa v).toArray⟩ : ByteArray) = tx at *
   go_enter Tryz.func36, Tryz.ntmps36
   go_wp2_with fail
   refine (uh HN).mono ?_
   rintro e y1 ⟨rfl, h1, k1⟩
   have K1 := zh k1
   have HC1 := zh (uh HC y1)
   clear h1 k1 HN HC
   go_wp2_with fail
   refine (uh HC1).mono ?_
   rintro e y2 ⟨rfl, b2⟩
   have K2 := zh (keeps_then_below (uh K1) b2)
   have HF2 := zh (uh HF y2 (uh HLo y2 (uh K2)))
   clear b2 HC1 K1
   go_wp2_with fail
   refine (uh HF2).mono ?_
   rintro e y3 ⟨rfl, b3⟩
   have K3 := zh (keeps_then_below (uh K2) b3)
   clear b3 HF2 HF K2
   go_wp2
   exact ⟨rfl, .inr ⟨uh hE, rfl, uh K3⟩⟩
 ·have hE : Hid (numW x = none) := by
   unfold Hid numW
   cases e : Lib.atoiAll x.data.toList with
   | ok v => exact absurd ⟨v, e⟩ hv
   | _ => rfl
  have HC := zh (fun W (h : Below w.heap.size w W) => parse_bad x W hs (fun v h => hv ⟨v, h⟩) (hl.carry h))
  clear hv hl ht h hlow
  go_enter Tryz.func36, Tryz.ntmps36
  go_wp2_with fail
  refine (uh HN).mono ?_
  rintro e y1 ⟨rfl, h1, k1⟩
  have K1 := zh k1
  have HC1 := zh (uh HC y1 (uh HLo y1 k1))
  clear h1 k1 HN HC
  go_wp2_with fail
  refine (uh HC1).mono ?_
  rintro e y2 ⟨v, N, rfl, b2⟩
  have K2 := zh (keeps_then_below (uh K1) b2)
  clear b2 HC1 K1
  go_wp2
  exact ⟨rfl, .inr ⟨uh hE, rfl, uh K2⟩⟩
theorem four_set (w : World) (B : Nat) (x0 x1 x2 x3 u0 u1 u2 u3 : Value) (h0 : w.cell? ⟨B, 0, none⟩ = some u0) (h1 : w.cell? ⟨B, 1, none⟩ = some u1) (h2 : w.cell? ⟨B, 2, none⟩ = some u2) (h3 : w.cell? ⟨B, 3, none⟩ = some u3) :
  ((((w.setCell ⟨B, 0, none⟩ x0).setCell ⟨B, 1, none⟩ x1).setCell ⟨B, 2, none⟩ x2).setCell ⟨B, 3, none⟩ x3).cell? ⟨B, 0, none⟩ = some x0 /\ ((((w.setCell ⟨B, 0, none⟩ x0).setCell ⟨B, 1, none⟩ x1).setCell ⟨B, 2, none⟩ x2).setCell ⟨B, 3, none⟩ x3).cell? ⟨B, 1, none⟩ = some x1 /\ ((((w.setCell ⟨B, 0, none⟩ x0).setCell ⟨B, 1, none⟩ x1).setCell ⟨B, 2, none⟩ x2).setCell ⟨B, 3, none⟩ x3).cell? ⟨B, 2, none⟩ = some x2 /\ ((((w.setCell ⟨B, 0, none⟩ x0).setCell ⟨B, 1, none⟩ x1).setCell ⟨B, 2, none⟩ x2).setCell ⟨B, 3, none⟩ x3).cell? ⟨B, 3, none⟩ = some x3 := by
 have t0 := zs w ⟨B, 0, none⟩ x0 h0
 have a1 : (w.setCell ⟨B, 0, none⟩ x0).cell? ⟨B, 1, none⟩ = some u1 := by rw [zo _ _ _ _ (by simp)]; exact h1
 have a2 : (w.setCell ⟨B, 0, none⟩ x0).cell? ⟨B, 2, none⟩ = some u2 := by rw [zo _ _ _ _ (by simp)]; exact h2
 have a3 : (w.setCell ⟨B, 0, none⟩ x0).cell? ⟨B, 3, none⟩ = some u3 := by rw [zo _ _ _ _ (by simp)]; exact h3
 generalize w.setCell ⟨B, 0, none⟩ x0 = w1 at *
 have t1 := zs w1 ⟨B, 1, none⟩ x1 a1
 have b0 : (w1.setCell ⟨B, 1, none⟩ x1).cell? ⟨B, 0, none⟩ = some x0 := by rw [zo _ _ _ _ (by simp)]; exact t0
 have b2 : (w1.setCell ⟨B, 1, none⟩ x1).cell? ⟨B, 2, none⟩ = some u2 := by rw [zo _ _ _ _ (by simp)]; exact a2
 have b3 : (w1.setCell ⟨B, 1, none⟩ x1).cell? ⟨B, 3, none⟩ = some u3 := by rw [zo _ _ _ _ (by simp)]; exact a3
 generalize w1.setCell ⟨B, 1, none⟩ x1 = w2 at *
 have t2 := zs w2 ⟨B, 2, none⟩ x2 b2
 have d0 : (w2.setCell ⟨B, 2, none⟩ x2).cell? ⟨B, 0, none⟩ = some x0 := by rw [zo _ _ _ _ (by simp)]; exact b0
 have d1 : (w2.setCell ⟨B, 2, none⟩ x2).cell? ⟨B, 1, none⟩ = some x1 := by rw [zo _ _ _ _ (by simp)]; exact t1
 have d3 : (w2.setCell ⟨B, 2, none⟩ x2).cell? ⟨B, 3, none⟩ = some u3 := by rw [zo _ _ _ _ (by simp)]; exact b3
 generalize w2.setCell ⟨B, 2, none⟩ x2 = w3 at *
 have t3 := zs w3 ⟨B, 3, none⟩ x3 d3
 refine ⟨?_, ?_, ?_, t3⟩
 ·rw [zo _ _ _ _ (by simp)]; exact d0
 ·rw [zo _ _ _ _ (by simp)]; exact d1
 ·rw [zo _ _ _ _ (by simp)]; exact t2
def keyW (x0 x1 x2 x3 : ByteArray) : Option Ky := (numW x0).bind fun a => (numW x1).bind fun b => (numW x3).map fun c => ⟨a, b, textB x2, c⟩
def KeySays (x0 x1 x2 x3 : ByteArray) (ws : List ByteArray) (bx : Nat) (y : World) (e : Ending) (y' : World) : Prop :=
 (∃ k : Ky, keyW x0 x1 x2 x3 = some k /\ e = .returned (.agg #[.int .i64 k.kind, .int .i64 k.a, .string k.word, .int .i64 k.b]) /\ WdI y' bx ws /\ Keeps (· = bx) y y') \/ (keyW x0 x1 x2 x3 = none /\ e = thrown 3 /\ Keeps (· = bx) y y')
theorem keyW_ok {x0 x1 x2 x3 : ByteArray} {k : Ky} (h : keyW x0 x1 x2 x3 = some k) (h2 : x2.size <= 30000) : KyOk k := by
 unfold keyW at h
 cases e0 : numW x0 with
 | none => rw [e0] at h; cases h
 | some a =>
  cases e1 : numW x1 with
  | none => rw [e0, e1] at h; cases h
  | some b =>
   cases e3 : numW x3 with
   | none => rw [e0, e1, e3] at h; cases h
   | some c =>
    rw [e0, e1, e3] at h
    cases h
    have wf : ∀ {n : Int}, -9223372036854775808 <= n /\ n <= 9223372036854775807 -> (Lit.int .i64 n).wf = true := fun {n} q => by
     show (decide ((-9223372036854775808 : Int) <= n) && decide (n <= 9223372036854775807)) = true
     simp [q.1, q.2]
    refine ⟨wf (numW_wf e0), wf (numW_wf e1), wf (numW_wf e3), ?_⟩
    have : (textB x2).size <= x2.size := textB_size _
    unfold maxLen
    show (textB x2).size <= _
    omega
theorem words_key {y : World} {bx : Nat} {x0 x1 x2 x3 : ByteArray} {ws : List ByteArray} (h : WdI y bx (x0 :: x1 :: x2 :: x3 :: ws)) {w : World} (hlow : Below w.heap.size w y) (hbx : w.heap.size <= bx) (hl : Libs w) (ht : Tab w) :
  Calls Tryz.prog 48 #[.pointer (some ⟨bx, 0, none⟩)] y (KeySays x0 x1 x2 x3 ws bx y) := by
 have hbl : bx < y.heap.size := by obtain ⟨_, _, c, _⟩ := h.c; exact lt_of_cell c
 have hb := below_box y (.cells #[.int .i64 0, .int .i64 0, .string ⟨#[]⟩, .int .i64 0] 73)
 have HK0 := zh (Keeps.of_below (· = bx) hb zr)
 have HW0 := zh (h.below hb)
 have HB0 := zh (boxK_new y ⟨0, 0, ⟨#[]⟩, 0⟩)
 have HLo : Hid (∀ W, Keeps (· = bx) y W -> Below w.heap.size w W) := fun W hk => hlow.trans (keeps_low hk (fun i e => by rw [e]; exact hbx) hlow.size)
 have HNb : Hid (∀ {W : World} {ws : List ByteArray} {x : ByteArray}, WdI W bx (x :: ws) -> Keeps (· = bx) y W -> Calls Tryz.prog 36 #[.pointer (some ⟨bx, 0, none⟩)] W (NumSays x ws bx W)) := fun {W ws x} hW hk => words_number hW (uh HLo W hk) hbx hl ht
 have hne : y.heap.size ≠ bx := by omega
 clear h hb hlow hl ht
 go_enter Tryz.func48, Tryz.ntmps48
 go_wp2_with fail
 generalize y.alloc (.cells #[.int .i64 0, .int .i64 0, .string ⟨#[]⟩, .int .i64 0] 73) = Y0 at *
 refine (uh HNb (uh HW0) (uh HK0)).mono ?_
 rintro e Y1 (⟨a, e0, rfl, w1, k1⟩ | ⟨e0, rfl, k1⟩)
 case inr =>
  have HF : Hid (KeySays x0 x1 x2 x3 ws bx y (thrown 3) Y1) := .inr ⟨by unfold keyW; rw [e0]; rfl, rfl, (uh HK0).trans k1⟩
  clear k1 e0
  go_wp2
  exact ⟨rfl, uh HF⟩
 have HW1 := zh w1
 have HK1 := zh ((uh HK0).trans k1)
 have HB1 := zh ((uh HB0).keeps k1 hne)
 have HE0 := zh e0
 clear w1 k1 e0 HW0 HK0 HB0
 go_wp2_with fail
 refine (uh HNb (uh HW1) (uh HK1)).mono ?_
 rintro e Y2 (⟨b, e1, rfl, w2, k2⟩ | ⟨e1, rfl, k2⟩)
 case inr =>
  have HF : Hid (KeySays x0 x1 x2 x3 ws bx y (thrown 3) Y2) := .inr ⟨by unfold keyW; rw [uh HE0, e1]; rfl, rfl, (uh HK1).trans k2⟩
  clear k2 e1
  go_wp2
  exact ⟨rfl, uh HF⟩
 have HW2 := zh w2
 have HK2 := zh ((uh HK1).trans k2)
 have HB2 := zh ((uh HB1).keeps k2 hne)
 have HE1 := zh e1
 clear w2 k2 e1 HW1 HK1 HB1
 go_wp2_with fail
 refine (words_word (uh HW2)).mono ?_
 rintro e Y3 ⟨rfl, w3, k3⟩
 have HW3 := zh w3
 have HK3 := zh ((uh HK2).trans k3)
 have HB3 := zh ((uh HB2).keeps k3 hne)
 clear w3 k3 HW2 HK2 HB2
 generalize hte : textB x2 = te at *
 have HTe := zh hte
 clear hte
 go_wp2_with fail
 refine (uh HNb (uh HW3) (uh HK3)).mono ?_
 rintro e Y4 (⟨c, e3, rfl, w4, k4⟩ | ⟨e3, rfl, k4⟩)
 case inr =>
  have HF : Hid (KeySays x0 x1 x2 x3 ws bx y (thrown 3) Y4) := .inr ⟨by unfold keyW; rw [uh HE0, uh HE1, e3]; rfl, rfl, (uh HK3).trans k4⟩
  clear k4 e3
  go_wp2
  exact ⟨rfl, uh HF⟩
 have hB4 := (uh HB3).keeps k4 hne
 have p0 := hB4.c0
 have p1 := hB4.c1
 have p2 := hB4.c2
 have p3 := hB4.c3
 have f0 := hB4.f 0
 have f1 := hB4.f 1
 have f2 := hB4.f 2
 have f3 := hB4.f 3
 have q := four_set Y4 y.heap.size (.int .i64 a) (.int .i64 b) (.string te) (.int .i64 c) _ _ _ _ p0 p1 p2 p3
 have hk4 := (uh HK3).trans k4
 have kset : Keeps (· = y.heap.size) Y4 ((((Y4.setCell ⟨y.heap.size, 0, none⟩ (.int .i64 a)).setCell ⟨y.heap.size, 1, none⟩ (.int .i64 b)).setCell ⟨y.heap.size, 2, none⟩ (.string te)).setCell ⟨y.heap.size, 3, none⟩ (.int .i64 c)) := (((keeps_set _ _ _ _).trans (keeps_set _ _ _ _)).trans (keeps_set _ _ _ _)).trans (keeps_set _ _ _ _)
 have HF : Hid (KeySays x0 x1 x2 x3 ws bx y (.returned (.agg #[.int .i64 a, .int .i64 b, .string te, .int .i64 c])) ((((Y4.setCell ⟨y.heap.size, 0, none⟩ (.int .i64 a)).setCell ⟨y.heap.size, 1, none⟩ (.int .i64 b)).setCell ⟨y.heap.size, 2, none⟩ (.string te)).setCell ⟨y.heap.size, 3, none⟩ (.int .i64 c))) := by
  refine .inl ⟨⟨a, b, te, c⟩, by unfold keyW; rw [uh HE0, uh HE1, e3, uh HTe]; rfl, rfl, ?_, hk4.then kset (fun i hi e => by omega)⟩
  exact w4.keeps kset (fun e => hne e.symm) (fun i hi e => by omega)
 clear w4 k4 e3 hk4 kset hB4
 go_wp2
 exact bodyPost_ret (v := .agg #[.int .i64 a, .int .i64 b, .string te, .int .i64 c]) (by simp [results, Tryz.results48, go_sem, q.1, q.2.1, q.2.2.1, q.2.2.2]) rfl (uh HF)
def SpanSays (x0 x1 : ByteArray) (ws : List ByteArray) (bx : Nat) (y : World) (e : Ending) (y' : World) : Prop :=
 (∃ a b : Int, numW x0 = some a /\ numW x1 = some b /\ e = .returned (.agg #[.int .i64 a, .int .i64 b]) /\ WdI y' bx ws /\ Keeps (· = bx) y y') \/ ((numW x0 = none \/ numW x1 = none) /\ e = thrown 3 /\ Keeps (· = bx) y y')
theorem words_span {y : World} {bx : Nat} {x0 x1 : ByteArray} {ws : List ByteArray} (h : WdI y bx (x0 :: x1 :: ws)) {w : World} (hlow : Below w.heap.size w y) (hbx : w.heap.size <= bx) (hl : Libs w) (ht : Tab w) :
  Calls Tryz.prog 49 #[.pointer (some ⟨bx, 0, none⟩)] y (SpanSays x0 x1 ws bx y) := by
 have hbl : bx < y.heap.size := by obtain ⟨_, _, c, _⟩ := h.c; exact lt_of_cell c
 have hb := below_box y (.cells #[.int .i64 0, .int .i64 0] 79)
 have HK0 := zh (Keeps.of_below (· = bx) hb zr)
 have HW0 := zh (h.below hb)
 have c0 : (y.alloc (.cells #[.int .i64 0, .int .i64 0] 79)).cell? ⟨y.heap.size, 0, none⟩ = some (.int .i64 0) := by simp
 have c1 : (y.alloc (.cells #[.int .i64 0, .int .i64 0] 79)).cell? ⟨y.heap.size, 1, none⟩ = some (.int .i64 0) := by simp
 have g0 : (y.alloc (.cells #[.int .i64 0, .int .i64 0] 79)).frozen? ⟨y.heap.size, 0, none⟩ = false := by simp
 have g1 : (y.alloc (.cells #[.int .i64 0, .int .i64 0] 79)).frozen? ⟨y.heap.size, 1, none⟩ = false := by simp
 have HC := zh (And.intro (And.intro c0 c1) (And.intro g0 g1))
 have HLo : Hid (∀ W, Keeps (· = bx) y W -> Below w.heap.size w W) := fun W hk => hlow.trans (keeps_low hk (fun i e => by rw [e]; exact hbx) hlow.size)
 have HNb : Hid (∀ {W : World} {ws : List ByteArray} {x : ByteArray}, WdI W bx (x :: ws) -> Keeps (· = bx) y W -> Calls Tryz.prog 36 #[.pointer (some ⟨bx, 0, none⟩)] W (NumSays x ws bx W)) := fun {W ws x} hW hk => words_number hW (uh HLo W hk) hbx hl ht
 have hne : y.heap.size ≠ bx := by omega
 clear h hb hlow hl ht c0 c1 g0 g1
 go_enter Tryz.func49, Tryz.ntmps49
 go_wp2_with fail
 generalize y.alloc (.cells #[.int .i64 0, .int .i64 0] 79) = Y0 at *
 refine (uh HNb (uh HW0) (uh HK0)).mono ?_
 rintro e Y1 (⟨a, e0, rfl, w1, k1⟩ | ⟨e0, rfl, k1⟩)
 case inr =>
  have HF : Hid (SpanSays x0 x1 ws bx y (thrown 3) Y1) := .inr ⟨.inl e0, rfl, (uh HK0).trans k1⟩
  clear k1 e0
  go_wp2
  exact ⟨rfl, uh HF⟩
 have HW1 := zh w1
 have HK1 := zh ((uh HK0).trans k1)
 obtain ⟨⟨c0, c1⟩, g0, g1⟩ := uh HC
 have HC1 := zh (And.intro (And.intro ((k1.cell (p := ⟨y.heap.size, 0, none⟩) (lt_of_cell c0) hne).trans c0) ((k1.cell (p := ⟨y.heap.size, 1, none⟩) (lt_of_cell c1) hne).trans c1)) (And.intro ((k1.frozen (p := ⟨y.heap.size, 0, none⟩) (lt_of_cell c0) hne).trans g0) ((k1.frozen (p := ⟨y.heap.size, 1, none⟩) (lt_of_cell c1) hne).trans g1)))
 have HE0 := zh e0
 clear w1 k1 e0 HW0 HK0 HC c0 c1 g0 g1
 go_wp2_with fail
 refine (uh HNb (uh HW1) (uh HK1)).mono ?_
 rintro e Y2 (⟨b, e1, rfl, w2, k2⟩ | ⟨e1, rfl, k2⟩)
 case inr =>
  have HF : Hid (SpanSays x0 x1 ws bx y (thrown 3) Y2) := .inr ⟨.inr e1, rfl, (uh HK1).trans k2⟩
  clear k2 e1
  go_wp2
  exact ⟨rfl, uh HF⟩
 obtain ⟨⟨c0, c1⟩, g0, g1⟩ := uh HC1
 have p0 := (k2.cell (p := ⟨y.heap.size, 0, none⟩) (lt_of_cell c0) hne).trans c0
 have p1 := (k2.cell (p := ⟨y.heap.size, 1, none⟩) (lt_of_cell c1) hne).trans c1
 have f0 := (k2.frozen (p := ⟨y.heap.size, 0, none⟩) (lt_of_cell c0) hne).trans g0
 have f1 := (k2.frozen (p := ⟨y.heap.size, 1, none⟩) (lt_of_cell c1) hne).trans g1
 have q := two_set Y2 y.heap.size (.int .i64 a) (.int .i64 b) _ _ p0 p1
 have kset : Keeps (· = y.heap.size) Y2 ((Y2.setCell ⟨y.heap.size, 0, none⟩ (.int .i64 a)).setCell ⟨y.heap.size, 1, none⟩ (.int .i64 b)) := (keeps_set _ _ _ _).trans (keeps_set _ _ _ _)
 have HF : Hid (SpanSays x0 x1 ws bx y (.returned (.agg #[.int .i64 a, .int .i64 b])) ((Y2.setCell ⟨y.heap.size, 0, none⟩ (.int .i64 a)).setCell ⟨y.heap.size, 1, none⟩ (.int .i64 b))) :=
  .inl ⟨a, b, uh HE0, e1, rfl, w2.keeps kset (fun e => hne e.symm) (fun i hi e => by omega), ((uh HK1).trans k2).then kset (fun i hi e => by omega)⟩
 clear w2 k2 e1 kset c0 c1 g0 g1
 go_wp2
 exact bodyPost_ret (v := .agg #[.int .i64 a, .int .i64 b]) (by simp [results, Tryz.results49, go_sem, q.1, q.2]) rfl (uh HF)
theorem check_no (w : World) : Calls Tryz.prog 40 #[.nilIface] w fun e w' => e = .returned (.tuple #[]) /\ w' = w := by
 go_enter Tryz.func40, Tryz.ntmps40
 go_wp2
 go_end0
 exact ⟨rfl, rfl⟩
theorem check_errno (n : Int) (w : World) (hg : ErrorType w) : Calls Tryz.prog 40 #[.iface 25 (.int .i64 n)] w fun e w' => e = thrown n /\ Below w.heap.size w w' := by
 have HT := zh (Tell_errno n w hg)
 clear hg
 go_enter Tryz.func40, Tryz.ntmps40
 go_wp2_with fail
 refine (uh HT).mono ?_
 rintro e w1 ⟨rfl, b1⟩
 have HB := zh b1
 clear HT b1
 go_wp2
 exact ⟨rfl, rfl, uh HB⟩
theorem check_any (n : Int) (w : World) (hg : ErrorType w) : Calls Tryz.prog 40 #[errV n] w fun e w' => e = (if n = 0 then .returned (.tuple #[]) else thrown n) /\ Below w.heap.size w w' := by
 by_cases h : n = 0
 ·subst h
  rw [if_pos rfl]
  exact (check_no w).mono fun e w' ⟨q, r⟩ => ⟨q, by rw [r]; exact Below.refl _ _⟩
 ·rw [if_neg h]
  unfold errV
  rw [if_neg h]
  exact check_errno n w hg
end Go.Proofs.YtbmkmfoaoganeaaGreatDoor
