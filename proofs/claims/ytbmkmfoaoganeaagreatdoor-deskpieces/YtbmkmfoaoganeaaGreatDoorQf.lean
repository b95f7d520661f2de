/- Texts of one proof, one behind the other. -/
import Derived.Test.YtbmkmfoaoganeaaGreatDoorQc
import Derived.Test.YtbmkmfoaoganeaaGreatDoorQd
import Derived.Test.YtbmkmfoaoganeaaGreatDoorQe
set_option maxRecDepth 100000
set_option maxHeartbeats 16000000
namespace Go.Proofs.YtbmkmfoaoganeaaGreatDoor
open Go.RowKit Go.Maps
def SitSays (w : World) (e : Ending) (w' : World) : Prop := ∃ s M, e = .returned (.pointer (some ⟨s, 0, none⟩)) /\ DkG w w' s M st0 /\ ∀ i, M i -> w.heap.size <= i
theorem desk_sit (w : World) (ht : Tab w) (hl : Libs w) (hg : ErrorType w) : Calls Tryz.prog 6 #[] w (SitSays w) := by
 have hmm := @run_makeMap Tryz.prog
 have hmf : ∀ (fn : Fn) (first cap : Array Value) (w : World), (Instr.makeFunc fn first cap).run Tryz.prog w = .ok (.func fn first cap) w := fun _ _ _ _ => rfl
 have hb0 := below_box w (.cells #[.pointer none, .pointer none, .pointer none, .map none] 47)
 have hs0 : (w.alloc (.cells #[.pointer none, .pointer none, .pointer none, .map none] 47)).heap.size = w.heap.size + 1 := by simp
 have c0 : (w.alloc (.cells #[.pointer none, .pointer none, .pointer none, .map none] 47)).cell? ⟨w.heap.size, 0, none⟩ = some (.pointer none) := by simp
 have c1 : (w.alloc (.cells #[.pointer none, .pointer none, .pointer none, .map none] 47)).cell? ⟨w.heap.size, 1, none⟩ = some (.pointer none) := by simp
 have c2 : (w.alloc (.cells #[.pointer none, .pointer none, .pointer none, .map none] 47)).cell? ⟨w.heap.size, 2, none⟩ = some (.pointer none) := by simp
 have c3 : (w.alloc (.cells #[.pointer none, .pointer none, .pointer none, .map none] 47)).cell? ⟨w.heap.size, 3, none⟩ = some (.map none) := by simp
 have f0 : ∀ i, (w.alloc (.cells #[.pointer none, .pointer none, .pointer none, .map none] 47)).frozen? ⟨w.heap.size, i, none⟩ = false := fun i => by simp
 have HB0 := zh hb0
 have HS0 := zh hs0
 have HC0 := zh c0
 have HC1 := zh c1
 have HC2 := zh c2
 have HC3 := zh c3
 have HF0 := zh f0
 have HTw := zh ht
 have HLw := zh hl
 have HGw := zh hg
 clear hb0 hs0 c0 c1 c2 c3 f0 ht hl hg
 go_enter Tryz.func6, Tryz.ntmps6
 go_upto_region 2 with fail
 generalize w.alloc (.cells #[.pointer none, .pointer none, .pointer none, .map none] 47) = Y at *
 have HD0 := zh (deeds_new Y w.heap.size)
 have HK0 := zh (Keeps.of_below (· = Y.heap.size) (below_box Y (.map #[] 0)) zr)
 go_wp2_with fail
 obtain ⟨W0, hr, hd, ht⟩ := (uh HD0).store ⟨#[97, 116]⟩ (2, 12) (by decide) (by decide) (by decide)
 rw [hr]
 clear hr
 simp only [Result.andThen]
 rw [Oper.upon_skip]
 have HD1 : Hid (DeedsW W0 Y.heap.size w.heap.size (deeds.take 1)) := hd
 have HK1 := zh ((uh HK0).trans (turned_keeps ht))
 clear hd ht HD0 HK0
 go_wp2_with fail
 obtain ⟨W1, hr, hd, ht⟩ := (uh HD1).store ⟨#[99, 111, 109, 109, 105, 116]⟩ (-1, 13) (by decide) (by decide) (by decide)
 rw [hr]
 clear hr
 simp only [Result.andThen]
 rw [Oper.upon_skip]
 have HD2 : Hid (DeedsW W1 Y.heap.size w.heap.size (deeds.take 2)) := hd
 have HK2 := zh ((uh HK1).trans (turned_keeps ht))
 clear hd ht HD1 HK1
 go_wp2_with fail
 obtain ⟨W2, hr, hd, ht⟩ := (uh HD2).store ⟨#[99, 117, 116]⟩ (1, 14) (by decide) (by decide) (by decide)
 rw [hr]
 clear hr
 simp only [Result.andThen]
 rw [Oper.upon_skip]
 have HD3 : Hid (DeedsW W2 Y.heap.size w.heap.size (deeds.take 3)) := hd
 have HK3 := zh ((uh HK2).trans (turned_keeps ht))
 clear hd ht HD2 HK2
 go_wp2_with fail
 obtain ⟨W3, hr, hd, ht⟩ := (uh HD3).store ⟨#[101, 100, 103, 101, 115]⟩ (0, 15) (by decide) (by decide) (by decide)
 rw [hr]
 clear hr
 simp only [Result.andThen]
 rw [Oper.upon_skip]
 have HD4 : Hid (DeedsW W3 Y.heap.size w.heap.size (deeds.take 4)) := hd
 have HK4 := zh ((uh HK3).trans (turned_keeps ht))
 clear hd ht HD3 HK3
 go_wp2_with fail
 obtain ⟨W4, hr, hd, ht⟩ := (uh HD4).store ⟨#[101, 118, 101, 114]⟩ (8, 16) (by decide) (by decide) (by decide)
 rw [hr]
 clear hr
 simp only [Result.andThen]
 rw [Oper.upon_skip]
 have HD5 : Hid (DeedsW W4 Y.heap.size w.heap.size (deeds.take 5)) := hd
 have HK5 := zh ((uh HK4).trans (turned_keeps ht))
 clear hd ht HD4 HK4
 go_wp2_with fail
 obtain ⟨W5, hr, hd, ht⟩ := (uh HD5).store ⟨#[102, 111, 114, 103, 101, 116]⟩ (1, 17) (by decide) (by decide) (by decide)
 rw [hr]
 clear hr
 simp only [Result.andThen]
 rw [Oper.upon_skip]
 have HD6 : Hid (DeedsW W5 Y.heap.size w.heap.size (deeds.take 6)) := hd
 have HK6 := zh ((uh HK5).trans (turned_keeps ht))
 clear hd ht HD5 HK5
 go_wp2_with fail
 obtain ⟨W6, hr, hd, ht⟩ := (uh HD6).store ⟨#[104, 101, 108, 112]⟩ (0, 18) (by decide) (by decide) (by decide)
 rw [hr]
 clear hr
 simp only [Result.andThen]
 rw [Oper.upon_skip]
 have HD7 : Hid (DeedsW W6 Y.heap.size w.heap.size (deeds.take 7)) := hd
 have HK7 := zh ((uh HK6).trans (turned_keeps ht))
 clear hd ht HD6 HK6
 go_wp2_with fail
 obtain ⟨W7, hr, hd, ht⟩ := (uh HD7).store ⟨#[104, 111, 112, 115]⟩ (3, 19) (by decide) (by decide) (by decide)
 rw [hr]
 clear hr
 simp only [Result.andThen]
 rw [Oper.upon_skip]
 have HD8 : Hid (DeedsW W7 Y.heap.size w.heap.size (deeds.take 8)) := hd
 have HK8 := zh ((uh HK7).trans (turned_keeps ht))
 clear hd ht HD7 HK7
 go_wp2_with fail
 obtain ⟨W8, hr, hd, ht⟩ := (uh HD8).store ⟨#[107, 101, 121, 115]⟩ (2, 20) (by decide) (by decide) (by decide)
 rw [hr]
 clear hr
 simp only [Result.andThen]
 rw [Oper.upon_skip]
 have HD9 : Hid (DeedsW W8 Y.heap.size w.heap.size (deeds.take 9)) := hd
 have HK9 := zh ((uh HK8).trans (turned_keeps ht))
 clear hd ht HD8 HK8
 go_wp2_with fail
 obtain ⟨W9, hr, hd, ht⟩ := (uh HD9).store ⟨#[110, 101, 119]⟩ (0, 21) (by decide) (by decide) (by decide)
 rw [hr]
 clear hr
 simp only [Result.andThen]
 rw [Oper.upon_skip]
 have HD10 : Hid (DeedsW W9 Y.heap.size w.heap.size (deeds.take 10)) := hd
 have HK10 := zh ((uh HK9).trans (turned_keeps ht))
 clear hd ht HD9 HK9
 go_wp2_with fail
 obtain ⟨W10, hr, hd, ht⟩ := (uh HD10).store ⟨#[110, 111, 100, 101, 115]⟩ (1, 22) (by decide) (by decide) (by decide)
 rw [hr]
 clear hr
 simp only [Result.andThen]
 rw [Oper.upon_skip]
 have HD11 : Hid (DeedsW W10 Y.heap.size w.heap.size (deeds.take 11)) := hd
 have HK11 := zh ((uh HK10).trans (turned_keeps ht))
 clear hd ht HD10 HK10
 go_wp2_with fail
 obtain ⟨W11, hr, hd, ht⟩ := (uh HD11).store ⟨#[110, 111, 119]⟩ (0, 23) (by decide) (by decide) (by decide)
 rw [hr]
 clear hr
 simp only [Result.andThen]
 rw [Oper.upon_skip]
 have HD12 : Hid (DeedsW W11 Y.heap.size w.heap.size (deeds.take 12)) := hd
 have HK12 := zh ((uh HK11).trans (turned_keeps ht))
 clear hd ht HD11 HK11
 go_wp2_with fail
 obtain ⟨W12, hr, hd, ht⟩ := (uh HD12).store ⟨#[111, 112, 101, 110]⟩ (0, 24) (by decide) (by decide) (by decide)
 rw [hr]
 clear hr
 simp only [Result.andThen]
 rw [Oper.upon_skip]
 have HD13 : Hid (DeedsW W12 Y.heap.size w.heap.size (deeds.take 13)) := hd
 have HK13 := zh ((uh HK12).trans (turned_keeps ht))
 clear hd ht HD12 HK12
 go_wp2_with fail
 obtain ⟨W13, hr, hd, ht⟩ := (uh HD13).store ⟨#[112, 105, 101, 99, 101, 115]⟩ (5, 25) (by decide) (by decide) (by decide)
 rw [hr]
 clear hr
 simp only [Result.andThen]
 rw [Oper.upon_skip]
 have HD14 : Hid (DeedsW W13 Y.heap.size w.heap.size (deeds.take 14)) := hd
 have HK14 := zh ((uh HK13).trans (turned_keeps ht))
 clear hd ht HD13 HK13
 go_wp2_with fail
 obtain ⟨W14, hr, hd, ht⟩ := (uh HD14).store ⟨#[112, 114, 111, 112]⟩ (2, 26) (by decide) (by decide) (by decide)
 rw [hr]
 clear hr
 simp only [Result.andThen]
 rw [Oper.upon_skip]
 have HD15 : Hid (DeedsW W14 Y.heap.size w.heap.size (deeds.take 15)) := hd
 have HK15 := zh ((uh HK14).trans (turned_keeps ht))
 clear hd ht HD14 HK14
 go_wp2_with fail
 obtain ⟨W15, hr, hd, ht⟩ := (uh HD15).store ⟨#[118, 97, 108, 117, 101]⟩ (6, 27) (by decide) (by decide) (by decide)
 rw [hr]
 clear hr
 simp only [Result.andThen]
 rw [Oper.upon_skip]
 have HD16 : Hid (DeedsW W15 Y.heap.size w.heap.size (deeds.take 16)) := hd
 have HK16 := zh ((uh HK15).trans (turned_keeps ht))
 clear hd ht HD15 HK15
 go_wp2_with fail
 obtain ⟨W16, hr, hd, ht⟩ := (uh HD16).store ⟨#[119, 97, 121]⟩ (3, 28) (by decide) (by decide) (by decide)
 rw [hr]
 clear hr
 simp only [Result.andThen]
 rw [Oper.upon_skip]
 have HD17 : Hid (DeedsW W16 Y.heap.size w.heap.size (deeds.take 17)) := hd
 have HK17 := zh ((uh HK16).trans (turned_keeps ht))
 clear hd ht HD16 HK16
 have hsY : w.heap.size < Y.heap.size := by have := uh HS0; omega
 have d3 : W16.cell? ⟨w.heap.size, 3, none⟩ = some (.map none) := ((uh HK17).cell (p := ⟨w.heap.size, 3, none⟩) hsY (show ¬ w.heap.size = Y.heap.size by omega)).trans (uh HC3)
 have g3 : W16.frozen? ⟨w.heap.size, 3, none⟩ = false := ((uh HK17).frozen (p := ⟨w.heap.size, 3, none⟩) hsY (show ¬ w.heap.size = Y.heap.size by omega)).trans (uh HF0 3)
 have HI : Hid (SitI w (W16.setCell ⟨w.heap.size, 3, none⟩ (.map (some Y.heap.size))) w.heap.size Y.heap.size (.pointer none) (.pointer none) (.pointer none)) := zh (by
  have hk := uh HK17
  have hn : ¬ w.heap.size = Y.heap.size := by omega
  have hc : ∀ {i : Nat} {v : Value}, Y.cell? ⟨w.heap.size, i, none⟩ = some v -> W16.cell? ⟨w.heap.size, i, none⟩ = some v := fun {i v} e => (hk.cell (p := ⟨w.heap.size, i, none⟩) hsY hn).trans e
  have hlow : Below w.heap.size w W16 := (uh HB0).trans (keeps_low hk (fun i e => by omega) (uh HB0).size)
  refine ⟨?_, ?_, ?_, zs _ _ _ d3, fun i => ?_, (uh HD17).keeps (keeps_set W16 w.heap.size 3 _) (fun e => hn e.symm), hn, Nat.le_refl _, hlow.setCell zr _⟩
  ·rw [zo _ _ _ _ (by simp)]
   exact hc (uh HC0)
  ·rw [zo _ _ _ _ (by simp)]
   exact hc (uh HC1)
  ·rw [zo _ _ _ _ (by simp)]
   exact hc (uh HC2)
  ·rw [World.frozen?_setCell]
   exact (hk.frozen (p := ⟨w.heap.size, i, none⟩) hsY hn).trans (uh HF0 i))
 clear HD17 HK17 HC0 HC1 HC2 HC3 HF0
 have HR := zh (renew_any (ad := none) (n := 0) (cap := 0) (uh HTw) (uh HLw) (uh HGw) (uh HI))
 have HYs := zh hsY
 clear hsY
 go_upto_region 3 with fail
 generalize W16.setCell ⟨w.heap.size, 3, none⟩ (.map (some Y.heap.size)) = Z at *
 go_wp2_with fail
 refine (uh HR).mono ?_
 rintro e Z2 ⟨rfl, M, hM, hm, hk⟩
 have HF : Hid (SitSays w (.returned (.pointer (some ⟨w.heap.size, 0, none⟩))) Z2) := ⟨_, M, rfl, hM, fun i hi => by
  have h1 := uh HYs
  have h2 := (uh HI).low.size
  rcases hm i hi with e | e | e <;> omega⟩
 clear hM hm hk HR HI
 go_wp2
 go_ret
 exact uh HF
inductive RunP : DkS -> List ByteArray -> List UInt8 -> DkS -> Prop
 | nil (st : DkS) : RunP st [] [] st
 | cons {st st' st2 : DkS} {l : ByteArray} {ls : List ByteArray} {a o : List UInt8} : AnsP st l st' a -> RunP st' ls o st2 -> RunP st (l :: ls) (a ++ 10 :: o) st2
theorem RunP.all : ∀ (ls : List ByteArray) (st : DkS), (∀ l, l ∈ ls -> l.size <= 30000) -> ∃ o st', RunP st ls o st'
 | [], st, _ => ⟨[], st, .nil st⟩
 | l :: ls, st, h => by
  obtain ⟨st', a, ha⟩ := ans_all st l (h l (by simp))
  obtain ⟨o, st2, ho⟩ := RunP.all ls st' (fun x hx => h x (by simp [hx]))
  exact ⟨_, st2, .cons ha ho⟩
theorem RunP.app {st st' st2 : DkS} {a b : List ByteArray} {o o' : List UInt8} (h : RunP st a o st') (h2 : RunP st' b o' st2) : RunP st (a ++ b) (o ++ o') st2 := by
 induction h with
 | nil st => exact h2
 | cons ha _ ih =>
  have := RunP.cons ha (ih h2)
  simpa using this
theorem DkG.keeps {w y y' : World} {s : Nat} {M H : Nat -> Prop} {st : DkS} (h : DkG w y s M st) (hk : Keeps H y y') (hH : ∀ i, i < y.heap.size -> H i -> ¬ M i /\ w.heap.size <= i) : DkG w y' s M st := by
 obtain ⟨dm, D, B, ps, F, g, m, X, Nd, Fs, hI, hM⟩ := h
 refine ⟨dm, D, B, ps, F, g, m, X, Nd, Fs, hI.keeps hk (fun i hi q => ?_), hM⟩
 obtain ⟨h1, h2⟩ := hH i hi q
 rw [hM] at h1
 exact ⟨fun e => h1 (.inl e), fun e => h1 (.inr (.inl e)), fun e => h1 (.inr (.inr (.inl e))), fun e => h1 (.inr (.inr (.inr (.inl e)))), fun e => h1 (.inr (.inr (.inr (.inr e)))), h2⟩
theorem DkG.lt {w y : World} {s : Nat} {M : Nat -> Prop} {st : DkS} (h : DkG w y s M st) : ∀ i, M i -> i < y.heap.size := by
 obtain ⟨dm, D, B, ps, F, g, m, X, Nd, Fs, hI, hM⟩ := h
 exact fun i hi => hI.lt i ((hM i).1 hi)
theorem st0_ok : VOk st0 := fun k => by
 show (refS [] k _ _).size <= 12
 rw [refS_nil]
 decide
structure SesX (w : World) (text : ByteArray) (o : List UInt8) (stE : DkS) (s sb : Nat) (pre : List ByteArray) (W : World) (rest : List ByteArray) (o1 o2 : List UInt8) (st1 : DkS) (M : Nat -> Prop) (row : Option Nat) : Prop where
 ls : linesD text = pre ++ rest
 run : RunP st1 rest o2 stE
 out : o = o1 ++ o2
 len : o1.length <= pre.length * 2000000001
 vok : VOk st1
 dk : DkG w W s M st1
 bl : Bld W w.heap.size (sb + 1) row o1
 cs : W.cell? ⟨sb, 0, none⟩ = some (.pointer (some ⟨s, 0, none⟩))
 ct : W.cell? ⟨sb + 2, 0, none⟩ = some (.string text)
 mz : ∀ i, M i -> i < sb \/ sb + 5 <= i
 rz : ∀ g, row = some g -> sb + 5 <= g /\ ¬ M g
 sw : w.heap.size <= sb
def SesI (w : World) (text : ByteArray) (o : List UInt8) (stE : DkS) (s sb : Nat) (pre : List ByteArray) (W : World) : Prop := ∃ rest o1 o2 st1 M row, SesX w text o stE s sb pre W rest o1 o2 st1 M row
section
variable {w : World} {text : ByteArray} {o : List UInt8} {stE : DkS} {s sb : Nat} {pre : List ByteArray} {W W' : World}
theorem SesI.keeps {H : Nat -> Prop} (h : SesI w text o stE s sb pre W) (hk : Keeps H W W') (hH : ∀ i, H i -> i = sb + 3 \/ i = sb + 4) : SesI w text o stE s sb pre W' := by
 obtain ⟨rest, o1, o2, st1, M, row, h⟩ := h
 have hs := h.sw
 refine ⟨rest, o1, o2, st1, M, row, h.ls, h.run, h.out, h.len, h.vok, h.dk.keeps hk (fun i _ q => ⟨fun m => ?_, ?_⟩), h.bl.keeps hk (fun q => ?_) (fun g hg q => ?_), (hk.cell (p := ⟨sb, 0, none⟩) (lt_of_cell h.cs) (fun q => ?_)).trans h.cs, (hk.cell (p := ⟨sb + 2, 0, none⟩) (lt_of_cell h.ct) (fun q => ?_)).trans h.ct, h.mz, h.rz, h.sw⟩
 ·have := h.mz i m
  have := hH i q
  omega
 ·have := hH i q
  omega
 ·have := hH _ q
  omega
 ·have := hH _ q
  have := (h.rz g hg).1
  omega
 ·have := hH _ q
  dsimp only at this
  omega
 ·have := hH _ q
  dsimp only at this
  omega
theorem SesI.put (h : SesI w text o stE s sb pre W) {k : Nat} {ob : Obj} (hk : k = sb + 3 \/ k = sb + 3 + 1) : SesI w text o stE s sb pre (W.putObj k ob) :=
 h.keeps (H := (· = k)) (Keeps.of_grown (grownBy_putObj' W k ob) (fun i e => .inl (Option.some.inj e).symm)) (fun i e => by omega)
theorem SesI.drew (h : SesI w text o stE s sb pre W) (q : Nat) : SesI w text o stE s sb pre (World.drewN W q) :=
 h.keeps (H := fun _ => False) ⟨rfl, rfl, rfl, Nat.le_refl _, fun _ _ _ => rfl⟩ (fun _ f => f.elim)
theorem SesI.st (hl : Libs w) (h : SesI w text o stE s sb pre W) : LinesSt (sb + 2) text W := by
 obtain ⟨rest, o1, o2, st1, M, row, h⟩ := h
 obtain ⟨⟨mx, hmx⟩, _⟩ := hl
 exact ⟨h.ct, mx, (h.dk.low.cell (lt_of_cell hmx)).trans hmx⟩
theorem SesX.step {rest : List ByteArray} {o1 o2 a o' : List UInt8} {st1 st2 : DkS} {M : Nat -> Prop} {row row' : Option Nat} {x : ByteArray} {W1 W2 : World} (h : SesX w text o stE s sb pre W (x :: rest) o1 o2 st1 M row) (h5 : sb + 3 + 1 < W.heap.size)
  (ho : o2 = a ++ 10 :: o') (hr : RunP st2 rest o' stE) (hv : VOk st2) (ha : a.length <= 2000000000) (hA : After w s M W st2 W1) (hB : Bld W2 w.heap.size (sb + 1) row' (o1 ++ (a ++ [10]))) (hrow : row' = row \/ row' = some W1.heap.size) (hk2 : Keeps (fun i => i = sb + 1 \/ some i = row) W1 W2) :
  SesI w text o stE s sb (pre ++ [x]) W2 /\ W2.heap[sb + 3]? = W.heap[sb + 3]? /\ W2.heap[sb + 3 + 1]? = W.heap[sb + 3 + 1]? := by
 obtain ⟨M', hG, hsub, hk1⟩ := hA
 have hs := h.sw
 have hz1 := hk1.size
 have hMlt := hG.lt
 have hmz : ∀ i, M' i -> i < sb \/ sb + 5 <= i := fun i hi => (hsub i hi).elim (h.mz i) (fun q => by omega)
 have hrl : ∀ g, row = some g -> g < W.heap.size := h.bl.lt.2
 have hrM : ∀ g, row = some g -> sb + 5 <= g /\ ¬ M' g := fun g hg => ⟨(h.rz g hg).1, fun q => (hsub g q).elim (h.rz g hg).2 (fun e => by have := hrl g hg; omega)⟩
 have hnM : ∀ i, sb <= i -> i < sb + 5 -> ¬ M i := fun i h1 h2 q => by have := h.mz i q; omega
 have hb : ∀ i, sb <= i -> i < sb + 5 -> i ≠ sb + 1 -> i < W.heap.size -> W2.heap[i]? = W.heap[i]? := fun i h1 h2 h3 hi => (hk2.block i (by omega) (fun q => by
  rcases q with q | q
  ·omega
  ·have := (h.rz i q.symm).1
   omega)).trans (hk1.block i hi (hnM i h1 h2))
 have hc : ∀ i v, sb <= i -> i < sb + 5 -> i ≠ sb + 1 -> W.cell? ⟨i, 0, none⟩ = some v -> W2.cell? ⟨i, 0, none⟩ = some v := fun i v h1 h2 h3 q => (World.cell?_of_block (a := ⟨i, 0, none⟩) (hb i h1 h2 h3 (lt_of_cell q))).trans q
 refine ⟨⟨rest, o1 ++ (a ++ [10]), o', st2, M', row', by rw [h.ls]; simp, hr, by rw [h.out, ho]; simp, ?_, hv, hG.keeps hk2 (fun i hi q => ?_), hB, hc sb _ zr (by omega) (by omega) h.cs, hc (sb + 2) _ (by omega) (by omega) (by omega) h.ct, hmz, ?_, hs⟩, hb _ (by omega) (by omega) (by omega) (by omega), hb _ (by omega) (by omega) (by omega) h5⟩
 ·have := h.len
  simp only [List.length_append, List.length_cons, List.length_nil]
  omega
 ·rcases q with q | q
  ·subst q
   exact ⟨fun e => by have := hmz _ e; omega, by omega⟩
  ·have := hrM i q.symm
   exact ⟨this.2, by omega⟩
 ·rcases hrow with e | e
  ·rw [e]
   exact hrM
  ·rw [e]
   intro g hg
   have := Option.some.inj hg
   subst this
   exact ⟨by omega, fun q => by have := hMlt _ q; omega⟩
theorem SesI.end (h : SesI w text o stE s sb (linesD text) W) : ∃ row, Bld W w.heap.size (sb + 1) row o /\ Below w.heap.size w W := by
 obtain ⟨rest, o1, o2, st1, M, row, h⟩ := h
 have hr : rest = [] := by
  have e : linesD text ++ rest = linesD text ++ [] := by rw [List.append_nil]; exact h.ls.symm
  exact List.append_cancel_left e
 have hrun := h.run
 rw [hr] at hrun
 cases hrun
 have := h.out
 rw [List.append_nil] at this
 exact ⟨row, by rw [this]; exact h.bl, h.dk.low⟩
theorem SesX.next {rest : List ByteArray} {o1 o2 : List UInt8} {st1 : DkS} {M : Nat -> Prop} {row : Option Nat} {x : ByteArray} (h : SesX w text o stE s sb pre W (x :: rest) o1 o2 st1 M row) : ∃ st2 a o', AnsP st1 x st2 a /\ RunP st2 rest o' stE /\ o2 = a ++ 10 :: o' := by
 have hr := h.run
 cases hr with
 | cons h1 h2 => exact ⟨_, _, _, h1, h2, rfl⟩
end
end Go.Proofs.YtbmkmfoaoganeaaGreatDoor
