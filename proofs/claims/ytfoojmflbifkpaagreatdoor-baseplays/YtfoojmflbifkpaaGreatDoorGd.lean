/- Texts of one proof, one behind the other. -/
import Derived.Test.YtfoojmflbifkpaaGreatDoorGc
import Derived.Test.YtfoojmflbifkpaaGreatDoorGb
import Derived.Test.YtfoojmflbifkpaaGreatDoorEl
import Derived.Test.YtfoojmflbifkpaaGreatDoorEn
import Derived.Test.YtfoojmflbifkpaaGreatDoorEx
import Derived.Lib.ItoaLen
set_option maxRecDepth 100000
set_option maxHeartbeats 16000000
namespace Go.Proofs.YtfoojmflbifkpaaGreatDoor
open Go.RowKit Go.Maps
theorem PastX.beside {w : World} {P : Pl} {now known : Int} {mv : Option Nat} {X : List (Ky × Nat)} {Ln : Nat -> List Ver × Int} {Fs : Nat -> Nat -> Prop} (h : PastX w P now known mv X Ln Fs) {i : Nat} (hi : i < P.o \/ P.o + 3 <= i) {u : Value} (hc : w.cell? ⟨P.b, i, none⟩ = some u) (v : Value) :
  PastX (w.setCell ⟨P.b, i, none⟩ v) ⟨P.b, P.o, fun j => if j = i then some v else P.R j⟩ now known mv X Ln Fs := by
 have hk := keeps_set w P.b i v
 refine ⟨?_, ?_, ?_, fun j => ?_, h.map.keeps hk (fun m e => h.mP e), h.keys, h.blocks, fun x hx => (h.line x hx).keeps hk (fun i hi e => h.nP x hx (by rw [<- e]; exact hi)), h.apart, h.nP, h.nm, fun j hj => ?_⟩
 ·show (w.setCell ⟨P.b, i, none⟩ v).cell? ⟨P.b, P.o, none⟩ = _
  rw [World.cell?_setCell_other _ _ _ _ (fun e => by injection e with _ e; omega)]; exact h.c0
 ·show (w.setCell ⟨P.b, i, none⟩ v).cell? ⟨P.b, P.o + 1, none⟩ = _
  rw [World.cell?_setCell_other _ _ _ _ (fun e => by injection e with _ e; omega)]; exact h.c1
 ·show (w.setCell ⟨P.b, i, none⟩ v).cell? ⟨P.b, P.o + 2, none⟩ = _
  rw [World.cell?_setCell_other _ _ _ _ (fun e => by injection e with _ e; omega)]; exact h.c2
 ·rw [World.frozen?_setCell]; exact h.f j
 ·show (w.setCell ⟨P.b, i, none⟩ v).cell? ⟨P.b, j, none⟩ = if j = i then some v else P.R j
  by_cases e : j = i
  ·subst e
   rw [if_pos rfl]
   exact World.cell?_setCell_same _ _ _ hc
  ·rw [if_neg e, World.cell?_setCell_other _ _ _ _ (fun q => by injection q with _ q; omega)]
   exact h.rest j hj
theorem PastW.rest {w : World} {P : Pl} {now known bd : Int} {S : Ky -> Int -> Int -> ByteArray} {F : Nat -> Prop} (h : PastW w P now known bd S F) : (∀ i, i < P.o \/ P.o + 3 <= i -> w.cell? ⟨P.b, i, none⟩ = P.R i) /\ (∀ i, w.frozen? ⟨P.b, i, none⟩ = false) /\ F P.b := by
 obtain ⟨mv, X, Ln, Fs, h1, _, _, rfl⟩ := h
 exact ⟨h1.rest, h1.f, .inl rfl⟩
def restB (D : Nat) (used : Int) (down : Bool) : Nat -> Option Value := fun i => if i = 0 then some (.pointer (some ⟨D, 0, none⟩)) else if i = 4 then some (.int .i64 used) else if i = 5 then some (.bool down) else none
abbrev plB (B D : Nat) (used : Int) (down : Bool) : Pl := ⟨B, 1, restB D used down⟩
def BaseW (w : World) (B D : Nat) (used : Int) (down : Bool) (txs : List (List Fop)) (known : Int) (F : Nat -> Prop) : Prop := PastT w (plB B D used down) txs known F
theorem BaseW.cells {w : World} {B D : Nat} {used : Int} {down : Bool} {txs : List (List Fop)} {known : Int} {F : Nat -> Prop} (h : BaseW w B D used down txs known F) :
  w.cell? ⟨B, 0, none⟩ = some (.pointer (some ⟨D, 0, none⟩)) /\ w.cell? ⟨B, 4, none⟩ = some (.int .i64 used) /\ w.cell? ⟨B, 5, none⟩ = some (.bool down) /\ (∀ i, w.frozen? ⟨B, i, none⟩ = false) /\ F B /\ w.cell? ⟨B, 1, none⟩ = some (.int .i64 txs.length) /\ w.cell? ⟨B, 2, none⟩ = some (.int .i64 known) := by
 obtain ⟨h1, h2, h3⟩ := PastW.rest h
 obtain ⟨c0, c1⟩ := PastW.cells h
 exact ⟨h1 0 (.inl (Nat.zero_lt_one)), h1 4 (.inr (Nat.le_refl 4)), h1 5 (.inr (Nat.le_succ 4)), h2, h3, c0, c1⟩
theorem BaseW.below {w w' : World} {B D : Nat} {used : Int} {down : Bool} {txs : List (List Fop)} {known : Int} {F : Nat -> Prop} (h : BaseW w B D used down txs known F) (hb : Below w.heap.size w w') : BaseW w' B D used down txs known F := PastT.below h hb
theorem BaseW.keeps {w w' : World} {B D : Nat} {used : Int} {down : Bool} {txs : List (List Fop)} {known : Int} {F H : Nat -> Prop} (h : BaseW w B D used down txs known F) (hk : Keeps H w w') (hH : ∀ i, F i -> ¬ H i) : BaseW w' B D used down txs known F := PastT.keeps h hk hH
theorem BaseW.lt {w : World} {B D : Nat} {used : Int} {down : Bool} {txs : List (List Fop)} {known : Int} {F : Nat -> Prop} (h : BaseW w B D used down txs known F) : ∀ i, F i -> i < w.heap.size := PastW.lt h
theorem restB_used (D : Nat) (used n : Int) (down : Bool) : (fun j => if j = 4 then some (Value.int .i64 n) else restB D used down j) = restB D n down := by
 funext j
 unfold restB
 by_cases e : j = 4
 ·subst e; simp
 ·simp [e]
theorem restB_down (D : Nat) (used : Int) (down d : Bool) : (fun j => if j = 5 then some (Value.bool d) else restB D used down j) = restB D used d := by
 funext j
 unfold restB
 by_cases e : j = 5
 ·subst e; simp
 ·simp [e]
theorem BaseW.setUsed {w : World} {B D : Nat} {used : Int} {down : Bool} {txs : List (List Fop)} {known : Int} {F : Nat -> Prop} (h : BaseW w B D used down txs known F) (n : Int) : BaseW (w.setCell ⟨B, 4, none⟩ (.int .i64 n)) B D n down txs known F := by
 have hc := h.cells.2.1
 obtain ⟨mv, X, Ln, Fs, h1, h2, h3, h4⟩ := h
 have := h1.beside (i := 4) (.inr (Nat.le_refl 4)) hc (.int .i64 n)
 refine ⟨mv, X, Ln, Fs, ?_, h2, h3, h4⟩
 unfold plB
 rw [<- restB_used D used n down]
 exact this
theorem BaseW.setDown {w : World} {B D : Nat} {used : Int} {down : Bool} {txs : List (List Fop)} {known : Int} {F : Nat -> Prop} (h : BaseW w B D used down txs known F) (d : Bool) : BaseW (w.setCell ⟨B, 5, none⟩ (.bool d)) B D used d txs known F := by
 have hc := h.cells.2.2.1
 obtain ⟨mv, X, Ln, Fs, h1, h2, h3, h4⟩ := h
 have := h1.beside (i := 5) (.inr (Nat.le_succ 4)) hc (.bool d)
 refine ⟨mv, X, Ln, Fs, ?_, h2, h3, h4⟩
 unfold plB
 rw [<- restB_down D used down d]
 exact this
def Took (w : World) (B D : Nat) (used : Int) (down : Bool) (st : List (List Fop) × Int) (F : Nat -> Prop) (w' : World) : Prop := ∃ F', BaseW w' B D used down st.1 st.2 F' /\ Grew w F F' w'
theorem take_commit {w : World} {B D : Nat} {used : Int} {down : Bool} {txs : List (List Fop)} {known : Int} {F : Nat -> Prop} (h : BaseW w B D used down txs known F) (l : List Fop) (hl : okL l) (h1 : txs.length < 150) (hk : known <= txs.length) (ht : Tab w) (hb : Libs w) :
  Calls Tryz.prog 76 #[.pointer (some ⟨B, 0, none⟩), .string ⟨(opsL l ++ [10]).toArray⟩] w fun e w' => e = .returned (.bool true) /\ Took w B D used down (txs ++ [l], known) F w' := by
 have hlen : (opsL l).length <= l.length * 155 := wrs_length_le l hl.2.2
 have hl8 := hl.2.1
 have HC := zh (cut_suffix_yes (opsL l) w (by omega))
 obtain ⟨c, r, hcr, hc⟩ := ops_head l hl
 have hrl : r.length < 100000 := by
  have := congrArg List.length hcr
  simp at this
  omega
 have HP := zh (cut_prefix_no c r w hrl hc)
 rw [<- hcr] at HP
 have HR := zh (fact_Read ⟨(opsL l).toArray⟩ w (by rw [bytes_len]; omega) hb ht)
 have HH := zh h
 have HT := zh ht
 have HL := zh hl
 clear hb ht hl hc hcr hrl hlen hl8 h
 generalize hst : (⟨(opsL l ++ [10]).toArray⟩ : ByteArray) = st at HC ⊢
 clear hst
 go_enter Tryz.func76, Tryz.ntmps76
 go_wp2_with fail
 refine (uh HC).mono ?_
 rintro e W1 ⟨rfl, hW1⟩
 obtain rfl : w = W1 := hW1.symm
 clear hW1 HC
 go_wp2_with fail
 refine (uh HP).mono ?_
 rintro e W1 ⟨rfl, hW1⟩
 obtain rfl : w = W1 := hW1.symm
 clear hW1 HP
 go_wp2_with fail
 refine (uh HR).mono ?_
 rintro e W2 ⟨hR, b2⟩
 rcases hR with ⟨q, v, hq, hqe, rfl, hv⟩ | ⟨hno, _⟩
 ·obtain rfl : l = q := wrs_inj l q (uh HL) hq (by simpa using hqe)
  have hne : l ≠ [] := fun e => by
   have := hq.1
   rw [e] at this
   simp at this
  obtain ⟨g, cap, rfl, hO, hg⟩ := RowO.at (show RowO W2 w.heap.size v l from hv) hne
  have HB := zh b2
  have hgF : ¬ F g := fun q => by
   have := (uh HH).lt g q
   omega
  have HCm := zh (commit_txs ((uh HH).below b2) l g 0 cap hq hO hgF ((uh HT).carry b2) h1 hk)
  clear hv hO hg hgF hqe HR b2
  go_wp2_with fail
  refine (uh HCm).mono ?_
  rintro e W3 ⟨rfl, F', p3, g3⟩
  have HF : Hid (Took w B D used down (txs ++ [l], known) F W3) := ⟨F', p3, Grew.below (uh HB) g3⟩
  clear p3 g3 HCm HH HB
  go_wp2
  go_ret
  exact ⟨rfl, uh HF⟩
 ·exact absurd rfl (hno l (uh HL))
theorem itoa_short (n : Int) (h0 : -9223372036854775808 <= n) (h1 : n <= 9223372036854775807) : (Lib.itoa n).length <= 21 := Lib.itoa_length_le n h0 h1
theorem take_forget {w : World} {B D : Nat} {used : Int} {down : Bool} {txs : List (List Fop)} {known : Int} {F : Nat -> Prop} (h : BaseW w B D used down txs known F) (n : Int) (h0 : 0 <= n) (hk : known <= n) (hn : n <= txs.length) (h1 : txs.length <= 150) :
  Calls Tryz.prog 76 #[.pointer (some ⟨B, 0, none⟩), .string ⟨(forgetL ++ Lib.itoa n ++ [10]).toArray⟩] w fun e w' => e = .returned (.bool true) /\ Took w B D used down (txs, n) F w' := by
 have hlen := itoa_short n (by omega) (by omega)
 have hfl : forgetL.length = 7 := rfl
 have HC := zh (cut_suffix_yes (forgetL ++ Lib.itoa n) w (by rw [List.length_append]; omega))
 have HP := zh (cut_prefix_yes (Lib.itoa n) w (by omega))
 have HA := zh (atoi_ok ⟨(Lib.itoa n).toArray⟩ n w (by rw [bytes_len]; omega) (atoi_itoa n (by omega) (by omega)))
 have HF := zh (fun W (hb : Below w.heap.size w W) => forget_ok (h.below hb) n h0 hk hn (by omega))
 clear h hlen
 generalize hst : (⟨(forgetL ++ Lib.itoa n ++ [10]).toArray⟩ : ByteArray) = st at HC ⊢
 clear hst
 go_enter Tryz.func76, Tryz.ntmps76
 go_wp2_with fail
 refine (uh HC).mono ?_
 rintro e W1 ⟨rfl, hW1⟩
 obtain rfl : w = W1 := hW1.symm
 clear hW1 HC
 go_wp2_with fail
 refine (uh HP).mono ?_
 rintro e W1 ⟨rfl, hW1⟩
 obtain rfl : w = W1 := hW1.symm
 clear hW1 HP
 go_wp2_with fail
 refine (uh HA).mono ?_
 rintro e W2 ⟨rfl, b2⟩
 have HB := zh b2
 have HF2 := zh (uh HF W2 b2)
 clear b2 HA HF
 go_wp2_with fail
 refine (uh HF2).mono ?_
 rintro e W3 ⟨rfl, F', p3, g3⟩
 have HT : Hid (Took w B D used down (txs, n) F W3) := ⟨F', p3, Grew.below (uh HB) g3⟩
 clear p3 g3 HF2 HB
 go_wp2
 go_ret
 exact ⟨rfl, uh HT⟩
theorem take_none {w : World} {B : Nat} (s : ByteArray) (hs : s.size < 50000) (hn : (10 : UInt8) ∉ s.data.toList) :
  Calls Tryz.prog 76 #[.pointer (some ⟨B, 0, none⟩), .string s] w fun e w' => e = .returned (.bool false) /\ w' = w := by
 have HC := zh (cut_suffix_no s w (by omega) hn)
 clear hs hn
 go_enter Tryz.func76, Tryz.ntmps76
 go_wp2_with fail
 refine (uh HC).mono ?_
 rintro e W1 ⟨rfl, hW1⟩
 obtain rfl : w = W1 := hW1.symm
 clear hW1 HC
 go_wp2
 go_ret
 exact ⟨rfl, rfl⟩
theorem base_new (w : World) (D : Nat) : BaseW (w.alloc (.cells #[.pointer (some ⟨D, 0, none⟩), .int .i64 0, .int .i64 0, .map none, .int .i64 0, .bool false] 157)) w.heap.size D 0 false [] 0 (pastF (plB w.heap.size D 0 false) none [] (fun _ _ => False)) := by
 refine ⟨none, [], fun _ => ([], 0), fun _ _ => False, ⟨by simp, by simp, by simp, fun i => by simp, .inl ⟨rfl, rfl⟩, List.Pairwise.nil, List.Pairwise.nil, by simp, by simp, by simp, by simp, fun i hi => ?_⟩, ⟨by simp, by simp, by simp, fun _ _ _ _ _ _ => ?_⟩, by simp, rfl⟩
 ·have hi' : i < 1 \/ 1 + 3 <= i := hi
  show (w.alloc (.cells #[.pointer (some ⟨D, 0, none⟩), .int .i64 0, .int .i64 0, .map none, .int .i64 0, .bool false] 157)).cell? ⟨w.heap.size, i, none⟩ = restB D 0 false i
  unfold World.cell? restB
  rw [heap_alloc_new]
  rcases Nat.lt_or_ge i 6 with q | q
  ·have : i = 0 \/ i = 4 \/ i = 5 := by omega
   rcases this with rfl | rfl | rfl <;> rfl
  ·have h0 : i ≠ 0 := by omega
   have h4 : i ≠ 4 := by omega
   have h5 : i ≠ 5 := by omega
   simp [h0, h4, h5, q]
 ·unfold refI refS
  simp
  rfl
structure OpI (w : World) (B D : Nat) (ps : Nat -> ByteArray) (cut : Bool) (left : Int) (es : List (List Fop ⊕ Int)) (j : Nat) (F : Nat -> Prop) (W : World) : Prop where
 base : BaseW W B D j false (stE (es.take j)).1 (stE (es.take j)).2 F
 own : ∀ i, F i -> w.heap.size <= i
 low : Below w.heap.size w W
 disk : DiskW W D ps cut left
def Opened (w : World) (D : Nat) (es : List (List Fop ⊕ Int)) (e : Ending) (w' : World) : Prop :=
 ∃ B F, e = .returned (.tuple #[.pointer (some ⟨B, 0, none⟩), .nilIface]) /\ BaseW w' B D es.length false (stE es).1 (stE es).2 F /\ (∀ i, F i -> w.heap.size <= i) /\ Below w.heap.size w w'
theorem took_of {w : World} {B D : Nat} {ps : Nat -> ByteArray} {cut : Bool} {left : Int} {es : List (List Fop ⊕ Int)} {j : Nat} {F : Nat -> Prop} {W : World} (hI : OpI w B D ps cut left es j F W) (hH : Holds ps es) (hj : j < es.length) (he : es.length <= 150) (ht : Tab W) (hb : Libs W) :
  Calls Tryz.prog 76 #[.pointer (some ⟨B, 0, none⟩), .string (ps j)] W.drew fun e w' => e = .returned (.bool true) /\ Took W B D j false (stE (es.take (j + 1))) F w' := by
 have hbd := below_drew W
 have hs := bytes_is (hH.there j hj)
 have hg := good_take hH.good j
 obtain ⟨b1, b2, b3⟩ := stE_bounds hg
 rw [List.length_take] at b1
 have hok := hH.good j hj
 have e1 : stE (es.take (j + 1)) = stepE (stE (es.take j)) es[j] := by rw [List.take_succ_eq_append_getElem hj, stE_snoc]
 rw [hs, e1]
 have hB := hI.base.below hbd
 have ht2 := ht.carry hbd
 have hb2 := hb.carry hbd
 rcases hx : es[j] with l | n
 ·rw [hx] at hok
  refine (take_commit hB l hok (by omega) b3 ht2 hb2).mono ?_
  rintro e w' ⟨rfl, F', p, g⟩
  exact ⟨rfl, F', p, Grew.below hbd g⟩
 ·rw [hx] at hok
  obtain ⟨q1, q2⟩ := (hok : (stE (es.take j)).2 <= n /\ n <= (stE (es.take j)).1.length)
  refine (take_forget hB n (by omega) q1 q2 (by omega)).mono ?_
  rintro e w' ⟨rfl, F', p, g⟩
  exact ⟨rfl, F', p, Grew.below hbd g⟩
theorem base_Open {w : World} {D : Nat} {ps : Nat -> ByteArray} {cut : Bool} {left : Int} {es : List (List Fop ⊕ Int)} (h : DiskW w D ps cut left) (hH : Holds ps es) (he : es.length <= 150) (ht : Tab w) (hb : Libs w) :
  Calls Tryz.prog 28 #[.pointer (some ⟨D, 0, none⟩)] w (Opened w D es) := by
 have HN := zh (base_new w D)
 have HB0 := zh (below_box w (.cells #[.pointer (some ⟨D, 0, none⟩), .int .i64 0, .int .i64 0, .map none, .int .i64 0, .bool false] 157))
 have HD0 := zh (h.below (uh HB0))
 have HH := zh hH
 have HT := zh ht
 have HL := zh hb
 have HDw := zh h
 clear h hH ht hb
 go_enter Tryz.func28, Tryz.ntmps28
 go_wp2
 generalize w.alloc (.cells #[.pointer (some ⟨D, 0, none⟩), .int .i64 0, .int .i64 0, .map none, .int .i64 0, .bool false] 157) = W0 at *
 go_loopw [] (fun y => ∃ (j : Nat) (F : Nat -> Prop), j <= es.length /\ OpI w w.heap.size D ps cut left es j F y) (fun y => es.length - (intOf ((y.cell? ⟨w.heap.size, 4, none⟩).getD undef)).toNat)
 case atStart =>
  refine ⟨0, _, Nat.zero_le _, uh HN, ?_, uh HB0, uh HD0⟩
  rintro i (rfl | q | ⟨x, hx, _⟩)
  ·exact Nat.le_refl _
  ·cases q
  ·cases hx
 case round =>
  obtain ⟨j, F, hj, hI⟩ := hrel
  have HI := zh hI
  obtain ⟨c0, c4, c5, f, fB, c1, c2⟩ := hI.base.cells
  have f4 := f 4
  have HM1 := zh c4
  clear hI f
  by_cases hjl : j < es.length
  ·have hlt : j < 150 := by omega
   have hlt' : (j : Int) < 150 := by omega
   have hj0 : (0 : Int) <= (j : Int) := by omega
   have hp := (uh HI).disk.p j hlt
   have HTk := zh (took_of (uh HI) (uh HH) hjl he ((uh HT).carry (uh HI).low) ((uh HL).carry (uh HI).low))
   generalize ps j = sj at hp HTk
   go_wp2
   refine wp_region_tail (fun y => y = wr.drew) 16 (by kernel_rfl) (by kernel_rfl) rfl (fun hHeld => ?_)
   refine takeH 0 (oi := ?o0_1) (v := ?v0_1) ?h0_1 (by kernel_rfl) (by assumption) ?y0_1 ?_
   case h0_1 => (simp only [gA, gZ]; rfl)
   case y0_1 => (refine ⟨fun _ _ _ h => h, rfl, fun w h => ?_⟩; (try dsimp only at h); go_simp <;> with_reducible rfl)
   try simp only [Act.put, sI, sZ, sS]
   refine takeH 1 (oi := ?o1_1) (v := ?v1_1) ?h1_1 (by kernel_rfl) (by assumption) ?y1_1 ?_
   case h1_1 => (simp only [gA, gZ, gS]; rfl)
   case y1_1 => (refine ⟨fun _ _ _ h => h, rfl, fun w h => ?_⟩; (try dsimp only at h); go_simp <;> with_reducible rfl)
   try simp only [Act.put, sI, sZ, sS]
   refine takeH 2 (oi := ?o2_1) (v := ?v2_1) ?h2_1 (by kernel_rfl) (by assumption) ?y2_1 ?_
   case h2_1 => (simp only [gA, gZ, gS]; rfl)
   case y2_1 => (refine ⟨fun _ _ _ h => h, rfl, fun w h => ?_⟩; (try dsimp only at h); go_simp <;> with_reducible rfl)
   try simp only [Act.put, sI, sZ, sS]
   refine takeH 3 (oi := ?o3_1) (v := ?v3_1) ?h3_1 (by kernel_rfl) (by assumption) ?y3_1 ?_
   case h3_1 => (simp only [gA, gZ, gS]; rfl)
   case y3_1 => (refine ⟨fun _ _ _ h => h, rfl, fun w h => ?_⟩; (try dsimp only at h); go_simp <;> with_reducible rfl)
   try simp only [Act.put, sI, sZ, sS]
   refine takeH 4 (oi := ?o4_1) (v := ?v4_1) ?h4_1 (by kernel_rfl) (by assumption) ?y4_1 ?_
   case h4_1 => (simp only [gA, gZ, gS]; rfl)
   case y4_1 => (refine ⟨fun _ _ _ h => h, rfl, fun w h => ?_⟩; (try dsimp only at h); go_simp <;> with_reducible rfl)
   try simp only [Act.put, sI, sZ, sS]
   refine takeH 5 (oi := ?o5_1) (v := ?v5_1) ?h5_1 (by kernel_rfl) (by assumption) ?y5_1 ?_
   case h5_1 => (simp only [gA, gZ, gS]; rfl)
   case y5_1 => (refine ⟨fun _ _ _ h => h, rfl, fun w h => ?_⟩; (try dsimp only at h); go_simp <;> with_reducible rfl)
   try simp only [Act.put, sI, sZ, sS]
   refine takeH 6 (oi := ?o6_1) (v := ?v6_1) ?h6_1 (by kernel_rfl) (by assumption) ?y6_1 ?_
   case h6_1 => (simp only [gA, gZ, gS]; rfl)
   case y6_1 => (refine ⟨fun _ _ _ h => h, rfl, fun w h => ?_⟩; (try dsimp only at h); go_simp <;> with_reducible rfl)
   try simp only [Act.put, sI, sZ, sS]
   refine takeH 7 (oi := ?o7_1) (v := ?v7_1) ?h7_1 (by kernel_rfl) (by assumption) ?y7_1 ?_
   case h7_1 => (simp only [gA, gZ, gS]; rfl)
   case y7_1 => (refine ⟨fun _ _ _ h => h, rfl, fun w h => ?_⟩; (try dsimp only at h); go_simp <;> with_reducible rfl)
   try simp only [Act.put, sI, sZ, sS]
   refine takeH 8 (oi := ?o8_1) (v := ?v8_1) ?h8_1 (by kernel_rfl) (by assumption) ?y8_1 ?_
   case h8_1 => (simp only [gA, gZ, gS]; rfl)
   case y8_1 => (refine ⟨fun _ _ _ h => h, rfl, fun w h => ?_⟩; (try dsimp only at h); go_simp <;> with_reducible rfl)
   try simp only [Act.put, sI, sZ, sS]
   refine takeH 9 (oi := ?o9_1) (v := ?v9_1) ?h9_1 (by kernel_rfl) (by assumption) ?y9_1 ?_
   case h9_1 => (simp only [gA, gZ, gS]; rfl)
   case y9_1 => (refine ⟨fun _ _ _ h => h, rfl, fun w h => ?_⟩; (try dsimp only at h); go_simp <;> with_reducible rfl)
   try simp only [Act.put, sI, sZ, sS]
   refine takeH 10 (oi := ?o10_1) (v := ?v10_1) ?h10_1 (by kernel_rfl) (by assumption) ?y10_1 ?_
   case h10_1 => (simp only [gA, gZ, gS]; rfl)
   case y10_1 => (refine ⟨fun _ _ _ h => h, rfl, fun w h => ?_⟩; (try dsimp only at h); go_simp <;> with_reducible rfl)
   try simp only [Act.put, sI, sZ, sS]
   refine takeH 11 (oi := ?o11_1) (v := ?v11_1) ?h11_1 (by kernel_rfl) (by assumption) ?y11_1 ?_
   case h11_1 => (simp only [gA, gZ, gS]; rfl)
   case y11_1 => (refine ⟨fun _ _ _ h => h, rfl, fun w h => ?_⟩; (try dsimp only at h); go_simp <;> with_reducible rfl)
   try simp only [Act.put, sI, sZ, sS]
   refine takeH 12 (oi := ?o12_1) (v := ?v12_1) ?h12_1 (by kernel_rfl) (by assumption) ?y12_1 ?_
   case h12_1 => (simp only [gA, gZ, gS]; rfl)
   case y12_1 => (refine ⟨fun _ _ _ h => h, rfl, fun w h => ?_⟩; (try dsimp only at h); go_simp <;> with_reducible rfl)
   try simp only [Act.put, sI, sZ, sS]
   refine takeH 13 (oi := ?o13_1) (v := ?v13_1) ?h13_1 (by kernel_rfl) (by assumption) ?y13_1 ?_
   case h13_1 => (simp only [gA, gZ, gS]; rfl)
   case y13_1 => (refine ⟨fun _ _ _ h => h, rfl, fun w h => ?_⟩; (try dsimp only at h); go_simp <;> with_reducible rfl)
   try simp only [Act.put, sI, sZ, sS]
   refine takeH 14 (oi := ?o14_1) (v := ?v14_1) ?h14_1 (by kernel_rfl) (by assumption) ?y14_1 ?_
   case h14_1 => (simp only [gA, gZ, gS]; rfl)
   case y14_1 => (refine ⟨fun _ _ _ h => h, rfl, fun w h => ?_⟩; (try dsimp only at h); go_simp <;> with_reducible rfl)
   try simp only [Act.put, sI, sZ, sS]
   refine takeH 15 (oi := ?o15_1) (v := ?v15_1) ?h15_1 (by kernel_rfl) (by assumption) ?y15_1 ?_
   case h15_1 => (simp only [gA, gZ, gS]; rfl)
   case y15_1 => (refine ⟨fun _ _ _ h => h, rfl, fun w h => ?_⟩; (try dsimp only at h); go_simp <;> with_reducible rfl)
   try simp only [Act.put, sI, sZ, sS]
   refine wpAnyH_done (by kernel_rfl) ?_ _
   show wpList _ _ _ _ _ _
   clear hHeld
   go_wp2_with fail
   refine (uh HTk).mono ?_
   rintro e W2 ⟨rfl, F2, p2, g2⟩
   have hlow : Below w.heap.size w W2 := (uh HI).low.trans (keeps_below g2.2 (uh HI).own (uh HI).low.size)
   have hown : ∀ i, F2 i -> w.heap.size <= i := fun i hi => by
    rcases g2.1 i hi with q | q
    ·exact (uh HI).own i q
    ·exact Nat.le_trans (uh HI).low.size q
   have hDn : ¬ F D := fun q => Nat.lt_irrefl D (Nat.lt_of_lt_of_le (uh HDw).lt ((uh HI).own D q))
   have hD2 := (uh HI).disk.keeps g2.2 hDn
   obtain ⟨_, d4, _, ff, _, _, _⟩ := BaseW.cells p2
   have f4' := ff 4
   have hks := keeps_set W2 w.heap.size 4 (.int .i64 ((j : Int) + 1))
   have HN2 : Hid (OpI w w.heap.size D ps cut left es (j + 1) F2 (W2.setCell ⟨w.heap.size, 4, none⟩ (.int .i64 ((j : Int) + 1)))) :=
    ⟨BaseW.setUsed p2 _, hown, hlow.trans (keeps_below hks (fun i e => Nat.le_of_eq e.symm) hlow.size), hD2.keeps hks (fun e => Nat.ne_of_lt (uh HDw).lt e)⟩
   have HM2 : Hid ((W2.setCell ⟨w.heap.size, 4, none⟩ (.int .i64 ((j : Int) + 1))).cell? ⟨w.heap.size, 4, none⟩ = some (.int .i64 ((j : Int) + 1))) := World.cell?_setCell_same _ _ _ d4
   clear p2 g2 hlow hown hDn hD2 hks ff HTk HI c0 c4 c5 fB c1 c2 f4
   go_wp2
   go_roundw
   case rel => exact ⟨j + 1, F2, by omega, uh HN2⟩
   case measure =>
    rw [uh HM1, uh HM2]
    simp [intOf]
    omega
  ·obtain rfl : j = es.length := by omega
   have HF : Hid (∀ W, Below wr.heap.size wr W -> Opened w D es (.returned (.tuple #[.pointer (some ⟨w.heap.size, 0, none⟩), .nilIface])) W) := fun W hW => by
    have := (uh HI).base
    rw [List.take_length] at this
    exact ⟨w.heap.size, F, rfl, this.below hW, (uh HI).own, (uh HI).low.trans (hW.mono (uh HI).low.size)⟩
   have hj0 : (0 : Int) <= (es.length : Int) := by omega
   by_cases hlt : es.length < 150
   ·have hlt' : (es.length : Int) < 150 := by omega
    have hp := (uh HI).disk.p es.length hlt
    have HTk := zh (take_none (w := wr.drew) (B := w.heap.size) (ps es.length) ((uh HI).disk.sz _) ((uh HH).none es.length zr))
    generalize ps es.length = sj at hp HTk
    go_wp2
    refine wp_region_tail (fun y => y = wr.drew) 16 (by kernel_rfl) (by kernel_rfl) rfl (fun hHeld => ?_)
    refine takeH 0 (oi := ?o0_2) (v := ?v0_2) ?h0_2 (by kernel_rfl) (by assumption) ?y0_2 ?_
    case h0_2 => (simp only [gA, gZ]; rfl)
    case y0_2 => (refine ⟨fun _ _ _ h => h, rfl, fun w h => ?_⟩; (try dsimp only at h); go_simp <;> with_reducible rfl)
    try simp only [Act.put, sI, sZ, sS]
    refine takeH 1 (oi := ?o1_2) (v := ?v1_2) ?h1_2 (by kernel_rfl) (by assumption) ?y1_2 ?_
    case h1_2 => (simp only [gA, gZ, gS]; rfl)
    case y1_2 => (refine ⟨fun _ _ _ h => h, rfl, fun w h => ?_⟩; (try dsimp only at h); go_simp <;> with_reducible rfl)
    try simp only [Act.put, sI, sZ, sS]
    refine takeH 2 (oi := ?o2_2) (v := ?v2_2) ?h2_2 (by kernel_rfl) (by assumption) ?y2_2 ?_
    case h2_2 => (simp only [gA, gZ, gS]; rfl)
    case y2_2 => (refine ⟨fun _ _ _ h => h, rfl, fun w h => ?_⟩; (try dsimp only at h); go_simp <;> with_reducible rfl)
    try simp only [Act.put, sI, sZ, sS]
    refine takeH 3 (oi := ?o3_2) (v := ?v3_2) ?h3_2 (by kernel_rfl) (by assumption) ?y3_2 ?_
    case h3_2 => (simp only [gA, gZ, gS]; rfl)
    case y3_2 => (refine ⟨fun _ _ _ h => h, rfl, fun w h => ?_⟩; (try dsimp only at h); go_simp <;> with_reducible rfl)
    try simp only [Act.put, sI, sZ, sS]
    refine takeH 4 (oi := ?o4_2) (v := ?v4_2) ?h4_2 (by kernel_rfl) (by assumption) ?y4_2 ?_
    case h4_2 => (simp only [gA, gZ, gS]; rfl)
    case y4_2 => (refine ⟨fun _ _ _ h => h, rfl, fun w h => ?_⟩; (try dsimp only at h); go_simp <;> with_reducible rfl)
    try simp only [Act.put, sI, sZ, sS]
    refine takeH 5 (oi := ?o5_2) (v := ?v5_2) ?h5_2 (by kernel_rfl) (by assumption) ?y5_2 ?_
    case h5_2 => (simp only [gA, gZ, gS]; rfl)
    case y5_2 => (refine ⟨fun _ _ _ h => h, rfl, fun w h => ?_⟩; (try dsimp only at h); go_simp <;> with_reducible rfl)
    try simp only [Act.put, sI, sZ, sS]
    refine takeH 6 (oi := ?o6_2) (v := ?v6_2) ?h6_2 (by kernel_rfl) (by assumption) ?y6_2 ?_
    case h6_2 => (simp only [gA, gZ, gS]; rfl)
    case y6_2 => (refine ⟨fun _ _ _ h => h, rfl, fun w h => ?_⟩; (try dsimp only at h); go_simp <;> with_reducible rfl)
    try simp only [Act.put, sI, sZ, sS]
    refine takeH 7 (oi := ?o7_2) (v := ?v7_2) ?h7_2 (by kernel_rfl) (by assumption) ?y7_2 ?_
    case h7_2 => (simp only [gA, gZ, gS]; rfl)
    case y7_2 => (refine ⟨fun _ _ _ h => h, rfl, fun w h => ?_⟩; (try dsimp only at h); go_simp <;> with_reducible rfl)
    try simp only [Act.put, sI, sZ, sS]
    refine takeH 8 (oi := ?o8_2) (v := ?v8_2) ?h8_2 (by kernel_rfl) (by assumption) ?y8_2 ?_
    case h8_2 => (simp only [gA, gZ, gS]; rfl)
    case y8_2 => (refine ⟨fun _ _ _ h => h, rfl, fun w h => ?_⟩; (try dsimp only at h); go_simp <;> with_reducible rfl)
    try simp only [Act.put, sI, sZ, sS]
    refine takeH 9 (oi := ?o9_2) (v := ?v9_2) ?h9_2 (by kernel_rfl) (by assumption) ?y9_2 ?_
    case h9_2 => (simp only [gA, gZ, gS]; rfl)
    case y9_2 => (refine ⟨fun _ _ _ h => h, rfl, fun w h => ?_⟩; (try dsimp only at h); go_simp <;> with_reducible rfl)
    try simp only [Act.put, sI, sZ, sS]
    refine takeH 10 (oi := ?o10_2) (v := ?v10_2) ?h10_2 (by kernel_rfl) (by assumption) ?y10_2 ?_
    case h10_2 => (simp only [gA, gZ, gS]; rfl)
    case y10_2 => (refine ⟨fun _ _ _ h => h, rfl, fun w h => ?_⟩; (try dsimp only at h); go_simp <;> with_reducible rfl)
    try simp only [Act.put, sI, sZ, sS]
    refine takeH 11 (oi := ?o11_2) (v := ?v11_2) ?h11_2 (by kernel_rfl) (by assumption) ?y11_2 ?_
    case h11_2 => (simp only [gA, gZ, gS]; rfl)
    case y11_2 => (refine ⟨fun _ _ _ h => h, rfl, fun w h => ?_⟩; (try dsimp only at h); go_simp <;> with_reducible rfl)
    try simp only [Act.put, sI, sZ, sS]
    refine takeH 12 (oi := ?o12_2) (v := ?v12_2) ?h12_2 (by kernel_rfl) (by assumption) ?y12_2 ?_
    case h12_2 => (simp only [gA, gZ, gS]; rfl)
    case y12_2 => (refine ⟨fun _ _ _ h => h, rfl, fun w h => ?_⟩; (try dsimp only at h); go_simp <;> with_reducible rfl)
    try simp only [Act.put, sI, sZ, sS]
    refine takeH 13 (oi := ?o13_2) (v := ?v13_2) ?h13_2 (by kernel_rfl) (by assumption) ?y13_2 ?_
    case h13_2 => (simp only [gA, gZ, gS]; rfl)
    case y13_2 => (refine ⟨fun _ _ _ h => h, rfl, fun w h => ?_⟩; (try dsimp only at h); go_simp <;> with_reducible rfl)
    try simp only [Act.put, sI, sZ, sS]
    refine takeH 14 (oi := ?o14_2) (v := ?v14_2) ?h14_2 (by kernel_rfl) (by assumption) ?y14_2 ?_
    case h14_2 => (simp only [gA, gZ, gS]; rfl)
    case y14_2 => (refine ⟨fun _ _ _ h => h, rfl, fun w h => ?_⟩; (try dsimp only at h); go_simp <;> with_reducible rfl)
    try simp only [Act.put, sI, sZ, sS]
    refine takeH 15 (oi := ?o15_2) (v := ?v15_2) ?h15_2 (by kernel_rfl) (by assumption) ?y15_2 ?_
    case h15_2 => (simp only [gA, gZ, gS]; rfl)
    case y15_2 => (refine ⟨fun _ _ _ h => h, rfl, fun w h => ?_⟩; (try dsimp only at h); go_simp <;> with_reducible rfl)
    try simp only [Act.put, sI, sZ, sS]
    refine wpAnyH_done (by kernel_rfl) ?_ _
    show wpList _ _ _ _ _ _
    clear hHeld
    go_wp2_with fail
    refine (uh HTk).mono ?_
    rintro e W2 ⟨rfl, hW2⟩
    obtain rfl : W2 = wr.drew := hW2
    clear HTk
    go_wp2
    go_ret2
    exact uh HF _ (below_drew wr)
   ·have h150 : (es.length : Int) = 150 := by omega
    rw [h150] at c4
    clear h150 hlt hj0 hjl HM1 HI
    go_wp2
    go_quiet (fail)
    go_wp2
    go_ret2
    exact uh HF _ ⟨rfl, rfl, rfl, Nat.le_refl _, fun _ _ => rfl⟩
end Go.Proofs.YtfoojmflbifkpaaGreatDoor
