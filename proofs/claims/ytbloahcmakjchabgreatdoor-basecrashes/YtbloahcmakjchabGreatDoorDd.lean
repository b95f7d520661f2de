/- Texts of one proof, one behind the other. -/
import Derived.Test.YtbloahcmakjchabGreatDoorDc
import Derived.Test.YtbloahcmakjchabGreatDoorDb
import Derived.Test.YtbloahcmakjchabGreatDoorBm
import Derived.Test.YtbloahcmakjchabGreatDoorBn
import Derived.Lib.ItoaLen

/- A base in memory: its past, its disk; a write is taken: walked. -/
namespace Go.Proofs.YtbloahcmakjchabGreatDoor
open Go.RowKit Go.Maps

theorem PastX.beside {w : World} {P : Pl} {now known : Int} {mv : Option Nat} {X : List (Ky × Nat)} {Ln : Nat → List Ver × Int} {Fs : Nat → Nat → Prop} (h : PastX w P now known mv X Ln Fs) {i : Nat} (hi : i < P.o ∨ P.o + 3 ≤ i) {u : Value} (hc : w.cell? ⟨P.b, i, none⟩ = some u) (v : Value) :
    PastX (w.setCell ⟨P.b, i, none⟩ v) ⟨P.b, P.o, fun j => if j = i then some v else P.R j⟩ now known mv X Ln Fs := by
  have hk := keeps_set w P.b i v
  refine ⟨?_, ?_, ?_, fun j => ?_, h.map.keeps hk (fun m e => h.mP e), h.keys, h.blocks, fun x hx => (h.line x hx).keeps hk (fun i hi e => h.nP x hx (by rw [← e]; exact hi)), h.apart, h.nP, h.nm, fun j hj => ?_⟩
  · show (w.setCell ⟨P.b, i, none⟩ v).cell? ⟨P.b, P.o, none⟩ = _
    rw [World.cell?_setCell_other _ _ _ _ (fun e => by injection e with _ e; omega)]; exact h.c0
  · show (w.setCell ⟨P.b, i, none⟩ v).cell? ⟨P.b, P.o + 1, none⟩ = _
    rw [World.cell?_setCell_other _ _ _ _ (fun e => by injection e with _ e; omega)]; exact h.c1
  · show (w.setCell ⟨P.b, i, none⟩ v).cell? ⟨P.b, P.o + 2, none⟩ = _
    rw [World.cell?_setCell_other _ _ _ _ (fun e => by injection e with _ e; omega)]; exact h.c2
  · rw [World.frozen?_setCell]; exact h.f j
  · show (w.setCell ⟨P.b, i, none⟩ v).cell? ⟨P.b, j, none⟩ = if j = i then some v else P.R j
    by_cases e : j = i
    · subst e
      rw [if_pos rfl]
      exact World.cell?_setCell_same _ _ _ hc
    · rw [if_neg e, World.cell?_setCell_other _ _ _ _ (fun q => by injection q with _ q; omega)]
      exact h.rest j hj

theorem PastW.rest {w : World} {P : Pl} {now known bd : Int} {S : Ky → Int → Int → ByteArray} {F : Nat → Prop} (h : PastW w P now known bd S F) : (∀ i, i < P.o ∨ P.o + 3 ≤ i → w.cell? ⟨P.b, i, none⟩ = P.R i) ∧ (∀ i, w.frozen? ⟨P.b, i, none⟩ = false) ∧ F P.b := by
  obtain ⟨mv, X, Ln, Fs, h1, _, _, rfl⟩ := h
  exact ⟨h1.rest, h1.f, .inl rfl⟩
theorem PastW.cells {w : World} {P : Pl} {now known bd : Int} {S : Ky → Int → Int → ByteArray} {F : Nat → Prop} (h : PastW w P now known bd S F) : w.cell? ⟨P.b, P.o, none⟩ = some (.int .i64 now) ∧ w.cell? ⟨P.b, P.o + 1, none⟩ = some (.int .i64 known) := by
  obtain ⟨_, _, _, _, p, _⟩ := h
  exact ⟨p.c0, p.c1⟩

def restB (D : Nat) (used : Int) (down : Bool) : Nat → Option Value := fun i => if i = 0 then some (.pointer (some ⟨D, 0, none⟩)) else if i = 4 then some (.int .i64 used) else if i = 5 then some (.bool down) else none
abbrev plB (B D : Nat) (used : Int) (down : Bool) : Pl := ⟨B, 1, restB D used down⟩

def BaseW (w : World) (B D : Nat) (used : Int) (down : Bool) (txs : List (List Fop)) (known : Int) (F : Nat → Prop) : Prop := PastT w (plB B D used down) txs known F

theorem BaseW.cells {w : World} {B D : Nat} {used : Int} {down : Bool} {txs : List (List Fop)} {known : Int} {F : Nat → Prop} (h : BaseW w B D used down txs known F) :
    w.cell? ⟨B, 0, none⟩ = some (.pointer (some ⟨D, 0, none⟩)) ∧ w.cell? ⟨B, 4, none⟩ = some (.int .i64 used) ∧ w.cell? ⟨B, 5, none⟩ = some (.bool down) ∧ (∀ i, w.frozen? ⟨B, i, none⟩ = false) ∧ F B ∧ w.cell? ⟨B, 1, none⟩ = some (.int .i64 txs.length) ∧ w.cell? ⟨B, 2, none⟩ = some (.int .i64 known) := by
  obtain ⟨h1, h2, h3⟩ := PastW.rest h
  obtain ⟨c0, c1⟩ := PastW.cells h
  exact ⟨h1 0 (.inl (Nat.zero_lt_one)), h1 4 (.inr (Nat.le_refl 4)), h1 5 (.inr (Nat.le_succ 4)), h2, h3, c0, c1⟩
theorem BaseW.below {w w' : World} {B D : Nat} {used : Int} {down : Bool} {txs : List (List Fop)} {known : Int} {F : Nat → Prop} (h : BaseW w B D used down txs known F) (hb : Below w.heap.size w w') : BaseW w' B D used down txs known F := PastT.below h hb
theorem BaseW.keeps {w w' : World} {B D : Nat} {used : Int} {down : Bool} {txs : List (List Fop)} {known : Int} {F H : Nat → Prop} (h : BaseW w B D used down txs known F) (hk : Keeps H w w') (hH : ∀ i, F i → ¬ H i) : BaseW w' B D used down txs known F := PastT.keeps h hk hH
theorem BaseW.lt {w : World} {B D : Nat} {used : Int} {down : Bool} {txs : List (List Fop)} {known : Int} {F : Nat → Prop} (h : BaseW w B D used down txs known F) : ∀ i, F i → i < w.heap.size := PastW.lt h

theorem restB_used (D : Nat) (used n : Int) (down : Bool) : (fun j => if j = 4 then some (Value.int .i64 n) else restB D used down j) = restB D n down := by
  funext j
  unfold restB
  by_cases e : j = 4
  · subst e; simp
  · simp [e]
theorem restB_down (D : Nat) (used : Int) (down d : Bool) : (fun j => if j = 5 then some (Value.bool d) else restB D used down j) = restB D used d := by
  funext j
  unfold restB
  by_cases e : j = 5
  · subst e; simp
  · simp [e]

theorem BaseW.setUsed {w : World} {B D : Nat} {used : Int} {down : Bool} {txs : List (List Fop)} {known : Int} {F : Nat → Prop} (h : BaseW w B D used down txs known F) (n : Int) : BaseW (w.setCell ⟨B, 4, none⟩ (.int .i64 n)) B D n down txs known F := by
  have hc := h.cells.2.1
  obtain ⟨mv, X, Ln, Fs, h1, h2, h3, h4⟩ := h
  have := h1.beside (i := 4) (.inr (Nat.le_refl 4)) hc (.int .i64 n)
  refine ⟨mv, X, Ln, Fs, ?_, h2, h3, h4⟩
  unfold plB
  rw [← restB_used D used n down]
  exact this
theorem BaseW.setDown {w : World} {B D : Nat} {used : Int} {down : Bool} {txs : List (List Fop)} {known : Int} {F : Nat → Prop} (h : BaseW w B D used down txs known F) (d : Bool) : BaseW (w.setCell ⟨B, 5, none⟩ (.bool d)) B D used d txs known F := by
  have hc := h.cells.2.2.1
  obtain ⟨mv, X, Ln, Fs, h1, h2, h3, h4⟩ := h
  have := h1.beside (i := 5) (.inr (Nat.le_succ 4)) hc (.bool d)
  refine ⟨mv, X, Ln, Fs, ?_, h2, h3, h4⟩
  unfold plB
  rw [← restB_down D used down d]
  exact this

/-- What a taken write leaves. -/
def Took (w : World) (B D : Nat) (used : Int) (down : Bool) (st : List (List Fop) × Int) (F : Nat → Prop) (w' : World) : Prop := ∃ F', BaseW w' B D used down st.1 st.2 F' ∧ Grew w F F' w'

set_option maxRecDepth 100000 in
set_option maxHeartbeats 2000000 in
theorem take_commit {w : World} {B D : Nat} {used : Int} {down : Bool} {txs : List (List Fop)} {known : Int} {F : Nat → Prop} (h : BaseW w B D used down txs known F) (l : List Fop) (hl : okL l) (h1 : txs.length < 150) (hk : known ≤ txs.length) (ht : Tab w) (hb : Libs w) :
    Calls Tryz.prog 56 #[.pointer (some ⟨B, 0, none⟩), .string ⟨(opsL l ++ [10]).toArray⟩] w fun e w' => e = .returned (.bool true) ∧ Took w B D used down (txs ++ [l], known) F w' := by
  have hlen : (opsL l).length ≤ l.length * 155 := wrs_length_le l hl.2.2
  have hl8 := hl.2.1
  have HC := hide (cut_suffix_yes (opsL l) w (by omega))
  obtain ⟨c, r, hcr, hc⟩ := ops_head l hl
  have hrl : r.length < 100000 := by
    have := congrArg List.length hcr
    simp at this
    omega
  have HP := hide (cut_prefix_no c r w hrl hc)
  rw [← hcr] at HP
  have HR := hide (fact_Read ⟨(opsL l).toArray⟩ w (by rw [bytes_len]; omega) hb ht)
  have HH := hide h
  have HT := hide ht
  have HL := hide hl
  clear hb ht hl hc hcr hrl hlen hl8 h
  generalize hst : (⟨(opsL l ++ [10]).toArray⟩ : ByteArray) = st at HC ⊢
  clear hst
  go_enter Tryz.func56, Tryz.ntmps56
  go_wp2_with fail
  refine (unhide HC).mono ?_
  rintro e W1 ⟨rfl, hW1⟩
  obtain rfl : w = W1 := hW1.symm
  clear hW1 HC
  go_wp2_with fail
  refine (unhide HP).mono ?_
  rintro e W1 ⟨rfl, hW1⟩
  obtain rfl : w = W1 := hW1.symm
  clear hW1 HP
  go_wp2_with fail
  refine (unhide HR).mono ?_
  rintro e W2 ⟨hR, b2⟩
  rcases hR with ⟨q, v, hq, hqe, rfl, hv⟩ | ⟨hno, _⟩
  · obtain rfl : l = q := wrs_inj l q (unhide HL) hq (by simpa using hqe)
    have hne : l ≠ [] := fun e => by
      have := hq.1
      rw [e] at this
      simp at this
    obtain ⟨g, cap, rfl, hO, hg⟩ := RowO.at (show RowO W2 w.heap.size v l from hv) hne
    have HB := hide b2
    have hgF : ¬ F g := fun q => by
      have := (unhide HH).lt g q
      omega
    have HCm := hide (commit_txs ((unhide HH).below b2) l g 0 cap hq hO hgF ((unhide HT).carry b2) h1 hk)
    clear hv hO hg hgF hqe HR b2
    go_wp2_with fail
    refine (unhide HCm).mono ?_
    rintro e W3 ⟨rfl, F', p3, g3⟩
    have HF : Hid (Took w B D used down (txs ++ [l], known) F W3) := ⟨F', p3, Grew.below (unhide HB) g3⟩
    clear p3 g3 HCm HH HB
    go_wp2
    go_ret
    exact ⟨rfl, unhide HF⟩
  · exact absurd rfl (hno l (unhide HL))

theorem itoa_short (n : Int) (h0 : -9223372036854775808 ≤ n) (h1 : n ≤ 9223372036854775807) : (Lib.itoa n).length ≤ 21 := Lib.itoa_length_le n h0 h1

set_option maxRecDepth 100000 in
set_option maxHeartbeats 2000000 in
theorem take_forget {w : World} {B D : Nat} {used : Int} {down : Bool} {txs : List (List Fop)} {known : Int} {F : Nat → Prop} (h : BaseW w B D used down txs known F) (n : Int) (h0 : 0 ≤ n) (hk : known ≤ n) (hn : n ≤ txs.length) (h1 : txs.length ≤ 150) :
    Calls Tryz.prog 56 #[.pointer (some ⟨B, 0, none⟩), .string ⟨(forgetL ++ Lib.itoa n ++ [10]).toArray⟩] w fun e w' => e = .returned (.bool true) ∧ Took w B D used down (txs, n) F w' := by
  have hlen := itoa_short n (by omega) (by omega)
  have hfl : forgetL.length = 7 := rfl
  have HC := hide (cut_suffix_yes (forgetL ++ Lib.itoa n) w (by rw [List.length_append]; omega))
  have HP := hide (cut_prefix_yes (Lib.itoa n) w (by omega))
  have HA := hide (atoi_ok ⟨(Lib.itoa n).toArray⟩ n w (by rw [bytes_len]; omega) (atoi_itoa n (by omega) (by omega)))
  have HF := hide (fun W (hb : Below w.heap.size w W) => forget_ok (h.below hb) n h0 hk hn (by omega))
  clear h hlen
  generalize hst : (⟨(forgetL ++ Lib.itoa n ++ [10]).toArray⟩ : ByteArray) = st at HC ⊢
  clear hst
  go_enter Tryz.func56, Tryz.ntmps56
  go_wp2_with fail
  refine (unhide HC).mono ?_
  rintro e W1 ⟨rfl, hW1⟩
  obtain rfl : w = W1 := hW1.symm
  clear hW1 HC
  go_wp2_with fail
  refine (unhide HP).mono ?_
  rintro e W1 ⟨rfl, hW1⟩
  obtain rfl : w = W1 := hW1.symm
  clear hW1 HP
  go_wp2_with fail
  refine (unhide HA).mono ?_
  rintro e W2 ⟨rfl, b2⟩
  have HB := hide b2
  have HF2 := hide (unhide HF W2 b2)
  clear b2 HA HF
  go_wp2_with fail
  refine (unhide HF2).mono ?_
  rintro e W3 ⟨rfl, F', p3, g3⟩
  have HT : Hid (Took w B D used down (txs, n) F W3) := ⟨F', p3, Grew.below (unhide HB) g3⟩
  clear p3 g3 HF2 HB
  go_wp2
  go_ret
  exact ⟨rfl, unhide HT⟩

set_option maxHeartbeats 1000000 in
theorem take_none {w : World} {B : Nat} (s : ByteArray) (hs : s.size < 50000) (hn : (10 : UInt8) ∉ s.data.toList) :
    Calls Tryz.prog 56 #[.pointer (some ⟨B, 0, none⟩), .string s] w fun e w' => e = .returned (.bool false) ∧ w' = w := by
  have HC := hide (cut_suffix_no s w (by omega) hn)
  clear hs hn
  go_enter Tryz.func56, Tryz.ntmps56
  go_wp2_with fail
  refine (unhide HC).mono ?_
  rintro e W1 ⟨rfl, hW1⟩
  obtain rfl : w = W1 := hW1.symm
  clear hW1 HC
  go_wp2
  go_ret
  exact ⟨rfl, rfl⟩

end Go.Proofs.YtbloahcmakjchabGreatDoor

/- A disk is opened: walked. -/
namespace Go.Proofs.YtbloahcmakjchabGreatDoor
open Go.RowKit Go.Maps

theorem base_new (w : World) (D : Nat) : BaseW (w.alloc (.cells #[.pointer (some ⟨D, 0, none⟩), .int .i64 0, .int .i64 0, .map none, .int .i64 0, .bool false] 134)) w.heap.size D 0 false [] 0 (pastF (plB w.heap.size D 0 false) none [] (fun _ _ => False)) := by
  refine ⟨none, [], fun _ => ([], 0), fun _ _ => False, ⟨by simp, by simp, by simp, fun i => by simp, .inl ⟨rfl, rfl⟩, List.Pairwise.nil, List.Pairwise.nil, by simp, by simp, by simp, by simp, fun i hi => ?_⟩, ⟨by simp, by simp, by simp, fun _ _ _ _ _ _ => ?_⟩, by simp, rfl⟩
  · have hi' : i < 1 ∨ 1 + 3 ≤ i := hi
    show (w.alloc (.cells #[.pointer (some ⟨D, 0, none⟩), .int .i64 0, .int .i64 0, .map none, .int .i64 0, .bool false] 134)).cell? ⟨w.heap.size, i, none⟩ = restB D 0 false i
    unfold World.cell? restB
    rw [heap_alloc_new]
    rcases Nat.lt_or_ge i 6 with q | q
    · have : i = 0 ∨ i = 4 ∨ i = 5 := by omega
      rcases this with rfl | rfl | rfl <;> rfl
    · have h0 : i ≠ 0 := by omega
      have h4 : i ≠ 4 := by omega
      have h5 : i ≠ 5 := by omega
      simp [h0, h4, h5, q]
  · unfold refI refS
    simp
    rfl

/-- What holds while places are read. -/
structure OpI (w : World) (B D : Nat) (ps : Nat → ByteArray) (cut : Bool) (left : Int) (es : List (List Fop ⊕ Int)) (j : Nat) (F : Nat → Prop) (W : World) : Prop where
  base : BaseW W B D j false (stE (es.take j)).1 (stE (es.take j)).2 F
  own : ∀ i, F i → w.heap.size ≤ i
  low : Below w.heap.size w W
  disk : DiskW W D ps cut left

/-- What Open gives. -/
def Opened (w : World) (D : Nat) (es : List (List Fop ⊕ Int)) (e : Ending) (w' : World) : Prop :=
  ∃ B F, e = .returned (.tuple #[.pointer (some ⟨B, 0, none⟩), .nilIface]) ∧ BaseW w' B D es.length false (stE es).1 (stE es).2 F ∧ (∀ i, F i → w.heap.size ≤ i) ∧ Below w.heap.size w w'

/-- The next place is taken. -/
theorem took_of {w : World} {B D : Nat} {ps : Nat → ByteArray} {cut : Bool} {left : Int} {es : List (List Fop ⊕ Int)} {j : Nat} {F : Nat → Prop} {W : World} (hI : OpI w B D ps cut left es j F W) (hH : Holds ps es) (hj : j < es.length) (he : es.length ≤ 150) (ht : Tab W) (hb : Libs W) :
    Calls Tryz.prog 56 #[.pointer (some ⟨B, 0, none⟩), .string (ps j)] W.drew fun e w' => e = .returned (.bool true) ∧ Took W B D j false (stE (es.take (j + 1))) F w' := by
  have hbd := below_drew W
  have hs := bytes_is (hH.there j hj)
  have hg := good_take hH.good j
  obtain ⟨b1, b2, b3⟩ := stE_bounds hg
  rw [List.length_take] at b1
  have hok := hH.good j hj
  have e1 : stE (es.take (j + 1)) = stepE (stE (es.take j)) es[j] := by rw [List.take_succ_eq_append_getElem hj, stE_snoc]
  rw [hs, e1]
  have hB := hI.base.below hbd
  have ht2 := ht.carry hbd
  have hb2 := hb.carry hbd
  rcases hx : es[j] with l | n
  · rw [hx] at hok
    refine (take_commit hB l hok (by omega) b3 ht2 hb2).mono ?_
    rintro e w' ⟨rfl, F', p, g⟩
    exact ⟨rfl, F', p, Grew.below hbd g⟩
  · rw [hx] at hok
    obtain ⟨q1, q2⟩ := (hok : (stE (es.take j)).2 ≤ n ∧ n ≤ (stE (es.take j)).1.length)
    refine (take_forget hB n (by omega) q1 q2 (by omega)).mono ?_
    rintro e w' ⟨rfl, F', p, g⟩
    exact ⟨rfl, F', p, Grew.below hbd g⟩

set_option maxRecDepth 100000 in
set_option maxHeartbeats 4000000 in
theorem base_Open {w : World} {D : Nat} {ps : Nat → ByteArray} {cut : Bool} {left : Int} {es : List (List Fop ⊕ Int)} (h : DiskW w D ps cut left) (hH : Holds ps es) (he : es.length ≤ 150) (ht : Tab w) (hb : Libs w) :
    Calls Tryz.prog 22 #[.pointer (some ⟨D, 0, none⟩)] w (Opened w D es) := by
  have HN := hide (base_new w D)
  have HB0 := hide (below_box w (.cells #[.pointer (some ⟨D, 0, none⟩), .int .i64 0, .int .i64 0, .map none, .int .i64 0, .bool false] 134))
  have HD0 := hide (h.below (unhide HB0))
  have HH := hide hH
  have HT := hide ht
  have HL := hide hb
  have HDw := hide h
  clear h hH ht hb
  go_enter Tryz.func22, Tryz.ntmps22
  go_wp2
  generalize w.alloc (.cells #[.pointer (some ⟨D, 0, none⟩), .int .i64 0, .int .i64 0, .map none, .int .i64 0, .bool false] 134) = W0 at *
  go_loopw [] (fun y => ∃ (j : Nat) (F : Nat → Prop), j ≤ es.length ∧ OpI w w.heap.size D ps cut left es j F y) (fun y => es.length - (intOf ((y.cell? ⟨w.heap.size, 4, none⟩).getD undef)).toNat)
  case atStart =>
    refine ⟨0, _, Nat.zero_le _, unhide HN, ?_, unhide HB0, unhide HD0⟩
    rintro i (rfl | q | ⟨x, hx, _⟩)
    · exact Nat.le_refl _
    · cases q
    · cases hx
  case round =>
    obtain ⟨j, F, hj, hI⟩ := hrel
    have HI := hide hI
    obtain ⟨c0, c4, c5, f, fB, c1, c2⟩ := hI.base.cells
    have f4 := f 4
    have HM1 := hide c4
    clear hI f
    by_cases hjl : j < es.length
    · have hlt : j < 150 := by omega
      have hlt' : (j : Int) < 150 := by omega
      have hj0 : (0 : Int) ≤ (j : Int) := by omega
      have hp := (unhide HI).disk.p j hlt
      have HTk := hide (took_of (unhide HI) (unhide HH) hjl he ((unhide HT).carry (unhide HI).low) ((unhide HL).carry (unhide HI).low))
      generalize ps j = sj at hp HTk
      go_wp2
      refine wp_region_tail (fun y => y = wr.drew) 16 (by kernel_rfl) (by kernel_rfl) rfl (fun hHeld => ?_)
      refine wpAnyH_take (i := 0) (oi := ?to0_1) (v := ?tv0_1) ?th0_1 (by kernel_rfl) (by kernel_rfl) (by kernel_rfl) ?tq0_1 (Or.inl ⟨?tw0_1, ?ty0_1⟩) (by assumption) ?tr0_1
      case th0_1 => (simp only [List.getElem?_toArray, List.getElem?_cons_zero]; rfl)
      case tq0_1 => exact fun _ _ _ h => h
      case tw0_1 => rfl
      case ty0_1 => (intro w' hSw; (try dsimp only at hSw); go_simp <;> with_reducible rfl)
      try simp only [Act.put, List.setIfInBounds_toArray, List.set_cons_zero, List.set_cons_succ]
      refine wpAnyH_take (i := 1) (oi := ?to1_1) (v := ?tv1_1) ?th1_1 (by kernel_rfl) (by kernel_rfl) (by kernel_rfl) ?tq1_1 (Or.inl ⟨?tw1_1, ?ty1_1⟩) (by assumption) ?tr1_1
      case th1_1 => (simp only [List.getElem?_toArray, List.getElem?_cons_zero, List.getElem?_cons_succ]; rfl)
      case tq1_1 => exact fun _ _ _ h => h
      case tw1_1 => rfl
      case ty1_1 => (intro w' hSw; (try dsimp only at hSw); go_simp <;> with_reducible rfl)
      try simp only [Act.put, List.setIfInBounds_toArray, List.set_cons_zero, List.set_cons_succ]
      refine wpAnyH_take (i := 2) (oi := ?to2_1) (v := ?tv2_1) ?th2_1 (by kernel_rfl) (by kernel_rfl) (by kernel_rfl) ?tq2_1 (Or.inl ⟨?tw2_1, ?ty2_1⟩) (by assumption) ?tr2_1
      case th2_1 => (simp only [List.getElem?_toArray, List.getElem?_cons_zero, List.getElem?_cons_succ]; rfl)
      case tq2_1 => exact fun _ _ _ h => h
      case tw2_1 => rfl
      case ty2_1 => (intro w' hSw; (try dsimp only at hSw); go_simp <;> with_reducible rfl)
      try simp only [Act.put, List.setIfInBounds_toArray, List.set_cons_zero, List.set_cons_succ]
      refine wpAnyH_take (i := 3) (oi := ?to3_1) (v := ?tv3_1) ?th3_1 (by kernel_rfl) (by kernel_rfl) (by kernel_rfl) ?tq3_1 (Or.inl ⟨?tw3_1, ?ty3_1⟩) (by assumption) ?tr3_1
      case th3_1 => (simp only [List.getElem?_toArray, List.getElem?_cons_zero, List.getElem?_cons_succ]; rfl)
      case tq3_1 => exact fun _ _ _ h => h
      case tw3_1 => rfl
      case ty3_1 => (intro w' hSw; (try dsimp only at hSw); go_simp <;> with_reducible rfl)
      try simp only [Act.put, List.setIfInBounds_toArray, List.set_cons_zero, List.set_cons_succ]
      refine wpAnyH_take (i := 4) (oi := ?to4_1) (v := ?tv4_1) ?th4_1 (by kernel_rfl) (by kernel_rfl) (by kernel_rfl) ?tq4_1 (Or.inl ⟨?tw4_1, ?ty4_1⟩) (by assumption) ?tr4_1
      case th4_1 => (simp only [List.getElem?_toArray, List.getElem?_cons_zero, List.getElem?_cons_succ]; rfl)
      case tq4_1 => exact fun _ _ _ h => h
      case tw4_1 => rfl
      case ty4_1 => (intro w' hSw; (try dsimp only at hSw); go_simp <;> with_reducible rfl)
      try simp only [Act.put, List.setIfInBounds_toArray, List.set_cons_zero, List.set_cons_succ]
      refine wpAnyH_take (i := 5) (oi := ?to5_1) (v := ?tv5_1) ?th5_1 (by kernel_rfl) (by kernel_rfl) (by kernel_rfl) ?tq5_1 (Or.inl ⟨?tw5_1, ?ty5_1⟩) (by assumption) ?tr5_1
      case th5_1 => (simp only [List.getElem?_toArray, List.getElem?_cons_zero, List.getElem?_cons_succ]; rfl)
      case tq5_1 => exact fun _ _ _ h => h
      case tw5_1 => rfl
      case ty5_1 => (intro w' hSw; (try dsimp only at hSw); go_simp <;> with_reducible rfl)
      try simp only [Act.put, List.setIfInBounds_toArray, List.set_cons_zero, List.set_cons_succ]
      refine wpAnyH_take (i := 6) (oi := ?to6_1) (v := ?tv6_1) ?th6_1 (by kernel_rfl) (by kernel_rfl) (by kernel_rfl) ?tq6_1 (Or.inl ⟨?tw6_1, ?ty6_1⟩) (by assumption) ?tr6_1
      case th6_1 => (simp only [List.getElem?_toArray, List.getElem?_cons_zero, List.getElem?_cons_succ]; rfl)
      case tq6_1 => exact fun _ _ _ h => h
      case tw6_1 => rfl
      case ty6_1 => (intro w' hSw; (try dsimp only at hSw); go_simp <;> with_reducible rfl)
      try simp only [Act.put, List.setIfInBounds_toArray, List.set_cons_zero, List.set_cons_succ]
      refine wpAnyH_take (i := 7) (oi := ?to7_1) (v := ?tv7_1) ?th7_1 (by kernel_rfl) (by kernel_rfl) (by kernel_rfl) ?tq7_1 (Or.inl ⟨?tw7_1, ?ty7_1⟩) (by assumption) ?tr7_1
      case th7_1 => (simp only [List.getElem?_toArray, List.getElem?_cons_zero, List.getElem?_cons_succ]; rfl)
      case tq7_1 => exact fun _ _ _ h => h
      case tw7_1 => rfl
      case ty7_1 => (intro w' hSw; (try dsimp only at hSw); go_simp <;> with_reducible rfl)
      try simp only [Act.put, List.setIfInBounds_toArray, List.set_cons_zero, List.set_cons_succ]
      refine wpAnyH_take (i := 8) (oi := ?to8_1) (v := ?tv8_1) ?th8_1 (by kernel_rfl) (by kernel_rfl) (by kernel_rfl) ?tq8_1 (Or.inl ⟨?tw8_1, ?ty8_1⟩) (by assumption) ?tr8_1
      case th8_1 => (simp only [List.getElem?_toArray, List.getElem?_cons_zero, List.getElem?_cons_succ]; rfl)
      case tq8_1 => exact fun _ _ _ h => h
      case tw8_1 => rfl
      case ty8_1 => (intro w' hSw; (try dsimp only at hSw); go_simp <;> with_reducible rfl)
      try simp only [Act.put, List.setIfInBounds_toArray, List.set_cons_zero, List.set_cons_succ]
      refine wpAnyH_take (i := 9) (oi := ?to9_1) (v := ?tv9_1) ?th9_1 (by kernel_rfl) (by kernel_rfl) (by kernel_rfl) ?tq9_1 (Or.inl ⟨?tw9_1, ?ty9_1⟩) (by assumption) ?tr9_1
      case th9_1 => (simp only [List.getElem?_toArray, List.getElem?_cons_zero, List.getElem?_cons_succ]; rfl)
      case tq9_1 => exact fun _ _ _ h => h
      case tw9_1 => rfl
      case ty9_1 => (intro w' hSw; (try dsimp only at hSw); go_simp <;> with_reducible rfl)
      try simp only [Act.put, List.setIfInBounds_toArray, List.set_cons_zero, List.set_cons_succ]
      refine wpAnyH_take (i := 10) (oi := ?to10_1) (v := ?tv10_1) ?th10_1 (by kernel_rfl) (by kernel_rfl) (by kernel_rfl) ?tq10_1 (Or.inl ⟨?tw10_1, ?ty10_1⟩) (by assumption) ?tr10_1
      case th10_1 => (simp only [List.getElem?_toArray, List.getElem?_cons_zero, List.getElem?_cons_succ]; rfl)
      case tq10_1 => exact fun _ _ _ h => h
      case tw10_1 => rfl
      case ty10_1 => (intro w' hSw; (try dsimp only at hSw); go_simp <;> with_reducible rfl)
      try simp only [Act.put, List.setIfInBounds_toArray, List.set_cons_zero, List.set_cons_succ]
      refine wpAnyH_take (i := 11) (oi := ?to11_1) (v := ?tv11_1) ?th11_1 (by kernel_rfl) (by kernel_rfl) (by kernel_rfl) ?tq11_1 (Or.inl ⟨?tw11_1, ?ty11_1⟩) (by assumption) ?tr11_1
      case th11_1 => (simp only [List.getElem?_toArray, List.getElem?_cons_zero, List.getElem?_cons_succ]; rfl)
      case tq11_1 => exact fun _ _ _ h => h
      case tw11_1 => rfl
      case ty11_1 => (intro w' hSw; (try dsimp only at hSw); go_simp <;> with_reducible rfl)
      try simp only [Act.put, List.setIfInBounds_toArray, List.set_cons_zero, List.set_cons_succ]
      refine wpAnyH_take (i := 12) (oi := ?to12_1) (v := ?tv12_1) ?th12_1 (by kernel_rfl) (by kernel_rfl) (by kernel_rfl) ?tq12_1 (Or.inl ⟨?tw12_1, ?ty12_1⟩) (by assumption) ?tr12_1
      case th12_1 => (simp only [List.getElem?_toArray, List.getElem?_cons_zero, List.getElem?_cons_succ]; rfl)
      case tq12_1 => exact fun _ _ _ h => h
      case tw12_1 => rfl
      case ty12_1 => (intro w' hSw; (try dsimp only at hSw); go_simp <;> with_reducible rfl)
      try simp only [Act.put, List.setIfInBounds_toArray, List.set_cons_zero, List.set_cons_succ]
      refine wpAnyH_take (i := 13) (oi := ?to13_1) (v := ?tv13_1) ?th13_1 (by kernel_rfl) (by kernel_rfl) (by kernel_rfl) ?tq13_1 (Or.inl ⟨?tw13_1, ?ty13_1⟩) (by assumption) ?tr13_1
      case th13_1 => (simp only [List.getElem?_toArray, List.getElem?_cons_zero, List.getElem?_cons_succ]; rfl)
      case tq13_1 => exact fun _ _ _ h => h
      case tw13_1 => rfl
      case ty13_1 => (intro w' hSw; (try dsimp only at hSw); go_simp <;> with_reducible rfl)
      try simp only [Act.put, List.setIfInBounds_toArray, List.set_cons_zero, List.set_cons_succ]
      refine wpAnyH_take (i := 14) (oi := ?to14_1) (v := ?tv14_1) ?th14_1 (by kernel_rfl) (by kernel_rfl) (by kernel_rfl) ?tq14_1 (Or.inl ⟨?tw14_1, ?ty14_1⟩) (by assumption) ?tr14_1
      case th14_1 => (simp only [List.getElem?_toArray, List.getElem?_cons_zero, List.getElem?_cons_succ]; rfl)
      case tq14_1 => exact fun _ _ _ h => h
      case tw14_1 => rfl
      case ty14_1 => (intro w' hSw; (try dsimp only at hSw); go_simp <;> with_reducible rfl)
      try simp only [Act.put, List.setIfInBounds_toArray, List.set_cons_zero, List.set_cons_succ]
      refine wpAnyH_take (i := 15) (oi := ?to15_1) (v := ?tv15_1) ?th15_1 (by kernel_rfl) (by kernel_rfl) (by kernel_rfl) ?tq15_1 (Or.inl ⟨?tw15_1, ?ty15_1⟩) (by assumption) ?tr15_1
      case th15_1 => (simp only [List.getElem?_toArray, List.getElem?_cons_zero, List.getElem?_cons_succ]; rfl)
      case tq15_1 => exact fun _ _ _ h => h
      case tw15_1 => rfl
      case ty15_1 => (intro w' hSw; (try dsimp only at hSw); go_simp <;> with_reducible rfl)
      try simp only [Act.put, List.setIfInBounds_toArray, List.set_cons_zero, List.set_cons_succ]
      refine wpAnyH_done (by kernel_rfl) ?_ _
      show wpList _ _ _ _ _ _
      clear hHeld
      go_wp2_with fail
      refine (unhide HTk).mono ?_
      rintro e W2 ⟨rfl, F2, p2, g2⟩
      have hlow : Below w.heap.size w W2 := (unhide HI).low.trans (keeps_below g2.2 (unhide HI).own (unhide HI).low.size)
      have hown : ∀ i, F2 i → w.heap.size ≤ i := fun i hi => by
        rcases g2.1 i hi with q | q
        · exact (unhide HI).own i q
        · exact Nat.le_trans (unhide HI).low.size q
      have hDn : ¬ F D := fun q => Nat.lt_irrefl D (Nat.lt_of_lt_of_le (unhide HDw).lt ((unhide HI).own D q))
      have hD2 := (unhide HI).disk.keeps g2.2 hDn
      obtain ⟨_, d4, _, ff, _, _, _⟩ := BaseW.cells p2
      have f4' := ff 4
      have hks := keeps_set W2 w.heap.size 4 (.int .i64 ((j : Int) + 1))
      have HN2 : Hid (OpI w w.heap.size D ps cut left es (j + 1) F2 (W2.setCell ⟨w.heap.size, 4, none⟩ (.int .i64 ((j : Int) + 1)))) :=
        ⟨BaseW.setUsed p2 _, hown, hlow.trans (keeps_below hks (fun i e => Nat.le_of_eq e.symm) hlow.size), hD2.keeps hks (fun e => Nat.ne_of_lt (unhide HDw).lt e)⟩
      have HM2 : Hid ((W2.setCell ⟨w.heap.size, 4, none⟩ (.int .i64 ((j : Int) + 1))).cell? ⟨w.heap.size, 4, none⟩ = some (.int .i64 ((j : Int) + 1))) := World.cell?_setCell_same _ _ _ d4
      clear p2 g2 hlow hown hDn hD2 hks ff HTk HI c0 c4 c5 fB c1 c2 f4
      go_wp2
      go_roundw
      case rel => exact ⟨j + 1, F2, by omega, unhide HN2⟩
      case measure =>
        rw [unhide HM1, unhide HM2]
        simp [intOf]
        omega
    · obtain rfl : j = es.length := by omega
      have HF : Hid (∀ W, Below wr.heap.size wr W → Opened w D es (.returned (.tuple #[.pointer (some ⟨w.heap.size, 0, none⟩), .nilIface])) W) := fun W hW => by
        have := (unhide HI).base
        rw [List.take_length] at this
        exact ⟨w.heap.size, F, rfl, this.below hW, (unhide HI).own, (unhide HI).low.trans (hW.mono (unhide HI).low.size)⟩
      have hj0 : (0 : Int) ≤ (es.length : Int) := by omega
      by_cases hlt : es.length < 150
      · have hlt' : (es.length : Int) < 150 := by omega
        have hp := (unhide HI).disk.p es.length hlt
        have HTk := hide (take_none (w := wr.drew) (B := w.heap.size) (ps es.length) ((unhide HI).disk.sz _) ((unhide HH).none es.length (Nat.le_refl _)))
        generalize ps es.length = sj at hp HTk
        go_wp2
        refine wp_region_tail (fun y => y = wr.drew) 16 (by kernel_rfl) (by kernel_rfl) rfl (fun hHeld => ?_)
        refine wpAnyH_take (i := 0) (oi := ?to0_2) (v := ?tv0_2) ?th0_2 (by kernel_rfl) (by kernel_rfl) (by kernel_rfl) ?tq0_2 (Or.inl ⟨?tw0_2, ?ty0_2⟩) (by assumption) ?tr0_2
        case th0_2 => (simp only [List.getElem?_toArray, List.getElem?_cons_zero]; rfl)
        case tq0_2 => exact fun _ _ _ h => h
        case tw0_2 => rfl
        case ty0_2 => (intro w' hSw; (try dsimp only at hSw); go_simp <;> with_reducible rfl)
        try simp only [Act.put, List.setIfInBounds_toArray, List.set_cons_zero, List.set_cons_succ]
        refine wpAnyH_take (i := 1) (oi := ?to1_2) (v := ?tv1_2) ?th1_2 (by kernel_rfl) (by kernel_rfl) (by kernel_rfl) ?tq1_2 (Or.inl ⟨?tw1_2, ?ty1_2⟩) (by assumption) ?tr1_2
        case th1_2 => (simp only [List.getElem?_toArray, List.getElem?_cons_zero, List.getElem?_cons_succ]; rfl)
        case tq1_2 => exact fun _ _ _ h => h
        case tw1_2 => rfl
        case ty1_2 => (intro w' hSw; (try dsimp only at hSw); go_simp <;> with_reducible rfl)
        try simp only [Act.put, List.setIfInBounds_toArray, List.set_cons_zero, List.set_cons_succ]
        refine wpAnyH_take (i := 2) (oi := ?to2_2) (v := ?tv2_2) ?th2_2 (by kernel_rfl) (by kernel_rfl) (by kernel_rfl) ?tq2_2 (Or.inl ⟨?tw2_2, ?ty2_2⟩) (by assumption) ?tr2_2
        case th2_2 => (simp only [List.getElem?_toArray, List.getElem?_cons_zero, List.getElem?_cons_succ]; rfl)
        case tq2_2 => exact fun _ _ _ h => h
        case tw2_2 => rfl
        case ty2_2 => (intro w' hSw; (try dsimp only at hSw); go_simp <;> with_reducible rfl)
        try simp only [Act.put, List.setIfInBounds_toArray, List.set_cons_zero, List.set_cons_succ]
        refine wpAnyH_take (i := 3) (oi := ?to3_2) (v := ?tv3_2) ?th3_2 (by kernel_rfl) (by kernel_rfl) (by kernel_rfl) ?tq3_2 (Or.inl ⟨?tw3_2, ?ty3_2⟩) (by assumption) ?tr3_2
        case th3_2 => (simp only [List.getElem?_toArray, List.getElem?_cons_zero, List.getElem?_cons_succ]; rfl)
        case tq3_2 => exact fun _ _ _ h => h
        case tw3_2 => rfl
        case ty3_2 => (intro w' hSw; (try dsimp only at hSw); go_simp <;> with_reducible rfl)
        try simp only [Act.put, List.setIfInBounds_toArray, List.set_cons_zero, List.set_cons_succ]
        refine wpAnyH_take (i := 4) (oi := ?to4_2) (v := ?tv4_2) ?th4_2 (by kernel_rfl) (by kernel_rfl) (by kernel_rfl) ?tq4_2 (Or.inl ⟨?tw4_2, ?ty4_2⟩) (by assumption) ?tr4_2
        case th4_2 => (simp only [List.getElem?_toArray, List.getElem?_cons_zero, List.getElem?_cons_succ]; rfl)
        case tq4_2 => exact fun _ _ _ h => h
        case tw4_2 => rfl
        case ty4_2 => (intro w' hSw; (try dsimp only at hSw); go_simp <;> with_reducible rfl)
        try simp only [Act.put, List.setIfInBounds_toArray, List.set_cons_zero, List.set_cons_succ]
        refine wpAnyH_take (i := 5) (oi := ?to5_2) (v := ?tv5_2) ?th5_2 (by kernel_rfl) (by kernel_rfl) (by kernel_rfl) ?tq5_2 (Or.inl ⟨?tw5_2, ?ty5_2⟩) (by assumption) ?tr5_2
        case th5_2 => (simp only [List.getElem?_toArray, List.getElem?_cons_zero, List.getElem?_cons_succ]; rfl)
        case tq5_2 => exact fun _ _ _ h => h
        case tw5_2 => rfl
        case ty5_2 => (intro w' hSw; (try dsimp only at hSw); go_simp <;> with_reducible rfl)
        try simp only [Act.put, List.setIfInBounds_toArray, List.set_cons_zero, List.set_cons_succ]
        refine wpAnyH_take (i := 6) (oi := ?to6_2) (v := ?tv6_2) ?th6_2 (by kernel_rfl) (by kernel_rfl) (by kernel_rfl) ?tq6_2 (Or.inl ⟨?tw6_2, ?ty6_2⟩) (by assumption) ?tr6_2
        case th6_2 => (simp only [List.getElem?_toArray, List.getElem?_cons_zero, List.getElem?_cons_succ]; rfl)
        case tq6_2 => exact fun _ _ _ h => h
        case tw6_2 => rfl
        case ty6_2 => (intro w' hSw; (try dsimp only at hSw); go_simp <;> with_reducible rfl)
        try simp only [Act.put, List.setIfInBounds_toArray, List.set_cons_zero, List.set_cons_succ]
        refine wpAnyH_take (i := 7) (oi := ?to7_2) (v := ?tv7_2) ?th7_2 (by kernel_rfl) (by kernel_rfl) (by kernel_rfl) ?tq7_2 (Or.inl ⟨?tw7_2, ?ty7_2⟩) (by assumption) ?tr7_2
        case th7_2 => (simp only [List.getElem?_toArray, List.getElem?_cons_zero, List.getElem?_cons_succ]; rfl)
        case tq7_2 => exact fun _ _ _ h => h
        case tw7_2 => rfl
        case ty7_2 => (intro w' hSw; (try dsimp only at hSw); go_simp <;> with_reducible rfl)
        try simp only [Act.put, List.setIfInBounds_toArray, List.set_cons_zero, List.set_cons_succ]
        refine wpAnyH_take (i := 8) (oi := ?to8_2) (v := ?tv8_2) ?th8_2 (by kernel_rfl) (by kernel_rfl) (by kernel_rfl) ?tq8_2 (Or.inl ⟨?tw8_2, ?ty8_2⟩) (by assumption) ?tr8_2
        case th8_2 => (simp only [List.getElem?_toArray, List.getElem?_cons_zero, List.getElem?_cons_succ]; rfl)
        case tq8_2 => exact fun _ _ _ h => h
        case tw8_2 => rfl
        case ty8_2 => (intro w' hSw; (try dsimp only at hSw); go_simp <;> with_reducible rfl)
        try simp only [Act.put, List.setIfInBounds_toArray, List.set_cons_zero, List.set_cons_succ]
        refine wpAnyH_take (i := 9) (oi := ?to9_2) (v := ?tv9_2) ?th9_2 (by kernel_rfl) (by kernel_rfl) (by kernel_rfl) ?tq9_2 (Or.inl ⟨?tw9_2, ?ty9_2⟩) (by assumption) ?tr9_2
        case th9_2 => (simp only [List.getElem?_toArray, List.getElem?_cons_zero, List.getElem?_cons_succ]; rfl)
        case tq9_2 => exact fun _ _ _ h => h
        case tw9_2 => rfl
        case ty9_2 => (intro w' hSw; (try dsimp only at hSw); go_simp <;> with_reducible rfl)
        try simp only [Act.put, List.setIfInBounds_toArray, List.set_cons_zero, List.set_cons_succ]
        refine wpAnyH_take (i := 10) (oi := ?to10_2) (v := ?tv10_2) ?th10_2 (by kernel_rfl) (by kernel_rfl) (by kernel_rfl) ?tq10_2 (Or.inl ⟨?tw10_2, ?ty10_2⟩) (by assumption) ?tr10_2
        case th10_2 => (simp only [List.getElem?_toArray, List.getElem?_cons_zero, List.getElem?_cons_succ]; rfl)
        case tq10_2 => exact fun _ _ _ h => h
        case tw10_2 => rfl
        case ty10_2 => (intro w' hSw; (try dsimp only at hSw); go_simp <;> with_reducible rfl)
        try simp only [Act.put, List.setIfInBounds_toArray, List.set_cons_zero, List.set_cons_succ]
        refine wpAnyH_take (i := 11) (oi := ?to11_2) (v := ?tv11_2) ?th11_2 (by kernel_rfl) (by kernel_rfl) (by kernel_rfl) ?tq11_2 (Or.inl ⟨?tw11_2, ?ty11_2⟩) (by assumption) ?tr11_2
        case th11_2 => (simp only [List.getElem?_toArray, List.getElem?_cons_zero, List.getElem?_cons_succ]; rfl)
        case tq11_2 => exact fun _ _ _ h => h
        case tw11_2 => rfl
        case ty11_2 => (intro w' hSw; (try dsimp only at hSw); go_simp <;> with_reducible rfl)
        try simp only [Act.put, List.setIfInBounds_toArray, List.set_cons_zero, List.set_cons_succ]
        refine wpAnyH_take (i := 12) (oi := ?to12_2) (v := ?tv12_2) ?th12_2 (by kernel_rfl) (by kernel_rfl) (by kernel_rfl) ?tq12_2 (Or.inl ⟨?tw12_2, ?ty12_2⟩) (by assumption) ?tr12_2
        case th12_2 => (simp only [List.getElem?_toArray, List.getElem?_cons_zero, List.getElem?_cons_succ]; rfl)
        case tq12_2 => exact fun _ _ _ h => h
        case tw12_2 => rfl
        case ty12_2 => (intro w' hSw; (try dsimp only at hSw); go_simp <;> with_reducible rfl)
        try simp only [Act.put, List.setIfInBounds_toArray, List.set_cons_zero, List.set_cons_succ]
        refine wpAnyH_take (i := 13) (oi := ?to13_2) (v := ?tv13_2) ?th13_2 (by kernel_rfl) (by kernel_rfl) (by kernel_rfl) ?tq13_2 (Or.inl ⟨?tw13_2, ?ty13_2⟩) (by assumption) ?tr13_2
        case th13_2 => (simp only [List.getElem?_toArray, List.getElem?_cons_zero, List.getElem?_cons_succ]; rfl)
        case tq13_2 => exact fun _ _ _ h => h
        case tw13_2 => rfl
        case ty13_2 => (intro w' hSw; (try dsimp only at hSw); go_simp <;> with_reducible rfl)
        try simp only [Act.put, List.setIfInBounds_toArray, List.set_cons_zero, List.set_cons_succ]
        refine wpAnyH_take (i := 14) (oi := ?to14_2) (v := ?tv14_2) ?th14_2 (by kernel_rfl) (by kernel_rfl) (by kernel_rfl) ?tq14_2 (Or.inl ⟨?tw14_2, ?ty14_2⟩) (by assumption) ?tr14_2
        case th14_2 => (simp only [List.getElem?_toArray, List.getElem?_cons_zero, List.getElem?_cons_succ]; rfl)
        case tq14_2 => exact fun _ _ _ h => h
        case tw14_2 => rfl
        case ty14_2 => (intro w' hSw; (try dsimp only at hSw); go_simp <;> with_reducible rfl)
        try simp only [Act.put, List.setIfInBounds_toArray, List.set_cons_zero, List.set_cons_succ]
        refine wpAnyH_take (i := 15) (oi := ?to15_2) (v := ?tv15_2) ?th15_2 (by kernel_rfl) (by kernel_rfl) (by kernel_rfl) ?tq15_2 (Or.inl ⟨?tw15_2, ?ty15_2⟩) (by assumption) ?tr15_2
        case th15_2 => (simp only [List.getElem?_toArray, List.getElem?_cons_zero, List.getElem?_cons_succ]; rfl)
        case tq15_2 => exact fun _ _ _ h => h
        case tw15_2 => rfl
        case ty15_2 => (intro w' hSw; (try dsimp only at hSw); go_simp <;> with_reducible rfl)
        try simp only [Act.put, List.setIfInBounds_toArray, List.set_cons_zero, List.set_cons_succ]
        refine wpAnyH_done (by kernel_rfl) ?_ _
        show wpList _ _ _ _ _ _
        clear hHeld
        go_wp2_with fail
        refine (unhide HTk).mono ?_
        rintro e W2 ⟨rfl, hW2⟩
        obtain rfl : W2 = wr.drew := hW2
        clear HTk
        go_wp2
        go_ret2
        exact unhide HF _ (below_drew wr)
      · have h150 : (es.length : Int) = 150 := by omega
        rw [h150] at c4
        clear h150 hlt hj0 hjl HM1 HI
        go_wp2
        go_quiet (fail)
        go_wp2
        go_ret2
        exact unhide HF _ ⟨rfl, rfl, rfl, Nat.le_refl _, fun _ _ => rfl⟩

end Go.Proofs.YtbloahcmakjchabGreatDoor
