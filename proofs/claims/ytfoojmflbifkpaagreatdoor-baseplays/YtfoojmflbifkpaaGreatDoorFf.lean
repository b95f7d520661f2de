/- Texts of one proof, one behind the other. -/
import Derived.Test.YtfoojmflbifkpaaGreatDoorFe
import Derived.Sort.WalkA6
set_option maxRecDepth 100000
set_option maxHeartbeats 16000000
namespace Go.Proofs.YtfoojmflbifkpaaGreatDoor
open Go.RowKit Go.Maps Go.Shelf Go.Sort
theorem pins_func {α : Type} [Inhabited α] {g sf : Nat} {lb sb : Array Value} {enc : α -> List Value} {k : Nat} {lt : α -> α -> Bool} {blk off size : Nat} {w0 : World} {d0 : Array α} (f : Fam g sf lb sb enc k lt blk off size w0 d0) (W : World) (d : Array α) (h : SWK enc k w0 blk off d W) (hd : d.size = size) (a b : Nat) (hab : a < b) (hb : b <= size) :
  Calls Tryz.prog 222 #[dataV g sf lb sb, .int .i64 a, .int .i64 b] W fun e w' => e = .returned (.bool (partialInsertionSort lt d a b).2) /\ Sorts enc k w0 blk off (partialInsertionSort lt d a b).1 W w' := by
 have eg := f.eg
 have hsz := f.sz
 have hbl := h.lt f.lt0
 have HB0 := zh (below_box W (.cells #[.func (.func g) #[] lb, .func (.func sf) #[] sb] 245))
 have HS1 : Hid (StS enc k w0 blk off (W.alloc (.cells #[.func (.func g) #[] lb, .func (.func sf) #[] sb] 245)) d (W.alloc (.cells #[.func (.func g) #[] lb, .func (.func sf) #[] sb] 245))) := ⟨h.alloc _, Keeps.refl _ _⟩
 have c0 : (W.alloc (.cells #[.func (.func g) #[] lb, .func (.func sf) #[] sb] 245)).cell? ⟨W.heap.size, 0, none⟩ = some (.func (.func g) #[] lb) := by simp
 have c1 : (W.alloc (.cells #[.func (.func g) #[] lb, .func (.func sf) #[] sb] 245)).cell? ⟨W.heap.size, 1, none⟩ = some (.func (.func sf) #[] sb) := by simp
 have HC0 := zh c0
 have HC1 := zh c1
 have HK1 := zh (Keeps.of_below (fun i => i = blk) (uh HB0) zr)
 have hne : ¬ W.heap.size = blk := by omega
 have HF := zh f
 clear h f c0 c1 HB0
 unfold dataV
 go_enter Tryz.func222, Tryz.ntmps222
 go_wp2_with fail
 generalize W.alloc (.cells #[.func (.func g) #[] lb, .func (.func sf) #[] sb] 245) = W1 at *
 go_loopg [7, 8] 5 (fun gx vi vs y => ∃ (i s : Nat) (dk : Array α), vi = .int .i64 i /\ vs = .int .i64 s /\ s <= 5 /\ 5 - s <= gx /\ a < i /\ i <= b /\ dk.size = size /\ Hid (StS enc k w0 blk off W1 dk y) /\ Hid (partialIns lt a b (5 - s) i dk = partialIns lt a b 5 (a + 1) d))
 case atStart => exact ⟨a + 1, 0, d, by go_num, rfl, by omega, by omega, by omega, by omega, hd, HS1, rfl⟩
 case round =>
  revert wr
  intro wo hrel
  clear HS1
  obtain ⟨i, s, dk, rfl, rfl, hs5, hgx, hai, hib, hsk, HS, HO⟩ := hrel
  by_cases hs : s < 5
  ·have hsz5 : (s : Int) < 5 := by omega
   go_upto_block 2 with fail
   go_cut [7] (fun s7 wx => ∃ kx : Nat, s7 = .int .i64 kx /\ i <= kx /\ kx <= b /\ Hid (scanSorted lt dk b i = kx) /\ Hid (StS enc k w0 blk off W1 dk wx))
   case first =>
    go_wp2_with fail
    go_loopg [7] (b - i) (fun gy vi y => ∃ kx : Nat, vi = .int .i64 kx /\ i <= kx /\ kx <= b /\ b - kx <= gy /\ Hid (StS enc k w0 blk off W1 dk y) /\ Hid (scanSorted lt dk b kx = scanSorted lt dk b i))
    case atStart => exact ⟨i, rfl, Nat.le_refl _, hib, Nat.le_refl _, HS, rfl⟩
    case round =>
     clear HS
     obtain ⟨kx, rfl, hik, hkb, hgy, HS, HU⟩ := hrel
     by_cases hle : kx < b
     ·have hlez : (kx : Int) < (b : Int) := by omega
      have z0 := (uh HS).z (uh HC0) hne
      have hl := (uh HF).lessS (uh HS) hsk kx (kx - 1) (by omega) (by omega)
      rw [show ((kx - 1 : Nat) : Int) = (kx : Int) - 1 by omega] at hl
      cases hlv : lt dk[kx]! dk[kx - 1]! with
      | false =>
       rw [hlv] at hl
       have HL := zh hl
       have HU2 : Hid (scanSorted lt dk b (kx + 1) = scanSorted lt dk b i) := (scanSorted_go lt dk b kx hle hlv).symm.trans (uh HU)
       clear hl
       go_wp2_with (go_at_fn g; refine (uh HL).mono ?_; rintro e w' ⟨rfl, hS2⟩; have HS2 := zh hS2; clear hS2)
       go_roundg (b - (kx + 1))
       case measure => omega
       case rel => exact ⟨kx + 1, by go_num, by omega, by omega, Nat.le_refl _, HS2, HU2⟩
      | true =>
       rw [hlv] at hl
       have HL := zh hl
       have HU2 : Hid (scanSorted lt dk b i = kx) := (uh HU).symm.trans (scanSorted_stop lt dk b kx (Or.inr hlv))
       clear hl
       go_wp2_with (go_at_fn g; refine (uh HL).mono ?_; rintro e w' ⟨rfl, hS2⟩; have HS2 := zh hS2; clear hS2)
       go_meet
       case rel => exact ⟨kx, rfl, hik, hkb, HU2, HS2⟩
     ·have hlez : decide ((kx : Int) < (b : Int)) = false := decide_eq_false (by omega)
      have HU2 : Hid (scanSorted lt dk b i = kx) := (uh HU).symm.trans (scanSorted_stop lt dk b kx (Or.inl hle))
      go_wp2
      go_meet
      case rel => exact ⟨kx, rfl, hik, hkb, HU2, HS⟩
   case rest =>
   clear HS
   obtain ⟨kx, rfl, hik, hkb, HU, HS⟩ := hcut
   by_cases hke : kx = b
   ·subst hke
    have HV : Hid (partialInsertionSort lt d a kx = (dk, true)) := by
     unfold Hid partialInsertionSort
     rw [<- uh HO, pi_true lt a kx s i dk hs (uh HU)]
    have HR : Hid (Sorts enc k w0 blk off dk W wc) := ⟨(uh HS).1, (uh HK1).then (uh HS).2 (fun _ _ q => q)⟩
    go_wp2
    go_ret
    rw [uh HV]
    exact ⟨rfl, uh HR⟩
   have hkez : ((kx : Int) == (b : Int)) = false := beq_eq_false_iff_ne.2 (by omega)
   by_cases h50 : b - a < 50
   ·have h50z : (b : Int) - (a : Int) < 50 := by omega
    have HV : Hid (partialInsertionSort lt d a b = (dk, false)) := by
     unfold Hid partialInsertionSort
     rw [<- uh HO, pi_short lt a b s i dk hs (by rw [uh HU]; exact hke) h50]
    have HR : Hid (Sorts enc k w0 blk off dk W wc) := ⟨(uh HS).1, (uh HK1).then (uh HS).2 (fun _ _ q => q)⟩
    go_wp2
    go_ret
    rw [uh HV]
    exact ⟨rfl, uh HR⟩
   have h50z : ¬ (b : Int) - (a : Int) < 50 := by omega
   have HG := zh (pi_go lt a b s i kx dk hs (uh HU) hke h50)
   obtain ⟨y1, hsw, hS2⟩ := (uh HF).swapS (uh HS) hsk kx (kx - 1) (by omega) (by omega)
   rw [show ((kx - 1 : Nat) : Int) = (kx : Int) - 1 by omega] at hsw
   have z1 := (uh HS).z (uh HC1) hne
   have hsk1 : (swp dk kx (kx - 1)).size = size := by rw [size_swp]; exact hsk
   have HS2 := zh hS2
   clear hS2 HS HU
   generalize swp dk kx (kx - 1) = d1 at *
   clear hsk
   go_upto_if 47 with fail
   clear hsw z1
   go_cut [9] (fun s9 wx => (fixDown lt a kx d1).size = size /\ Hid (StS enc k w0 blk off W1 (fixDown lt a kx d1) wx))
   case first =>
    by_cases hka : kx - a ≥ 2
    ·have hkaz : (2 : Int) <= (kx : Int) - (a : Int) := by omega
     have HX : Hid (fixDown lt a kx d1 = shiftDown lt (kx - 1) d1) := by
      unfold Hid fixDown
      rw [if_pos hka]
     go_wp2_with fail
     go_loopg [9] (kx - 1) (fun gy vj y => ∃ (j : Nat) (dj : Array α), vj = .int .i64 j /\ j <= kx - 1 /\ j <= gy /\ dj.size = size /\ Hid (StS enc k w0 blk off W1 dj y) /\ Hid (shiftDown lt j dj = shiftDown lt (kx - 1) d1))
     case atStart => exact ⟨kx - 1, d1, by go_num, Nat.le_refl _, Nat.le_refl _, hsk1, HS2, rfl⟩
     case round =>
      clear HS2
      obtain ⟨j, dj, rfl, hjk, hgy, hsj, HS, HU⟩ := hrel
      by_cases hj1 : 1 <= j
      ·have hj1z : (1 : Int) <= (j : Int) := by omega
       have z0 := (uh HS).z (uh HC0) hne
       have hl := (uh HF).lessS (uh HS) hsj j (j - 1) (by omega) (by omega)
       rw [show ((j - 1 : Nat) : Int) = (j : Int) - 1 by omega] at hl
       cases hlv : lt dj[j]! dj[j - 1]! with
       | true =>
        rw [hlv] at hl
        have HL := zh hl
        have HU2 : Hid (shiftDown lt (j - 1) (swp dj j (j - 1)) = shiftDown lt (kx - 1) d1) := (shiftDown_go lt j dj hj1 hlv).symm.trans (uh HU)
        have hsj2 : (swp dj j (j - 1)).size = size := by rw [size_swp]; exact hsj
        clear hl
        go_wp2_with (go_at_fn g; refine (uh HL).mono ?_; rintro e w' ⟨rfl, hS2⟩; have z1 := hS2.z (uh HC1) hne; have HS3 := zh hS2; clear hS2)
        obtain ⟨y2, hsw, hS3⟩ := (uh HF).swapS (uh HS3) hsj j (j - 1) (by omega) (by omega)
        rw [show ((j - 1 : Nat) : Int) = (j : Int) - 1 by omega] at hsw
        have HS4 := zh hS3
        clear hS3 HS3
        rw [hsw, Oper.upon_value]
        clear hsw
        go_wp2
        go_roundg (j - 1)
        case measure => omega
        case rel => exact ⟨j - 1, swp dj j (j - 1), by go_num, by omega, Nat.le_refl _, hsj2, HS4, HU2⟩
       | false =>
        rw [hlv] at hl
        have HL := zh hl
        have HU2 : Hid (fixDown lt a kx d1 = dj) := by
         unfold Hid
         rw [uh HX, <- uh HU, shiftDown_stop lt j dj (Or.inr hlv)]
        clear hl
        go_wp2_with (go_at_fn g; refine (uh HL).mono ?_; rintro e w' ⟨rfl, hS2⟩; have HS3 := zh hS2; clear hS2)
        go_meet
        case rel => rw [uh HU2]; exact ⟨hsj, HS3⟩
      ·have hj1z : ¬ (1 : Int) <= (j : Int) := by omega
       have HU2 : Hid (fixDown lt a kx d1 = dj) := by
        unfold Hid
        rw [uh HX, <- uh HU, shiftDown_stop lt j dj (Or.inl (by omega))]
       go_wp2
       go_meet
       case rel => rw [uh HU2]; exact ⟨hsj, HS⟩
    ·have hkaz : ¬ (2 : Int) <= (kx : Int) - (a : Int) := by omega
     have HX : Hid (fixDown lt a kx d1 = d1) := by
      unfold Hid fixDown
      rw [if_neg hka]
     go_wp2
     go_meet
     case rel => rw [uh HX]; exact ⟨hsk1, HS2⟩
   case rest =>
   clear HS2
   obtain ⟨hsf, HS⟩ := hcut
   generalize fixDown lt a kx d1 = d2 at *
   clear hsk1
   by_cases hbk : b - kx ≥ 2
   ·have hbkz : (2 : Int) <= (b : Int) - (kx : Int) := by omega
    have HX : Hid (fixUp lt b kx d2 = shiftUp lt b (kx + 1) d2) := by
     unfold Hid fixUp
     rw [if_pos hbk]
    go_wp2_with fail
    go_loopg [10] (b - (kx + 1)) (fun gy vj y => ∃ (j : Nat) (dj : Array α), vj = .int .i64 j /\ kx + 1 <= j /\ j <= b /\ b - j <= gy /\ dj.size = size /\ Hid (StS enc k w0 blk off W1 dj y) /\ Hid (shiftUp lt b j dj = shiftUp lt b (kx + 1) d2))
    case atStart => exact ⟨kx + 1, d2, by go_num, Nat.le_refl _, by omega, Nat.le_refl _, hsf, HS, rfl⟩
    case round =>
     clear HS
     obtain ⟨j, dj, rfl, hkj, hjb, hgy, hsj, HS, HU⟩ := hrel
     by_cases hjb' : j < b
     ·have hjz : (j : Int) < (b : Int) := by omega
      have z0 := (uh HS).z (uh HC0) hne
      have hl := (uh HF).lessS (uh HS) hsj j (j - 1) (by omega) (by omega)
      rw [show ((j - 1 : Nat) : Int) = (j : Int) - 1 by omega] at hl
      cases hlv : lt dj[j]! dj[j - 1]! with
      | true =>
       rw [hlv] at hl
       have HL := zh hl
       have HU2 : Hid (shiftUp lt b (j + 1) (swp dj j (j - 1)) = shiftUp lt b (kx + 1) d2) := (shiftUp_go lt b j dj hjb' hlv).symm.trans (uh HU)
       have hsj2 : (swp dj j (j - 1)).size = size := by rw [size_swp]; exact hsj
       clear hl
       go_wp2_with (go_at_fn g; refine (uh HL).mono ?_; rintro e w' ⟨rfl, hS2⟩; have z1 := hS2.z (uh HC1) hne; have HS3 := zh hS2; clear hS2)
       obtain ⟨y2, hsw, hS3⟩ := (uh HF).swapS (uh HS3) hsj j (j - 1) (by omega) (by omega)
       rw [show ((j - 1 : Nat) : Int) = (j : Int) - 1 by omega] at hsw
       have HS4 := zh hS3
       clear hS3 HS3
       rw [hsw, Oper.upon_value]
       clear hsw
       go_wp2
       go_roundg (b - (j + 1))
       case measure => omega
       case rel => exact ⟨j + 1, swp dj j (j - 1), by go_num, by omega, by omega, Nat.le_refl _, hsj2, HS4, HU2⟩
      | false =>
       rw [hlv] at hl
       have HL := zh hl
       have HU2 : Hid (partialIns lt a b (5 - (s + 1)) kx dj = partialIns lt a b 5 (a + 1) d) := by
        unfold Hid
        rw [<- uh HO, uh HG, uh HX, <- uh HU, shiftUp_stop lt b j dj (Or.inr hlv)]
       clear hl
       go_wp2_with (go_at_fn g; refine (uh HL).mono ?_; rintro e w' ⟨rfl, hS2⟩; have HS3 := zh hS2; clear hS2)
       go_roundg (5 - (s + 1))
       case measure => omega
       case rel => exact ⟨kx, s + 1, dj, rfl, by go_num, by omega, Nat.le_refl _, by omega, by omega, hsj, HS3, HU2⟩
     ·have hjz : ¬ (j : Int) < (b : Int) := by omega
      have HU2 : Hid (partialIns lt a b (5 - (s + 1)) kx dj = partialIns lt a b 5 (a + 1) d) := by
       unfold Hid
       rw [<- uh HO, uh HG, uh HX, <- uh HU, shiftUp_stop lt b j dj (Or.inl hjb')]
      go_wp2
      go_roundg (5 - (s + 1))
      case measure => omega
      case rel => exact ⟨kx, s + 1, dj, rfl, by go_num, by omega, Nat.le_refl _, by omega, by omega, hsj, HS, HU2⟩
   ·have hbkz : ¬ (2 : Int) <= (b : Int) - (kx : Int) := by omega
    have HU2 : Hid (partialIns lt a b (5 - (s + 1)) kx d2 = partialIns lt a b 5 (a + 1) d) := by
     unfold Hid
     rw [<- uh HO, uh HG]
     unfold fixUp
     rw [if_neg hbk]
    go_wp2
    go_roundg (5 - (s + 1))
    case measure => omega
    case rel => exact ⟨kx, s + 1, d2, rfl, by go_num, by omega, Nat.le_refl _, by omega, by omega, hsf, HS, HU2⟩
  ·obtain rfl : s = 5 := by omega
   have HV : Hid (partialInsertionSort lt d a b = (dk, false)) := by
    unfold Hid partialInsertionSort
    rw [<- uh HO, pi_end]
   have HR : Hid (Sorts enc k w0 blk off dk W wo) := ⟨(uh HS).1, (uh HK1).then (uh HS).2 (fun _ _ q => q)⟩
   go_wp2
   go_ret
   rw [uh HV]
   exact ⟨rfl, uh HR⟩
end Go.Proofs.YtfoojmflbifkpaaGreatDoor
