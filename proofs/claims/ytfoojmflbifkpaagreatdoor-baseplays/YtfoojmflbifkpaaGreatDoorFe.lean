/- Texts of one proof, one behind the other. -/
import Derived.Test.YtfoojmflbifkpaaGreatDoorFc
import Derived.Sort.WalkC4
import Derived.Deep.CutBlock
import Derived.Deep.LoopGhost
import Derived.Deep.DeepCutAuto
set_option maxRecDepth 100000
set_option maxHeartbeats 16000000
namespace Go.Proofs.YtfoojmflbifkpaaGreatDoor
open Go.RowKit Go.Maps Go.Shelf Go.Sort
def StS {α : Type} [Inhabited α] (enc : α -> List Value) (k : Nat) (w0 : World) (blk off : Nat) (W1 : World) (dk : Array α) (y : World) : Prop := SWK enc k w0 blk off dk y /\ Keeps (fun i => i = blk) W1 y
theorem StS.z {α : Type} [Inhabited α] {enc : α -> List Value} {k : Nat} {w0 : World} {blk off : Nat} {W1 : World} {dk : Array α} {y : World} {B o : Nat} {v : Value} (h : StS enc k w0 blk off W1 dk y) (c : W1.cell? ⟨B, o, none⟩ = some v) (hne : ¬ B = blk) : y.cell? ⟨B, o, none⟩ = some v :=
 (h.2.cell (p := ⟨B, o, none⟩) (lt_of_cell c) hne).trans c
theorem Fam.lessS {α : Type} [Inhabited α] {g sf : Nat} {lb sb : Array Value} {enc : α -> List Value} {k : Nat} {lt : α -> α -> Bool} {blk off size : Nat} {w0 : World} {d0 : Array α} (f : Fam g sf lb sb enc k lt blk off size w0 d0) {W1 y : World} {dk : Array α} (h : StS enc k w0 blk off W1 dk y) (hs : dk.size = size) (i j : Nat) (hi : i < size) (hj : j < size) :
  Calls Tryz.prog g (#[.int .i64 i, .int .i64 j] ++ lb) y fun e w' => e = .returned (.bool (lt dk[i]! dk[j]!)) /\ StS enc k w0 blk off W1 dk w' :=
 (f.less y dk h.1 hs i j hi hj).mono fun _ _ ⟨q1, q2, q3⟩ => ⟨q1, q2, h.2.then (Keeps.of_below _ q3 zr) (fun _ _ q => q)⟩
theorem Fam.swapS {α : Type} [Inhabited α] {g sf : Nat} {lb sb : Array Value} {enc : α -> List Value} {k : Nat} {lt : α -> α -> Bool} {blk off size : Nat} {w0 : World} {d0 : Array α} (f : Fam g sf lb sb enc k lt blk off size w0 d0) {W1 y : World} {dk : Array α} (h : StS enc k w0 blk off W1 dk y) (hs : dk.size = size) (i j : Nat) (hi : i < size) (hj : j < size) :
  ∃ y', (callFunc sf (#[.int .i64 i, .int .i64 j] ++ sb)).run Tryz.prog y = .ok (.value (.tuple #[])) y' /\ StS enc k w0 blk off W1 (swp dk i j) y' :=
 ⟨_, f.swap y dk (h.1.holds f.lt0 f.holds (by rw [hs]; exact f.size0.symm)) hs i j hi hj, h.1.swap f.hk f.lt0 i j (by omega) (by omega), h.2.then swap_keeps (fun _ _ q => q)⟩
theorem partEq_func {α : Type} [Inhabited α] {g sf : Nat} {lb sb : Array Value} {enc : α -> List Value} {k : Nat} {lt : α -> α -> Bool} {blk off size : Nat} {w0 : World} {d0 : Array α} (f : Fam g sf lb sb enc k lt blk off size w0 d0) (W : World) (d : Array α) (h : SWK enc k w0 blk off d W) (hd : d.size = size) (a b pivot : Nat) (hap : a <= pivot) (hpb : pivot < b) (hb : b <= size) :
  Calls Tryz.prog 223 #[dataV g sf lb sb, .int .i64 a, .int .i64 b, .int .i64 pivot] W fun e w' => e = .returned (.int .i64 ((partitionEqual lt d a b pivot).1 : Nat)) /\ Sorts enc k w0 blk off (partitionEqual lt d a b pivot).2 W w' := by
 have eg := f.eg
 have hsz := f.sz
 have hbl := h.lt f.lt0
 have HB0 := zh (below_box W (.cells #[.func (.func g) #[] lb, .func (.func sf) #[] sb] 245))
 have hS1 : StS enc k w0 blk off (W.alloc (.cells #[.func (.func g) #[] lb, .func (.func sf) #[] sb] 245)) d (W.alloc (.cells #[.func (.func g) #[] lb, .func (.func sf) #[] sb] 245)) := ⟨h.alloc _, Keeps.refl _ _⟩
 have c0 : (W.alloc (.cells #[.func (.func g) #[] lb, .func (.func sf) #[] sb] 245)).cell? ⟨W.heap.size, 0, none⟩ = some (.func (.func g) #[] lb) := by simp
 have c1 : (W.alloc (.cells #[.func (.func g) #[] lb, .func (.func sf) #[] sb] 245)).cell? ⟨W.heap.size, 1, none⟩ = some (.func (.func sf) #[] sb) := by simp
 have HC0 := zh c0
 have HC1 := zh c1
 have HK1 := zh (Keeps.of_below (fun i => i = blk) (uh HB0) zr)
 have hne : ¬ W.heap.size = blk := by omega
 obtain ⟨y0, hsw, hS⟩ := f.swapS hS1 hd a pivot (by omega) (by omega)
 have HF := zh f
 have HSw := zh hS
 have hds : (swp d a pivot).size = size := by rw [size_swp]; exact hd
 have HE0 : Hid (partitionEqual lt d a b pivot = partEqLoop lt a (a + 1) (b - 1) (swp d a pivot)) := rfl
 clear h f c0 c1 HB0 hS1 hS
 generalize swp d a pivot = d1 at *
 unfold dataV
 go_enter Tryz.func223, Tryz.ntmps223
 go_wp2_with fail
 clear hsw
 generalize W.alloc (.cells #[.func (.func g) #[] lb, .func (.func sf) #[] sb] 245) = W1 at *
 go_loopg [9, 10] b (fun gx vi vj y => ∃ (i j : Nat) (dk : Array α), vi = .int .i64 i /\ vj = .int .i64 j /\ a < i /\ i <= j + 1 /\ j < b /\ j + 1 - i <= gx /\ dk.size = size /\ Hid (StS enc k w0 blk off W1 dk y) /\ Hid (partEqLoop lt a i j dk = partEqLoop lt a (a + 1) (b - 1) d1))
 case atStart => exact ⟨a + 1, b - 1, d1, by go_num, by go_num, by omega, by omega, by omega, by omega, hds, HSw, rfl⟩
 case round =>
  revert wr
  intro wo hrel
  obtain ⟨i, j, dk, rfl, rfl, hai, hij, hjb, hgx, hsk, HS, HE⟩ := hrel
  clear HSw hds
  have hpa : a < size := by omega
  go_upto_block 2 with fail
  go_cut [9] (fun s9 wx => ∃ i2 : Nat, s9 = .int .i64 i2 /\ i <= i2 /\ i2 <= j + 1 /\ Hid (i2 = scanUp (fun x => !lt dk[a]! x) dk j i) /\ Hid (StS enc k w0 blk off W1 dk wx))
  case first =>
   go_wp2_with fail
   go_loopg [9] (j + 1 - i) (fun gy vi y => ∃ i2 : Nat, vi = .int .i64 i2 /\ i <= i2 /\ i2 <= j + 1 /\ j + 1 - i2 <= gy /\ Hid (StS enc k w0 blk off W1 dk y) /\ Hid (scanUp (fun x => !lt dk[a]! x) dk j i2 = scanUp (fun x => !lt dk[a]! x) dk j i))
   case atStart => exact ⟨i, rfl, Nat.le_refl _, hij, Nat.le_refl _, HS, rfl⟩
   case round =>
    clear HS
    obtain ⟨i2, rfl, hi2, hij2, hgy, HS, HU⟩ := hrel
    by_cases hle : i2 <= j
    ·have hlez : (i2 : Int) <= (j : Int) := by omega
     have z0 := (uh HS).z (uh HC0) hne
     have hl := (uh HF).lessS (uh HS) hsk a i2 hpa (by omega)
     cases hlv : lt dk[a]! dk[i2]! with
     | false =>
      rw [hlv] at hl
      have HL := zh hl
      have HU2 : Hid (scanUp (fun x => !lt dk[a]! x) dk j (i2 + 1) = scanUp (fun x => !lt dk[a]! x) dk j i) := (scanUp_go (fun x => !lt dk[a]! x) dk j i2 hle (by simp [hlv])).symm.trans (uh HU)
      clear hl
      go_wp2_with (go_at_fn g; refine (uh HL).mono ?_; rintro e w' ⟨rfl, hS2⟩; have HS2 := zh hS2; clear hS2)
      go_roundg (j + 1 - (i2 + 1))
      case measure => omega
      case rel => exact ⟨i2 + 1, by go_num, by omega, by omega, Nat.le_refl _, HS2, HU2⟩
     | true =>
      rw [hlv] at hl
      have HL := zh hl
      have HU2 : Hid (i2 = scanUp (fun x => !lt dk[a]! x) dk j i) := (scanUp_end (fun x => !lt dk[a]! x) dk j i2 (Or.inr (by simp [hlv]))).symm.trans (uh HU)
      clear hl
      go_wp2_with (go_at_fn g; refine (uh HL).mono ?_; rintro e w' ⟨rfl, hS2⟩; have HS2 := zh hS2; clear hS2)
      go_meet
      case rel => exact ⟨i2, rfl, hi2, hij2, HU2, HS2⟩
    ·have hlez : decide ((i2 : Int) <= (j : Int)) = false := decide_eq_false (by omega)
     have HU2 : Hid (i2 = scanUp (fun x => !lt dk[a]! x) dk j i) := (scanUp_end (fun x => !lt dk[a]! x) dk j i2 (Or.inl hle)).symm.trans (uh HU)
     go_wp2
     go_meet
     case rel => exact ⟨i2, rfl, hi2, hij2, HU2, HS⟩
  case rest =>
  clear HS
  obtain ⟨i2, rfl, hi2, hij2, HU, HS⟩ := hcut
  go_upto_block 4 with fail
  go_cut [10] (fun s10 wx => ∃ j2 : Nat, s10 = .int .i64 j2 /\ j2 <= j /\ i2 <= j2 + 1 /\ Hid (j2 = scanDown (fun x => lt dk[a]! x) dk i2 j) /\ Hid (StS enc k w0 blk off W1 dk wx))
  case first =>
   go_wp2_with fail
   go_loopg [10] j (fun gy vj y => ∃ j2 : Nat, vj = .int .i64 j2 /\ j2 <= j /\ i2 <= j2 + 1 /\ j2 <= gy /\ Hid (StS enc k w0 blk off W1 dk y) /\ Hid (scanDown (fun x => lt dk[a]! x) dk i2 j2 = scanDown (fun x => lt dk[a]! x) dk i2 j))
   case atStart => exact ⟨j, rfl, Nat.le_refl _, hij2, Nat.le_refl _, HS, rfl⟩
   case round =>
    clear HS
    obtain ⟨j2, rfl, hj2, hij3, hgy, HS, HD⟩ := hrel
    by_cases hle : i2 <= j2
    ·have hlez : (i2 : Int) <= (j2 : Int) := by omega
     have z0 := (uh HS).z (uh HC0) hne
     have hl := (uh HF).lessS (uh HS) hsk a j2 hpa (by omega)
     cases hlv : lt dk[a]! dk[j2]! with
     | true =>
      rw [hlv] at hl
      have HL := zh hl
      have HU2 : Hid (scanDown (fun x => lt dk[a]! x) dk i2 (j2 - 1) = scanDown (fun x => lt dk[a]! x) dk i2 j) := (scanDown_go (fun x => lt dk[a]! x) dk i2 j2 hle (by omega) hlv).symm.trans (uh HD)
      clear hl
      go_wp2_with (go_at_fn g; refine (uh HL).mono ?_; rintro e w' ⟨rfl, hS2⟩; have HS2 := zh hS2; clear hS2)
      go_roundg (j2 - 1)
      case measure => omega
      case rel => exact ⟨j2 - 1, by go_num, by omega, by omega, Nat.le_refl _, HS2, HU2⟩
     | false =>
      rw [hlv] at hl
      have HL := zh hl
      have HU2 : Hid (j2 = scanDown (fun x => lt dk[a]! x) dk i2 j) := (scanDown_end (fun x => lt dk[a]! x) dk i2 j2 (Or.inr hlv)).symm.trans (uh HD)
      clear hl
      go_wp2_with (go_at_fn g; refine (uh HL).mono ?_; rintro e w' ⟨rfl, hS2⟩; have HS2 := zh hS2; clear hS2)
      go_meet
      case rel => exact ⟨j2, rfl, hj2, hij3, HU2, HS2⟩
    ·have hlez : decide ((i2 : Int) <= (j2 : Int)) = false := decide_eq_false (by omega)
     have HU2 : Hid (j2 = scanDown (fun x => lt dk[a]! x) dk i2 j) := (scanDown_end (fun x => lt dk[a]! x) dk i2 j2 (Or.inl hle)).symm.trans (uh HD)
     go_wp2
     go_meet
     case rel => exact ⟨j2, rfl, hj2, hij3, HU2, HS⟩
  case rest =>
  clear HS
  obtain ⟨j2, rfl, hj2, hij3, HD, HS⟩ := hcut
  by_cases hle : j2 < i2
  ·have hlez : (j2 : Int) < (i2 : Int) := by omega
   have hv : partitionEqual lt d a b pivot = (i2, dk) := by rw [uh HE0, <- uh HE, partEq_break lt a i j dk (uh HU) (uh HD) hle]
   have HV := zh hv
   have HR : Hid (Sorts enc k w0 blk off dk W wc) := ⟨(uh HS).1, (uh HK1).then (uh HS).2 (fun _ _ q => q)⟩
   clear hv
   go_wp2
   go_ret
   rw [uh HV]
   exact ⟨rfl, uh HR⟩
  ·have hlez : ¬ (j2 : Int) < (i2 : Int) := by omega
   have hlt3 := scans_lt lt a i j dk (by omega) (uh HU) (uh HD) (by omega)
   obtain ⟨y2, hsw, hS2⟩ := (uh HF).swapS (uh HS) hsk i2 j2 (by omega) (by omega)
   have z1 := (uh HS).z (uh HC1) hne
   have HS2 := zh hS2
   have HE2 : Hid (partEqLoop lt a (i2 + 1) (j2 - 1) (swp dk i2 j2) = partEqLoop lt a (a + 1) (b - 1) d1) := (partEq_go lt a i j dk (uh HU) (uh HD) (by omega)).symm.trans (uh HE)
   clear hS2 HS
   go_wp2
   go_roundg (j2 - 1 + 1 - (i2 + 1))
   case measure => omega
   case rel => exact ⟨i2 + 1, j2 - 1, swp dk i2 j2, by go_num, by go_num, by omega, by omega, by omega, Nat.le_refl _, by rw [size_swp]; exact hsk, HS2, HE2⟩
theorem part_func {α : Type} [Inhabited α] {g sf : Nat} {lb sb : Array Value} {enc : α -> List Value} {k : Nat} {lt : α -> α -> Bool} {blk off size : Nat} {w0 : World} {d0 : Array α} (f : Fam g sf lb sb enc k lt blk off size w0 d0) (W : World) (d : Array α) (h : SWK enc k w0 blk off d W) (hd : d.size = size) (a b pivot : Nat) (hap : a <= pivot) (hpb : pivot < b) (hb : b <= size) :
  Calls Tryz.prog 224 #[dataV g sf lb sb, .int .i64 a, .int .i64 b, .int .i64 pivot] W fun e w' => e = .returned (.tuple #[.int .i64 ((partition lt d a b pivot).1 : Nat), .bool (partition lt d a b pivot).2.1]) /\ Sorts enc k w0 blk off (partition lt d a b pivot).2.2 W w' := by
 have eg := f.eg
 have hsz := f.sz
 have hbl := h.lt f.lt0
 have HB0 := zh (below_box W (.cells #[.func (.func g) #[] lb, .func (.func sf) #[] sb] 245))
 have hS1 : StS enc k w0 blk off (W.alloc (.cells #[.func (.func g) #[] lb, .func (.func sf) #[] sb] 245)) d (W.alloc (.cells #[.func (.func g) #[] lb, .func (.func sf) #[] sb] 245)) := ⟨h.alloc _, Keeps.refl _ _⟩
 have c0 : (W.alloc (.cells #[.func (.func g) #[] lb, .func (.func sf) #[] sb] 245)).cell? ⟨W.heap.size, 0, none⟩ = some (.func (.func g) #[] lb) := by simp
 have c1 : (W.alloc (.cells #[.func (.func g) #[] lb, .func (.func sf) #[] sb] 245)).cell? ⟨W.heap.size, 1, none⟩ = some (.func (.func sf) #[] sb) := by simp
 have HC0 := zh c0
 have HC1 := zh c1
 have HK1 := zh (Keeps.of_below (fun i => i = blk) (uh HB0) zr)
 have hne : ¬ W.heap.size = blk := by omega
 obtain ⟨y0, hsw, hS⟩ := f.swapS hS1 hd a pivot (by omega) (by omega)
 have HF := zh f
 have HSw := zh hS
 have hsk : (swp d a pivot).size = size := by rw [size_swp]; exact hd
 obtain ⟨d1, hd1⟩ : ∃ d1, d1 = swp d a pivot := ⟨_, rfl⟩
 have HD1 := zh hd1
 have hpa : a < size := by omega
 rw [<- hd1] at HSw hsk
 clear h f c0 c1 HB0 hS1 hS hd1
 unfold dataV
 go_enter Tryz.func224, Tryz.ntmps224
 go_upto_block 0 with fail
 clear hsw
 generalize W.alloc (.cells #[.func (.func g) #[] lb, .func (.func sf) #[] sb] 245) = W1 at *
 go_cut [10] (fun s10 wx => ∃ i2 : Nat, s10 = .int .i64 i2 /\ (a + 1) <= i2 /\ i2 <= (b - 1) + 1 /\ Hid (i2 = scanUp (fun x => lt x d1[a]!) d1 (b - 1) (a + 1)) /\ Hid (StS enc k w0 blk off W1 d1 wx))
 case first =>
  go_wp2_with fail
  go_loopg [10] ((b - 1) + 1 - ((a + 1))) (fun gy vi y => ∃ i2 : Nat, vi = .int .i64 i2 /\ (a + 1) <= i2 /\ i2 <= (b - 1) + 1 /\ (b - 1) + 1 - i2 <= gy /\ Hid (StS enc k w0 blk off W1 d1 y) /\ Hid (scanUp (fun x => lt x d1[a]!) d1 (b - 1) i2 = scanUp (fun x => lt x d1[a]!) d1 (b - 1) (a + 1)))
  case atStart => exact ⟨(a + 1), by first | rfl | go_num, Nat.le_refl _, (by omega), Nat.le_refl _, HSw, rfl⟩
  case round =>
   clear HSw
   obtain ⟨i2, rfl, hi2, hij2, hgy, HS, HU⟩ := hrel
   by_cases hle : i2 <= (b - 1)
   ·have hlez : (i2 : Int) <= (b : Int) - 1 := by omega
    have z0 := (uh HS).z (uh HC0) hne
    have hl := (uh HF).lessS (uh HS) hsk i2 a (by omega) hpa
    cases hlv : lt d1[i2]! d1[a]! with
    | true =>
     rw [hlv] at hl
     have HL := zh hl
     have HU2 : Hid (scanUp (fun x => lt x d1[a]!) d1 (b - 1) (i2 + 1) = scanUp (fun x => lt x d1[a]!) d1 (b - 1) (a + 1)) := (scanUp_go (fun x => lt x d1[a]!) d1 ((b - 1)) i2 hle hlv).symm.trans (uh HU)
     clear hl
     go_wp2_with (go_at_fn g; refine (uh HL).mono ?_; rintro e w' ⟨rfl, hS2⟩; have HS2 := zh hS2; clear hS2)
     go_roundg ((b - 1) + 1 - (i2 + 1))
     case measure => omega
     case rel => exact ⟨i2 + 1, by go_num, by omega, by omega, Nat.le_refl _, HS2, HU2⟩
    | false =>
     rw [hlv] at hl
     have HL := zh hl
     have HU2 : Hid (i2 = scanUp (fun x => lt x d1[a]!) d1 (b - 1) (a + 1)) := (scanUp_end (fun x => lt x d1[a]!) d1 ((b - 1)) i2 (Or.inr hlv)).symm.trans (uh HU)
     clear hl
     go_wp2_with (go_at_fn g; refine (uh HL).mono ?_; rintro e w' ⟨rfl, hS2⟩; have HS2 := zh hS2; clear hS2)
     go_meet
     case rel => exact ⟨i2, rfl, hi2, hij2, HU2, HS2⟩
   ·have hlez : decide ((i2 : Int) <= (b : Int) - 1) = false := decide_eq_false (by omega)
    have HU2 : Hid (i2 = scanUp (fun x => lt x d1[a]!) d1 (b - 1) (a + 1)) := (scanUp_end (fun x => lt x d1[a]!) d1 ((b - 1)) i2 (Or.inl hle)).symm.trans (uh HU)
    go_wp2
    go_meet
    case rel => exact ⟨i2, rfl, hi2, hij2, HU2, HS⟩
 case rest =>
 clear HSw
 obtain ⟨i2, rfl, hi2, hij2, HU, HS⟩ := hcut
 go_upto_block 2 with fail
 go_cut [11] (fun s11 wx => ∃ j2 : Nat, s11 = .int .i64 j2 /\ j2 <= (b - 1) /\ i2 <= j2 + 1 /\ Hid (j2 = scanDown (fun x => !lt x d1[a]!) d1 i2 (b - 1)) /\ Hid (StS enc k w0 blk off W1 d1 wx))
 case first =>
  go_wp2_with fail
  go_loopg [11] ((b - 1)) (fun gy vj y => ∃ j2 : Nat, vj = .int .i64 j2 /\ j2 <= (b - 1) /\ i2 <= j2 + 1 /\ j2 <= gy /\ Hid (StS enc k w0 blk off W1 d1 y) /\ Hid (scanDown (fun x => !lt x d1[a]!) d1 i2 j2 = scanDown (fun x => !lt x d1[a]!) d1 i2 (b - 1)))
  case atStart => exact ⟨(b - 1), by first | rfl | go_num, Nat.le_refl _, hij2, Nat.le_refl _, HS, rfl⟩
  case round =>
   clear HS
   obtain ⟨j2, rfl, hj2, hij3, hgy, HS, HD⟩ := hrel
   by_cases hle : i2 <= j2
   ·have hlez : (i2 : Int) <= (j2 : Int) := by omega
    have z0 := (uh HS).z (uh HC0) hne
    have hl := (uh HF).lessS (uh HS) hsk j2 a (by omega) hpa
    cases hlv : lt d1[j2]! d1[a]! with
    | false =>
     rw [hlv] at hl
     have HL := zh hl
     have HU2 : Hid (scanDown (fun x => !lt x d1[a]!) d1 i2 (j2 - 1) = scanDown (fun x => !lt x d1[a]!) d1 i2 (b - 1)) := (scanDown_go (fun x => !lt x d1[a]!) d1 i2 j2 hle (by omega) (by simp [hlv])).symm.trans (uh HD)
     clear hl
     go_wp2_with (go_at_fn g; refine (uh HL).mono ?_; rintro e w' ⟨rfl, hS2⟩; have HS2 := zh hS2; clear hS2)
     go_roundg (j2 - 1)
     case measure => omega
     case rel => exact ⟨j2 - 1, by go_num, by omega, by omega, Nat.le_refl _, HS2, HU2⟩
    | true =>
     rw [hlv] at hl
     have HL := zh hl
     have HU2 : Hid (j2 = scanDown (fun x => !lt x d1[a]!) d1 i2 (b - 1)) := (scanDown_end (fun x => !lt x d1[a]!) d1 i2 j2 (Or.inr (by simp [hlv]))).symm.trans (uh HD)
     clear hl
     go_wp2_with (go_at_fn g; refine (uh HL).mono ?_; rintro e w' ⟨rfl, hS2⟩; have HS2 := zh hS2; clear hS2)
     go_meet
     case rel => exact ⟨j2, rfl, hj2, hij3, HU2, HS2⟩
   ·have hlez : decide ((i2 : Int) <= (j2 : Int)) = false := decide_eq_false (by omega)
    have HU2 : Hid (j2 = scanDown (fun x => !lt x d1[a]!) d1 i2 (b - 1)) := (scanDown_end (fun x => !lt x d1[a]!) d1 i2 j2 (Or.inl hle)).symm.trans (uh HD)
    go_wp2
    go_meet
    case rel => exact ⟨j2, rfl, hj2, hij3, HU2, HS⟩
 case rest =>
 clear HS
 obtain ⟨j2, rfl, hj2, hij3, HD, HS⟩ := hcut
 by_cases hle : j2 < i2
 ·have hlez : (j2 : Int) < (i2 : Int) := by omega
  have HV := zh (part_first_break lt d a b pivot rfl rfl (uh HD1) (uh HU) (uh HD) hle)
  obtain ⟨y2, hsw, hS2⟩ := (uh HF).swapS (uh HS) hsk j2 a (by omega) hpa
  have z1 := (uh HS).z (uh HC1) hne
  have HR : Hid (Sorts enc k w0 blk off (swp d1 j2 a) W y2) := ⟨hS2.1, (uh HK1).then hS2.2 (fun _ _ q => q)⟩
  clear hS2 HS
  go_wp2
  go_ret2
  rw [uh HV]
  exact ⟨rfl, uh HR⟩
 have hlez : ¬ (j2 : Int) < (i2 : Int) := by omega
 have hlt3 := part_scans_lt lt a (a + 1) (b - 1) d1 (by omega) (uh HU) (uh HD) (by omega)
 have HV := zh (part_first_go lt d a b pivot rfl rfl (uh HD1) (uh HU) (uh HD) (by omega))
 obtain ⟨y2, hsw, hS2⟩ := (uh HF).swapS (uh HS) hsk i2 j2 (by omega) (by omega)
 have z1 := (uh HS).z (uh HC1) hne
 have HS2 := zh hS2
 have hsk2 : (swp d1 i2 j2).size = size := by rw [size_swp]; exact hsk
 clear hS2 HS HU HD HD1
 generalize swp d1 i2 j2 = d2 at *
 clear hsk
 go_wp2_with fail
 clear hsw z1
 go_loopg [10, 11] b (fun gx vi vj y => ∃ (i j : Nat) (dk : Array α), vi = .int .i64 i /\ vj = .int .i64 j /\ a < i /\ i <= j + 1 /\ j < b /\ j + 1 - i <= gx /\ dk.size = size /\ Hid (StS enc k w0 blk off W1 dk y) /\ Hid (partLoop lt a i j dk = partLoop lt a (i2 + 1) (j2 - 1) d2))
 case atStart => exact ⟨i2 + 1, j2 - 1, d2, by go_num, by go_num, by omega, by omega, by omega, by omega, hsk2, HS2, rfl⟩
 case round =>
  revert wr
  intro wo hrel
  clear HS2 hsk2
  obtain ⟨i, j, dk, rfl, rfl, hai, hij, hjb, hgx, hsk, HS, HE⟩ := hrel
  go_upto_block 6 with fail
  go_cut [10] (fun s10 wx => ∃ p2 : Nat, s10 = .int .i64 p2 /\ i <= p2 /\ p2 <= j + 1 /\ Hid (p2 = scanUp (fun x => lt x dk[a]!) dk j i) /\ Hid (StS enc k w0 blk off W1 dk wx))
  case first =>
   go_wp2_with fail
   go_loopg [10] (j + 1 - (i)) (fun gy vi y => ∃ p2 : Nat, vi = .int .i64 p2 /\ i <= p2 /\ p2 <= j + 1 /\ j + 1 - p2 <= gy /\ Hid (StS enc k w0 blk off W1 dk y) /\ Hid (scanUp (fun x => lt x dk[a]!) dk j p2 = scanUp (fun x => lt x dk[a]!) dk j i))
   case atStart => exact ⟨i, by first | rfl | go_num, Nat.le_refl _, hij, Nat.le_refl _, HS, rfl⟩
   case round =>
    clear HS
    obtain ⟨p2, rfl, hp2, hiq2, hgy, HS, HU⟩ := hrel
    by_cases hle : p2 <= j
    ·have hlez : (p2 : Int) <= (j : Int) := by omega
     have z0 := (uh HS).z (uh HC0) hne
     have hl := (uh HF).lessS (uh HS) hsk p2 a (by omega) hpa
     cases hlv : lt dk[p2]! dk[a]! with
     | true =>
      rw [hlv] at hl
      have HL := zh hl
      have HU2 : Hid (scanUp (fun x => lt x dk[a]!) dk j (p2 + 1) = scanUp (fun x => lt x dk[a]!) dk j i) := (scanUp_go (fun x => lt x dk[a]!) dk (j) p2 hle hlv).symm.trans (uh HU)
      clear hl
      go_wp2_with (go_at_fn g; refine (uh HL).mono ?_; rintro e w' ⟨rfl, hS2⟩; have HS2 := zh hS2; clear hS2)
      go_roundg (j + 1 - (p2 + 1))
      case measure => omega
      case rel => exact ⟨p2 + 1, by go_num, by omega, by omega, Nat.le_refl _, HS2, HU2⟩
     | false =>
      rw [hlv] at hl
      have HL := zh hl
      have HU2 : Hid (p2 = scanUp (fun x => lt x dk[a]!) dk j i) := (scanUp_end (fun x => lt x dk[a]!) dk (j) p2 (Or.inr hlv)).symm.trans (uh HU)
      clear hl
      go_wp2_with (go_at_fn g; refine (uh HL).mono ?_; rintro e w' ⟨rfl, hS2⟩; have HS2 := zh hS2; clear hS2)
      go_meet
      case rel => exact ⟨p2, rfl, hp2, hiq2, HU2, HS2⟩
    ·have hlez : decide ((p2 : Int) <= (j : Int)) = false := decide_eq_false (by omega)
     have HU2 : Hid (p2 = scanUp (fun x => lt x dk[a]!) dk j i) := (scanUp_end (fun x => lt x dk[a]!) dk (j) p2 (Or.inl hle)).symm.trans (uh HU)
     go_wp2
     go_meet
     case rel => exact ⟨p2, rfl, hp2, hiq2, HU2, HS⟩
  case rest =>
  clear HS
  obtain ⟨p2, rfl, hp2, hiq2, HU, HS⟩ := hcut
  go_upto_block 8 with fail
  go_cut [11] (fun s11 wx => ∃ q2 : Nat, s11 = .int .i64 q2 /\ q2 <= j /\ p2 <= q2 + 1 /\ Hid (q2 = scanDown (fun x => !lt x dk[a]!) dk p2 j) /\ Hid (StS enc k w0 blk off W1 dk wx))
  case first =>
   go_wp2_with fail
   go_loopg [11] (j) (fun gy vj y => ∃ q2 : Nat, vj = .int .i64 q2 /\ q2 <= j /\ p2 <= q2 + 1 /\ q2 <= gy /\ Hid (StS enc k w0 blk off W1 dk y) /\ Hid (scanDown (fun x => !lt x dk[a]!) dk p2 q2 = scanDown (fun x => !lt x dk[a]!) dk p2 j))
   case atStart => exact ⟨j, by first | rfl | go_num, Nat.le_refl _, hiq2, Nat.le_refl _, HS, rfl⟩
   case round =>
    clear HS
    obtain ⟨q2, rfl, hq2, hij3, hgy, HS, HD⟩ := hrel
    by_cases hle : p2 <= q2
    ·have hlez : (p2 : Int) <= (q2 : Int) := by omega
     have z0 := (uh HS).z (uh HC0) hne
     have hl := (uh HF).lessS (uh HS) hsk q2 a (by omega) hpa
     cases hlv : lt dk[q2]! dk[a]! with
     | false =>
      rw [hlv] at hl
      have HL := zh hl
      have HU2 : Hid (scanDown (fun x => !lt x dk[a]!) dk p2 (q2 - 1) = scanDown (fun x => !lt x dk[a]!) dk p2 j) := (scanDown_go (fun x => !lt x dk[a]!) dk p2 q2 hle (by omega) (by simp [hlv])).symm.trans (uh HD)
      clear hl
      go_wp2_with (go_at_fn g; refine (uh HL).mono ?_; rintro e w' ⟨rfl, hS2⟩; have HS2 := zh hS2; clear hS2)
      go_roundg (q2 - 1)
      case measure => omega
      case rel => exact ⟨q2 - 1, by go_num, by omega, by omega, Nat.le_refl _, HS2, HU2⟩
     | true =>
      rw [hlv] at hl
      have HL := zh hl
      have HU2 : Hid (q2 = scanDown (fun x => !lt x dk[a]!) dk p2 j) := (scanDown_end (fun x => !lt x dk[a]!) dk p2 q2 (Or.inr (by simp [hlv]))).symm.trans (uh HD)
      clear hl
      go_wp2_with (go_at_fn g; refine (uh HL).mono ?_; rintro e w' ⟨rfl, hS2⟩; have HS2 := zh hS2; clear hS2)
      go_meet
      case rel => exact ⟨q2, rfl, hq2, hij3, HU2, HS2⟩
    ·have hlez : decide ((p2 : Int) <= (q2 : Int)) = false := decide_eq_false (by omega)
     have HU2 : Hid (q2 = scanDown (fun x => !lt x dk[a]!) dk p2 j) := (scanDown_end (fun x => !lt x dk[a]!) dk p2 q2 (Or.inl hle)).symm.trans (uh HD)
     go_wp2
     go_meet
     case rel => exact ⟨q2, rfl, hq2, hij3, HU2, HS⟩
  case rest =>
  clear HS
  obtain ⟨q2, rfl, hq2, hij3, HD, HS⟩ := hcut
  by_cases hle2 : q2 < p2
  ·have hlez2 : (q2 : Int) < (p2 : Int) := by omega
   have HV2 : Hid (partition lt d a b pivot = (q2, false, swp dk q2 a)) := by
    unfold Hid
    rw [uh HV, <- uh HE, part_break lt a i j dk (uh HU) (uh HD) hle2]
   obtain ⟨y3, hsw, hS2⟩ := (uh HF).swapS (uh HS) hsk q2 a (by omega) hpa
   have z1 := (uh HS).z (uh HC1) hne
   have HR : Hid (Sorts enc k w0 blk off (swp dk q2 a) W y3) := ⟨hS2.1, (uh HK1).then hS2.2 (fun _ _ q => q)⟩
   clear hS2 HS
   go_wp2
   go_ret2
   rw [uh HV2]
   exact ⟨rfl, uh HR⟩
  ·have hlez2 : ¬ (q2 : Int) < (p2 : Int) := by omega
   have hlt4 := part_scans_lt lt a i j dk (by omega) (uh HU) (uh HD) (by omega)
   obtain ⟨y3, hsw, hS2⟩ := (uh HF).swapS (uh HS) hsk p2 q2 (by omega) (by omega)
   have z1 := (uh HS).z (uh HC1) hne
   have HS2 := zh hS2
   have HE2 : Hid (partLoop lt a (p2 + 1) (q2 - 1) (swp dk p2 q2) = partLoop lt a (i2 + 1) (j2 - 1) d2) := (part_go lt a i j dk (uh HU) (uh HD) (by omega)).symm.trans (uh HE)
   clear hS2 HS
   go_wp2
   go_roundg (q2 - 1 + 1 - (p2 + 1))
   case measure => omega
   case rel => exact ⟨p2 + 1, q2 - 1, swp dk p2 q2, by go_num, by go_num, by omega, by omega, by omega, Nat.le_refl _, by rw [size_swp]; exact hsk, HS2, HE2⟩
end Go.Proofs.YtfoojmflbifkpaaGreatDoor
