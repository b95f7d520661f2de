/- Texts of one proof, one behind the other. -/
import Derived.Test.YtfoojmflbifkpaaGreatDoorFa
import Derived.Sort.WalkB2
import Derived.Deep.DeepCutAuto
import Derived.Sort.WalkB3
import Derived.Sort.LotD4
import Derived.Sort.LotD1
set_option maxRecDepth 100000
set_option maxHeartbeats 16000000
namespace Go.Proofs.YtfoojmflbifkpaaGreatDoor
open Go.RowKit Go.Maps Go.Shelf Go.Sort
def Child {α : Type} [Inhabited α] (lt : α -> α -> Bool) (hi first root : Nat) (d : Array α) (c : Nat) : Prop :=
 (c = 2 * root + 2 /\ 2 * root + 2 < hi /\ lt d[first + (2 * root + 1)]! d[first + (2 * root + 2)]! = true) \/ (c = 2 * root + 1 /\ 2 * root + 1 < hi /\ (2 * root + 2 < hi -> lt d[first + (2 * root + 1)]! d[first + (2 * root + 2)]! = false))
theorem child_stop {α : Type} [Inhabited α] {lt : α -> α -> Bool} {hi first root c : Nat} {d : Array α} (h : Child lt hi first root d c) (hl : lt d[first + root]! d[first + c]! = false) : siftDown lt hi first root d = d := by
 rcases h with ⟨rfl, h1, h2⟩ | ⟨rfl, h1, h2⟩
 ·exact sd_right_stop lt d h1 h2 hl
 ·exact sd_left_stop lt d h1 h2 hl
theorem child_go {α : Type} [Inhabited α] {lt : α -> α -> Bool} {hi first root c : Nat} {d : Array α} (h : Child lt hi first root d c) (hl : lt d[first + root]! d[first + c]! = true) : siftDown lt hi first root d = siftDown lt hi first c (swp d (first + root) (first + c)) := by
 rcases h with ⟨rfl, h1, h2⟩ | ⟨rfl, h1, h2⟩
 ·exact sd_right_go lt d h1 h2 hl
 ·exact sd_left_go lt d h1 h2 hl
theorem child_in {α : Type} [Inhabited α] {lt : α -> α -> Bool} {hi first root c : Nat} {d : Array α} (h : Child lt hi first root d c) : c < hi /\ root < c := by
 rcases h with ⟨rfl, h1, _⟩ | ⟨rfl, h1, _⟩ <;> omega
theorem sift_func {α : Type} [Inhabited α] {g sf : Nat} {lb sb : Array Value} {enc : α -> List Value} {k : Nat} {lt : α -> α -> Bool} {blk off size : Nat} {w0 : World} {d0 : Array α} (f : Fam g sf lb sb enc k lt blk off size w0 d0) (W : World) (d : Array α) (h : SWK enc k w0 blk off d W) (hd : d.size = size) (lo hi first : Nat) (hlo : lo <= hi) (hb : first + hi <= size) :
  Calls Tryz.prog 268 #[dataV g sf lb sb, .int .i64 lo, .int .i64 hi, .int .i64 first] W fun e w' => e = .returned (.tuple #[]) /\ Sorts enc k w0 blk off (siftDown lt hi first lo d) W w' := by
 have eg := f.eg
 have hsz := f.sz
 have hbl := h.lt f.lt0
 have HF := zh f
 have HB0 := zh (below_box W (.cells #[.func (.func g) #[] lb, .func (.func sf) #[] sb] 245))
 have HS1 := zh (h.alloc (.cells #[.func (.func g) #[] lb, .func (.func sf) #[] sb] 245))
 have c0 : (W.alloc (.cells #[.func (.func g) #[] lb, .func (.func sf) #[] sb] 245)).cell? ⟨W.heap.size, 0, none⟩ = some (.func (.func g) #[] lb) := by simp
 have c1 : (W.alloc (.cells #[.func (.func g) #[] lb, .func (.func sf) #[] sb] 245)).cell? ⟨W.heap.size, 1, none⟩ = some (.func (.func sf) #[] sb) := by simp
 have HC0 := zh c0
 have HC1 := zh c1
 have HK1 := zh (Keeps.of_below (fun i => i = blk) (uh HB0) zr)
 clear h f c0 c1 HB0
 have hne : ¬ W.heap.size = blk := by omega
 unfold dataV
 go_enter Tryz.func268, Tryz.ntmps268
 go_wp2
 generalize W.alloc (.cells #[.func (.func g) #[] lb, .func (.func sf) #[] sb] 245) = W1 at *
 go_loopw [8] (fun vi y => ∃ (root : Nat) (dk : Array α), vi = .int .i64 root /\ root <= hi /\ dk.size = size /\ SWK enc k w0 blk off dk y /\ Keeps (fun i => i = blk) W1 y /\ siftDown lt hi first root dk = siftDown lt hi first lo d) (fun vi _ => hi - natV vi)
 case atStart => exact ⟨lo, d, rfl, hlo, hd, uh HS1, Keeps.refl _ _, rfl⟩
 case round =>
  revert wr
  intro wo hrel
  obtain ⟨root, dk, rfl, hr, hsk, hS, hKp, hO⟩ := hrel
  have HO := zh hO
  have HSo := zh hS
  have HKo := zh hKp
  clear hO hS hKp HS1
  by_cases h0 : hi <= 2 * root + 1
  ·have h0z : (hi : Int) <= 2 * (root : Int) + 1 := by omega
   have HR : Hid (Sorts enc k w0 blk off (siftDown lt hi first lo d) W wo) := by
    refine ⟨?_, (uh HK1).then (uh HKo) (fun _ _ q => q)⟩
    rw [<- uh HO, sd_end lt dk h0]
    exact uh HSo
   go_wp2
   (try simp only [Exit.inBlock, Exit.then])
   refine bodyPost_end (results_none rfl _ _ _) rfl ?_
   exact ⟨rfl, uh HR⟩
  ·have h0z : ¬ (hi : Int) <= 2 * (root : Int) + 1 := by omega
   have z0 := ((uh HKo).cell (p := ⟨W.heap.size, 0, none⟩) (lt_of_cell (uh HC0)) hne).trans (uh HC0)
   go_upto_region 4 with fail
   go_cut [32] (fun s32 wx => ∃ bb : Bool, s32 = .bool bb /\ (bb = true -> 2 * root + 2 < hi /\ lt dk[first + (2 * root + 1)]! dk[first + (2 * root + 2)]! = true) /\ (bb = false -> 2 * root + 2 < hi -> lt dk[first + (2 * root + 1)]! dk[first + (2 * root + 2)]! = false) /\ SWK enc k w0 blk off dk wx /\ Keeps (fun i => i = blk) W1 wx)
   case first =>
    by_cases h1 : 2 * root + 2 < hi
    ·have h1z : 2 * (root : Int) + 1 + 1 < (hi : Int) := by omega
     have hl := (uh HF).less wo dk (uh HSo) hsk (first + (2 * root + 1)) (first + (2 * root + 2)) (by omega) (by omega)
     rw [show ((first + (2 * root + 1) : Nat) : Int) = (first : Int) + (2 * (root : Int) + 1) by omega, show ((first + (2 * root + 2) : Nat) : Int) = (first : Int) + (2 * (root : Int) + 1) + 1 by omega] at hl
     have HL := zh hl
     clear hl
     go_wp2_with (go_at_fn g; refine (uh HL).mono ?_; rintro e w' ⟨rfl, hS2, hB2⟩)
     go_meet
     case rel => exact ⟨_, rfl, fun q => ⟨h1, q⟩, fun q _ => q, hS2, (uh HKo).then (Keeps.of_below (fun i => i = blk) hB2 zr) (fun _ _ q => q)⟩
    ·have h1z : decide (2 * (root : Int) + 1 + 1 < (hi : Int)) = false := decide_eq_false (by omega)
     go_wp2
     go_meet
     case rel => exact ⟨false, rfl, fun q => (by cases q), fun _ q => absurd q h1, uh HSo, uh HKo⟩
   case rest =>
    obtain ⟨bb, rfl, ht, hf, hS, hKp⟩ := hcut
    have HT := zh ht
    have HFf := zh hf
    have HS := zh hS
    have HKq := zh hKp
    clear ht hf hS hKp HSo HKo z0
    go_upto_if 32 with fail
    go_cut [9] (fun s9 wx => ∃ c : Nat, s9 = .int .i64 c /\ Child lt hi first root dk c /\ SWK enc k w0 blk off dk wx /\ Keeps (fun i => i = blk) W1 wx)
    case first =>
     cases bb with
     | true =>
      go_wp2
      go_meet
      case rel => exact ⟨2 * root + 2, by go_num, .inl ⟨rfl, (uh HT (by first | rfl | trivial)).1, (uh HT (by first | rfl | trivial)).2⟩, uh HS, uh HKq⟩
     | false =>
      go_wp2
      go_meet
      case rel => exact ⟨2 * root + 1, by go_num, .inr ⟨rfl, by omega, uh HFf (by first | rfl | trivial)⟩, uh HS, uh HKq⟩
    case rest =>
    clear HS HKq HT HFf
    obtain ⟨c, rfl, hch, hS, hKp⟩ := hcut
    have hci := child_in hch
    have HCh := zh hch
    have y0 := (hKp.cell (p := ⟨W.heap.size, 0, none⟩) (lt_of_cell (uh HC0)) hne).trans (uh HC0)
    have hl := (uh HF).less wc dk hS hsk (first + root) (first + c) (by omega) (by omega)
    rw [show ((first + root : Nat) : Int) = (first : Int) + (root : Int) by omega, show ((first + c : Nat) : Int) = (first : Int) + (c : Int) by omega] at hl
    have HKp := zh hKp
    have hfb : first + hi < 4611686018427387904 := by omega
    clear hch hS hKp
    cases hlv : lt dk[first + root]! dk[first + c]! with
    | true =>
     rw [hlv] at hl
     have HL := zh hl
     clear hl
     go_wp2_with (go_at_fn g; refine (uh HL).mono ?_; rintro e w' ⟨rfl, hS2, hB2⟩; have z1 := (hB2.cell (p := ⟨W.heap.size, 1, none⟩) (Nat.lt_of_lt_of_le (lt_of_cell (uh HC1)) (uh HKp).size)).trans (((uh HKp).cell (p := ⟨W.heap.size, 1, none⟩) (lt_of_cell (uh HC1)) hne).trans (uh HC1)))
     have hs := (uh HF).swap w' dk (hS2.holds (uh HF).lt0 (uh HF).holds (by rw [hsk]; exact (uh HF).size0.symm)) hsk (first + root) (first + c) (by omega) (by omega)
     rw [show ((first + root : Nat) : Int) = (first : Int) + (root : Int) by omega, show ((first + c : Nat) : Int) = (first : Int) + (c : Int) by omega] at hs
     have HS3 := zh (hS2.swap (uh HF).hk (uh HF).lt0 (first + root) (first + c) (by omega) (by omega))
     have HK3 : Hid (Keeps (fun i => i = blk) W1 ((w'.setCells blk (off + (first + root) * k) (enc dk[first + c]!)).setCells blk (off + (first + c) * k) (enc dk[first + root]!))) := ((uh HKp).then (Keeps.of_below (fun i => i = blk) hB2 zr) (fun _ _ q => q)).then swap_keeps (fun _ _ q => q)
     rw [hs, Oper.upon_value]
     clear hs hS2 hB2 HL y0 z1 HKp
     generalize (w'.setCells blk (off + (first + root) * k) (enc dk[first + c]!)).setCells blk (off + (first + c) * k) (enc dk[first + root]!) = w3 at *
     go_wp2
     go_roundw
     case rel => exact ⟨c, swp dk (first + root) (first + c), rfl, by omega, by rw [size_swp]; exact hsk, uh HS3, uh HK3, by rw [<- uh HO, child_go (uh HCh) hlv]⟩
     case measure => simp [natV]; omega
    | false =>
     rw [hlv] at hl
     have HL := zh hl
     clear hl
     go_wp2_with (go_at_fn g; refine (uh HL).mono ?_; rintro e w' ⟨rfl, hS2, hB2⟩)
     have HR : Hid (Sorts enc k w0 blk off (siftDown lt hi first lo d) W w') := by
      refine ⟨?_, (uh HK1).then ((uh HKp).then (Keeps.of_below (fun i => i = blk) hB2 zr) (fun _ _ q => q)) (fun _ _ q => q)⟩
      rw [<- uh HO, child_stop (uh HCh) hlv]
      exact hS2
     refine bodyPost_ret (v := .tuple #[]) (results_none rfl _ _ _) rfl ?_
     exact ⟨rfl, uh HR⟩
def downV : Nat -> Value
 | 0 => .int .i64 (-1)
 | n + 1 => .int .i64 (n : Nat)
def downN : Value -> Nat
 | .int _ z => (z + 1).toNat
 | _ => 0
theorem downV_of (n : Nat) (z : Int) (h : z = (n : Int) - 1) : Value.int .i64 z = downV n := by
 subst h
 cases n with
 | zero => rfl
 | succ n => show Value.int .i64 _ = Value.int .i64 _; congr 1; omega
theorem heap_func {α : Type} [Inhabited α] {g sf : Nat} {lb sb : Array Value} {enc : α -> List Value} {k : Nat} {lt : α -> α -> Bool} {blk off size : Nat} {w0 : World} {d0 : Array α} (f : Fam g sf lb sb enc k lt blk off size w0 d0) (W : World) (d : Array α) (h : SWK enc k w0 blk off d W) (hd : d.size = size) (a b : Nat) (hab : a <= b) (hb : b <= size) :
  Calls Tryz.prog 218 #[dataV g sf lb sb, .int .i64 a, .int .i64 b] W fun e w' => e = .returned (.tuple #[]) /\ Sorts enc k w0 blk off (heapSort lt d a b) W w' := by
 have hsz := f.sz
 have hbl := h.lt f.lt0
 have HF := zh f
 have HB0 := zh (below_box W (.cells #[.func (.func g) #[] lb, .func (.func sf) #[] sb] 245))
 have HS1 := zh (h.alloc (.cells #[.func (.func g) #[] lb, .func (.func sf) #[] sb] 245))
 have c0 : (W.alloc (.cells #[.func (.func g) #[] lb, .func (.func sf) #[] sb] 245)).cell? ⟨W.heap.size, 0, none⟩ = some (.func (.func g) #[] lb) := by simp
 have c1 : (W.alloc (.cells #[.func (.func g) #[] lb, .func (.func sf) #[] sb] 245)).cell? ⟨W.heap.size, 1, none⟩ = some (.func (.func sf) #[] sb) := by simp
 have HC0 := zh c0
 have HC1 := zh c1
 have HK1 := zh (Keeps.of_below (fun i => i = blk) (uh HB0) zr)
 clear h f c0 c1 HB0
 have hne : ¬ W.heap.size = blk := by omega
 have ecast : ((b - a : Nat) : Int) = (b : Int) - (a : Int) := by omega
 unfold dataV
 go_enter Tryz.func218, Tryz.ntmps218
 go_wp2
 generalize W.alloc (.cells #[.func (.func g) #[] lb, .func (.func sf) #[] sb] 245) = W1 at *
 go_loopw [9] (fun vi y => ∃ (n : Nat) (dk : Array α), vi = downV n /\ n <= (b - a - 1) / 2 + 1 /\ dk.size = size /\ SWK enc k w0 blk off dk y /\ Keeps (fun i => i = blk) W1 y /\ heapBuild lt (b - a) a n dk = heapBuild lt (b - a) a ((b - a - 1) / 2 + 1) d) (fun vi _ => downN vi)
 case atStart => exact ⟨(b - a - 1) / 2 + 1, d, downV_of _ _ (half_start hab), Nat.le_refl _, hd, uh HS1, Keeps.refl _ _, rfl⟩
 case round =>
  revert wr
  intro wo hrel
  obtain ⟨n, dk, rfl, hn, hsk, hS, hKp, hO⟩ := hrel
  have HO := zh hO
  have HSo := zh hS
  have HKo := zh hKp
  clear hO hS hKp HS1
  cases n with
  | zero =>
   dsimp only [downV]
   go_wp2
   go_loopw [10] (fun vi y => ∃ (n : Nat) (dj : Array α), vi = downV n /\ n <= b - a /\ dj.size = size /\ SWK enc k w0 blk off dj y /\ Keeps (fun i => i = blk) W1 y /\ heapPop lt a n dj = heapPop lt a (b - a) dk) (fun vi _ => downN vi)
   case atStart => exact ⟨b - a, dk, downV_of _ _ (by rw [ecast]), Nat.le_refl _, hsk, uh HSo, uh HKo, rfl⟩
   case round =>
    clear HSo HKo
    obtain ⟨n, dj, rfl, hn2, hsj, hS, hKp, hP⟩ := hrel
    have HP := zh hP
    have HS := zh hS
    have HKp := zh hKp
    clear hP hS hKp
    cases n with
    | zero =>
     dsimp only [downV]
     have HR : Hid (Sorts enc k w0 blk off (heapSort lt d a b) W wr) := by
      refine ⟨?_, (uh HK1).then (uh HKp) (fun _ _ q => q)⟩
      have e : dj = heapSort lt d a b := by
       unfold heapSort
       rw [<- uh HO]
       exact uh HP
      rw [<- e]
      exact uh HS
     go_wp2
     (try simp only [Exit.inBlock, Exit.then])
     refine bodyPost_end (results_none rfl _ _ _) rfl ?_
     exact ⟨rfl, uh HR⟩
    | succ n =>
     dsimp only [downV]
     have z0 := ((uh HKp).cell (p := ⟨W.heap.size, 0, none⟩) (lt_of_cell (uh HC0)) hne).trans (uh HC0)
     have z1 := ((uh HKp).cell (p := ⟨W.heap.size, 1, none⟩) (lt_of_cell (uh HC1)) hne).trans (uh HC1)
     have hs := (uh HF).swap wr dj ((uh HS).holds (uh HF).lt0 (uh HF).holds (by rw [hsj]; exact (uh HF).size0.symm)) hsj a (a + n) (by omega) (by omega)
     rw [show ((a + n : Nat) : Int) = (a : Int) + (n : Int) by omega] at hs
     have hS3 := (uh HS).swap (uh HF).hk (uh HF).lt0 a (a + n) (by omega) (by omega)
     have hK3 : Keeps (fun i => i = blk) W1 ((wr.setCells blk (off + a * k) (enc dj[a + n]!)).setCells blk (off + (a + n) * k) (enc dj[a]!)) := (uh HKp).then swap_keeps (fun _ _ q => q)
     have y0 := (hK3.cell (p := ⟨W.heap.size, 0, none⟩) (lt_of_cell (uh HC0)) hne).trans (uh HC0)
     have y1 := (hK3.cell (p := ⟨W.heap.size, 1, none⟩) (lt_of_cell (uh HC1)) hne).trans (uh HC1)
     generalize (wr.setCells blk (off + a * k) (enc dj[a + n]!)).setCells blk (off + (a + n) * k) (enc dj[a]!) = w3 at *
     have hd3 : (swp dj a (a + n)).size = size := by rw [size_swp]; exact hsj
     have HL := zh (sift_func (uh HF) w3 (swp dj a (a + n)) hS3 hd3 0 n a (by omega) (by omega))
     have HK3 := zh hK3
     clear hS3 hK3 HKp HS
     unfold dataV at HL
     go_wp2_with fail
     refine (uh HL).mono ?_
     rintro e w' ⟨rfl, hS4⟩
     have HS4 := zh hS4
     clear hS4
     go_wp2
     have HK5 := zh ((uh HK3).then (uh HS4).2 (fun _ _ q => q))
     go_roundw
     case rel =>
      exact ⟨n, _, downV_of _ _ (by omega), by omega, by rw [size_siftDown lt _ _ _ _ _ zr]; exact hd3, (uh HS4).1, uh HK5, by rw [<- uh HP]; rfl⟩
     case measure => show ((n : Int) - 1 + 1).toNat < ((n : Int) + 1).toNat; omega
  | succ n =>
   dsimp only [downV]
   have z0 := ((uh HKo).cell (p := ⟨W.heap.size, 0, none⟩) (lt_of_cell (uh HC0)) hne).trans (uh HC0)
   have z1 := ((uh HKo).cell (p := ⟨W.heap.size, 1, none⟩) (lt_of_cell (uh HC1)) hne).trans (uh HC1)
   have hl := sift_func (uh HF) wo dk (uh HSo) hsk n (b - a) a (by omega) (by omega)
   rw [ecast] at hl
   unfold dataV at hl
   have HL := zh hl
   clear hl
   go_wp2_with fail
   refine (uh HL).mono ?_
   rintro e w' ⟨rfl, hS4⟩
   have HS4 := zh hS4
   clear hS4
   go_wp2
   have HK5 := zh ((uh HKo).then (uh HS4).2 (fun _ _ q => q))
   go_roundw
   case rel =>
    exact ⟨n, _, downV_of _ _ (by omega), by omega, by rw [size_siftDown lt _ _ _ _ _ zr]; exact hsk, (uh HS4).1, uh HK5, by rw [<- uh HO]; rfl⟩
   case measure => show ((n : Int) - 1 + 1).toNat < ((n : Int) + 1).toNat; omega
theorem hint_of (s : Nat) : (s = 0 -> hintCode (hintOf s) = 1) /\ (s = 12 -> hintCode (hintOf s) = 2) /\ (s ≠ 0 -> s ≠ 12 -> hintCode (hintOf s) = 0) := by
 refine ⟨fun h => by rw [h]; rfl, fun h => by rw [h]; rfl, fun h g => ?_⟩
 unfold hintOf
 rw [if_neg h, if_neg g]
 rfl
theorem eq_of_beqI {x y : Int} (h : (x == y) = true) : x = y := by simpa using h
theorem ne_of_beqI {x y : Int} (h : (x == y) = false) : x ≠ y := by simpa using h
theorem Mids.sorts {α : Type} [Inhabited α] {enc : α -> List Value} {k : Nat} {w0 : World} {blk off : Nat} {d : Array α} {sw n : Nat} {W W' : World} (h : Mids enc k w0 blk off d sw n W W') (hs : W.heap.size <= sw) : Sorts enc k w0 blk off d W W' :=
 ⟨h.1, h.2.1.mono fun i hi q => by omega⟩
theorem choose_func {α : Type} [Inhabited α] {g sf : Nat} {lb sb : Array Value} {enc : α -> List Value} {k : Nat} {lt : α -> α -> Bool} {blk off size : Nat} {w0 : World} {d0 : Array α} (f : Fam g sf lb sb enc k lt blk off size w0 d0) (W : World) (d : Array α) (h : SWK enc k w0 blk off d W) (hd : d.size = size) (a b : Nat) (hab : a < b) (hb : b <= size) :
    Calls Tryz.prog 220 #[dataV g sf lb sb, .int .i64 a, .int .i64 b] W fun e w' => e = .returned (.tuple #[.int .i64 ((choosePivot lt d a b).1 : Nat), .int .i64 (hintCode (choosePivot lt d a b).2)]) /\ Sorts enc k w0 blk off d W w' := by
  have hsz := f.sz
  have hb1 := below_box W (.cells #[.func (.func g) #[] lb, .func (.func sf) #[] sb] 245)
  have hb2 := below_box (W.alloc (.cells #[.func (.func g) #[] lb, .func (.func sf) #[] sb] 245)) (.cells #[.int .i64 0] 3)
  have hM0 : Mids enc k w0 blk off d (W.heap.size + 1) 0 W ((W.alloc (.cells #[.func (.func g) #[] lb, .func (.func sf) #[] sb] 245)).alloc (.cells #[.int .i64 0] 3)) := by
    refine ⟨(h.alloc _).alloc _, (Keeps.of_below _ hb1 zr).then (Keeps.of_below _ hb2 zr) (fun _ _ q => q), ?_, by simp, ?_, ?_⟩
    · exact Nat.le_succ_of_le h.le
    · rw [World.cell?_alloc_at _ _ _ _ (by simp)]; rfl
    · exact World.frozen?_alloc_at _ _ _ _ (by simp)
  have c0 : ((W.alloc (.cells #[.func (.func g) #[] lb, .func (.func sf) #[] sb] 245)).alloc (.cells #[.int .i64 0] 3)).cell? ⟨W.heap.size, 0, none⟩ = some (.func (.func g) #[] lb) := by rw [World.cell?_alloc_past _ _ _ (by simp)]; simp
  have c1 : ((W.alloc (.cells #[.func (.func g) #[] lb, .func (.func sf) #[] sb] 245)).alloc (.cells #[.int .i64 0] 3)).cell? ⟨W.heap.size, 1, none⟩ = some (.func (.func sf) #[] sb) := by rw [World.cell?_alloc_past _ _ _ (by simp)]; simp
  have HC0 := zh c0
  have HC1 := zh c1
  have HM0 := zh hM0
  have HF := zh f
  have hne : ¬ W.heap.size = W.heap.size + 1 := by omega
  have hsw : W.heap.size <= W.heap.size + 1 := by omega
  clear h f hb1 hb2 hM0 c0 c1
  rw [choosePivot_eq]
  obtain ⟨I, hI⟩ : ∃ I : Nat, I = a + (b - a) / 4 * 1 := ⟨_, rfl⟩
  obtain ⟨J, hJ⟩ : ∃ J : Nat, J = a + (b - a) / 4 * 2 := ⟨_, rfl⟩
  obtain ⟨K, hK⟩ : ∃ K : Nat, K = a + (b - a) / 4 * 3 := ⟨_, rfl⟩
  have eI : ((a : Int) + ((b : Int) - (a : Int)) / 4) = (I : Int) := by omega
  have eJ : ((a : Int) + ((b : Int) - (a : Int)) / 4 * 2) = (J : Int) := by omega
  have eK : ((a : Int) + ((b : Int) - (a : Int)) / 4 * 3) = (K : Int) := by omega
  unfold dataV
  by_cases h8 : b - a ≥ 8
  · have h8z : (8 : Int) <= (b : Int) - (a : Int) := by omega
    by_cases h50 : b - a ≥ 50
    · have h50z : (50 : Int) <= (b : Int) - (a : Int) := by omega
      obtain ⟨i1, s1, h1⟩ : ∃ i1 s1, medianAdjacent lt d I 0 = (i1, s1) := ⟨_, _, rfl⟩
      obtain ⟨j1, s2, h2⟩ : ∃ j1 s2, medianAdjacent lt d J s1 = (j1, s2) := ⟨_, _, rfl⟩
      obtain ⟨k1, s3, h3⟩ : ∃ k1 s3, medianAdjacent lt d K s2 = (k1, s3) := ⟨_, _, rfl⟩
      obtain ⟨p, s, h4⟩ : ∃ p s, median lt d i1 j1 k1 s3 = (p, s) := ⟨_, _, rfl⟩
      have hraw : rawPivot lt d a b = (p, s) := by simp only [rawPivot, if_pos h8, if_pos h50, <- hI, <- hJ, <- hK, h1, h2, h3, h4]
      have m1 := medianAdjacent_mem lt d I 0
      have m2 := medianAdjacent_mem lt d J s1
      have m3 := medianAdjacent_mem lt d K s2
      have n1 := medianAdjacent_count lt d I 0
      have n2 := medianAdjacent_count lt d J s1
      have n3 := medianAdjacent_count lt d K s2
      rw [h1] at m1 n1
      rw [h2] at m2 n2
      rw [h3] at m3 n3
      simp only [] at m1 m2 m3 n1 n2 n3
      have HA1 := zh (fun V (hM : Mids enc k w0 blk off d (W.heap.size + 1) 0 W V) => medianAdj_func (uh HF) V d hM.1 hd I (by omega) (by omega) (W.heap.size + 1) 0 hM.2.2 (by omega))
      have HA2 := zh (fun V (hM : Mids enc k w0 blk off d (W.heap.size + 1) s1 W V) => medianAdj_func (uh HF) V d hM.1 hd J (by omega) (by omega) (W.heap.size + 1) s1 hM.2.2 (by omega))
      have HA3 := zh (fun V (hM : Mids enc k w0 blk off d (W.heap.size + 1) s2 W V) => medianAdj_func (uh HF) V d hM.1 hd K (by omega) (by omega) (W.heap.size + 1) s2 hM.2.2 (by omega))
      have HA4 := zh (fun V (hM : Mids enc k w0 blk off d (W.heap.size + 1) s3 W V) => median_func (uh HF) V d hM.1 hd i1 j1 k1 (by omega) (by omega) (by omega) (W.heap.size + 1) s3 hM.2.2 (by omega))
      rw [h1] at HA1
      rw [h2] at HA2
      rw [h3] at HA3
      rw [h4] at HA4
      rw [hraw]
      unfold dataV at HA1 HA2 HA3 HA4
      have HN := zh (hint_of s)
      clear h1 h2 h3 h4 hI hJ hK m1 m2 m3 hraw n1 n2 n3
      go_enter Tryz.func220, Tryz.ntmps220
      go_wp2_with fail
      generalize (W.alloc (.cells #[.func (.func g) #[] lb, .func (.func sf) #[] sb] 245)).alloc (.cells #[.int .i64 0] 3) = W1 at *
      refine (uh HA1 _ (uh HM0)).mono ?_
      rintro e W2 ⟨rfl, m2⟩
      have z0 := (m2.2.1.cell (p := ⟨W.heap.size, 0, none⟩) (lt_of_cell (uh HC0)) hne).trans (uh HC0)
      have z1 := (m2.2.1.cell (p := ⟨W.heap.size, 1, none⟩) (lt_of_cell (uh HC1)) hne).trans (uh HC1)
      have HZ0 := zh z0
      have HZ1 := zh z1
      have HM2 := zh ((uh HM0).then m2)
      clear m2 HA1 HM0 HC0 HC1
      go_wp2_with fail
      refine (uh HA2 _ (uh HM2)).mono ?_
      rintro e W3 ⟨rfl, m3⟩
      have y0 := (m3.2.1.cell (p := ⟨W.heap.size, 0, none⟩) (lt_of_cell (uh HZ0)) hne).trans (uh HZ0)
      have y1 := (m3.2.1.cell (p := ⟨W.heap.size, 1, none⟩) (lt_of_cell (uh HZ1)) hne).trans (uh HZ1)
      have HY0 := zh y0
      have HY1 := zh y1
      have HM3 := zh ((uh HM2).then m3)
      clear m3 HA2 HM2 HZ0 HZ1 z0 z1
      go_wp2_with fail
      refine (uh HA3 _ (uh HM3)).mono ?_
      rintro e W4 ⟨rfl, m4⟩
      have x0 := (m4.2.1.cell (p := ⟨W.heap.size, 0, none⟩) (lt_of_cell (uh HY0)) hne).trans (uh HY0)
      have x1 := (m4.2.1.cell (p := ⟨W.heap.size, 1, none⟩) (lt_of_cell (uh HY1)) hne).trans (uh HY1)
      have HM4 := zh ((uh HM3).then m4)
      clear m4 HA3 HM3 HY0 HY1 y0 y1
      go_wp2_with fail
      refine (uh HA4 _ (uh HM4)).mono ?_
      rintro e W5 ⟨rfl, m5⟩
      have HR := zh (((uh HM4).then m5).sorts hsw)
      have cc := m5.2.2.cell
      clear m5 HA4 HM4 x0 x1
      go_wp2
      all_goals
        go_ret2
        refine ⟨?_, uh HR⟩
        first
          | (have e0 : (s : Int) = 0 := eq_of_beqI (by assumption)
             rw [(uh HN).1 (by omega)]; rfl)
          | (have e1 : (s : Int) = 12 := eq_of_beqI (by assumption)
             rw [(uh HN).2.1 (by omega)]; rfl)
          | (have e0 : (s : Int) ≠ 0 := ne_of_beqI (by assumption)
             have e1 : (s : Int) ≠ 12 := ne_of_beqI (by assumption)
             rw [(uh HN).2.2 (by omega) (by omega)]; rfl)
          | (rw [(uh HN).1 (by omega)]; rfl)
    · have h50z : ¬ (50 : Int) <= (b : Int) - (a : Int) := by omega
      obtain ⟨p, s, h4⟩ : ∃ p s, median lt d I J K 0 = (p, s) := ⟨_, _, rfl⟩
      have hraw : rawPivot lt d a b = (p, s) := by simp only [rawPivot, if_pos h8, if_neg h50, <- hI, <- hJ, <- hK, h4]
      have HA4 := zh (fun V (hM : Mids enc k w0 blk off d (W.heap.size + 1) 0 W V) => median_func (uh HF) V d hM.1 hd I J K (by omega) (by omega) (by omega) (W.heap.size + 1) 0 hM.2.2 (by omega))
      rw [h4] at HA4
      rw [hraw]
      unfold dataV at HA4
      have HN := zh (hint_of s)
      clear h4 hI hJ hK hraw
      go_enter Tryz.func220, Tryz.ntmps220
      go_wp2_with fail
      generalize (W.alloc (.cells #[.func (.func g) #[] lb, .func (.func sf) #[] sb] 245)).alloc (.cells #[.int .i64 0] 3) = W1 at *
      refine (uh HA4 _ (uh HM0)).mono ?_
      rintro e W5 ⟨rfl, m5⟩
      have HR := zh (((uh HM0).then m5).sorts hsw)
      have cc := m5.2.2.cell
      clear m5 HA4
      go_wp2
      all_goals
        go_ret2
        refine ⟨?_, uh HR⟩
        first
          | (have e0 : (s : Int) = 0 := eq_of_beqI (by assumption)
             rw [(uh HN).1 (by omega)]; rfl)
          | (have e1 : (s : Int) = 12 := eq_of_beqI (by assumption)
             rw [(uh HN).2.1 (by omega)]; rfl)
          | (have e0 : (s : Int) ≠ 0 := ne_of_beqI (by assumption)
             have e1 : (s : Int) ≠ 12 := ne_of_beqI (by assumption)
             rw [(uh HN).2.2 (by omega) (by omega)]; rfl)
          | (rw [(uh HN).1 (by omega)]; rfl)
  · have h8z : ¬ (8 : Int) <= (b : Int) - (a : Int) := by omega
    have hraw : rawPivot lt d a b = (J, 0) := by simp only [rawPivot, if_neg h8, <- hJ]
    rw [hraw]
    have HR := zh ((uh HM0).sorts hsw)
    clear hI hJ hK hraw
    go_enter Tryz.func220, Tryz.ntmps220
    go_wp2
    go_ret2
    exact ⟨rfl, uh HR⟩
end Go.Proofs.YtfoojmflbifkpaaGreatDoor
