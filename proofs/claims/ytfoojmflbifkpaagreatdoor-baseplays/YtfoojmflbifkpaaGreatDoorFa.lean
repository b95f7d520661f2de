/- Texts of one proof, one behind the other. -/
import Derived.Test.YtfoojmflbifkpaaGreatDoorEb
import Derived.Shelf.SlSortFuncK.SWK
import Derived.Sort.WalkA
set_option maxRecDepth 100000
set_option maxHeartbeats 16000000
namespace Go.Proofs.YtfoojmflbifkpaaGreatDoor
open Go.RowKit Go.Maps Go.Shelf Go.Sort
section
variable {α : Type} [Inhabited α]
def LessLays (g : Nat) (lb : Array Value) (enc : α -> List Value) (k : Nat) (lt : α -> α -> Bool) (blk off size : Nat) (w0 : World) : Prop :=
 ∀ (W : World) (dk : Array α), SWK enc k w0 blk off dk W -> dk.size = size -> ∀ i j : Nat, i < size -> j < size ->
  Calls Tryz.prog g (#[.int .i64 i, .int .i64 j] ++ lb) W fun e w' => e = .returned (.bool (lt dk[i]! dk[j]!)) /\ SWK enc k w0 blk off dk w' /\ Below W.heap.size W w'
def Sorts (enc : α -> List Value) (k : Nat) (w0 : World) (blk off : Nat) (d' : Array α) (W W' : World) : Prop := SWK enc k w0 blk off d' W' /\ Keeps (fun i => i = blk) W W'
def dataV (g sf : Nat) (lb sb : Array Value) : Value := .agg #[.func (.func g) #[] lb, .func (.func sf) #[] sb]
theorem swap_keeps {W : World} {blk o1 o2 : Nat} {l1 l2 : List Value} : Keeps (fun i => i = blk) W ((W.setCells blk o1 l1).setCells blk o2 l2) := by
 have one : ∀ (V : World) (o : Nat) (l : List Value), Keeps (fun i => i = blk) V (V.setCells blk o l) := fun V o l => by
  induction l generalizing V o with
  | nil => exact Keeps.refl _ _
  | cons v l ih =>
   have h1 : Keeps (fun i => i = blk) V (V.setCell ⟨blk, o, none⟩ v) := keeps_set V blk o v
   exact h1.then (ih _ _) (fun i _ q => q)
 exact (one W o1 l1).then (one _ o2 l2) (fun i _ q => q)
end
end Go.Proofs.YtfoojmflbifkpaaGreatDoor

namespace Go.Proofs.YtfoojmflbifkpaaGreatDoor
open Go.RowKit Go.Maps Go.Shelf Go.Sort
def natV : Value -> Nat
 | .int _ n => n.toNat
 | _ => 0
structure Fam {α : Type} [Inhabited α] (g sf : Nat) (lb sb : Array Value) (enc : α -> List Value) (k : Nat) (lt : α -> α -> Bool) (blk off size : Nat) (w0 : World) (d0 : Array α) : Prop where
 hk : ∀ x, (enc x).length = k
 eg : ∀ args w, (callFunc g args).run Tryz.prog w = .ok (.enter g args) w
 less : LessLays g lb enc k lt blk off size w0
 swap : SwapSwapsK Tryz.prog sf sb enc k blk off size
 holds : HoldsK enc k w0 blk off d0
 size0 : d0.size = size
 lt0 : blk < w0.heap.size
 sz : size < 4611686018427387904
theorem ins_func {α : Type} [Inhabited α] {g sf : Nat} {lb sb : Array Value} {enc : α -> List Value} {k : Nat} {lt : α -> α -> Bool} {blk off size : Nat} {w0 : World} {d0 : Array α} (f : Fam g sf lb sb enc k lt blk off size w0 d0) (W : World) (d : Array α) (h : SWK enc k w0 blk off d W) (hd : d.size = size) (a b : Nat) (hab : a <= b) (hb : b <= size) :
  Calls Tryz.prog 217 #[dataV g sf lb sb, .int .i64 a, .int .i64 b] W fun e w' => e = .returned (.tuple #[]) /\ Sorts enc k w0 blk off (Sort.insertionSort lt d a b) W w' := by
 have eg := f.eg
 have hsz := f.sz
 have hbl := h.lt f.lt0
 have HF := zh f
 have HB0 := zh (below_box W (.cells #[.func (.func g) #[] lb, .func (.func sf) #[] sb] 245))
 have HS1 := zh (h.alloc (.cells #[.func (.func g) #[] lb, .func (.func sf) #[] sb] 245))
 have c0 : (W.alloc (.cells #[.func (.func g) #[] lb, .func (.func sf) #[] sb] 245)).cell? ⟨W.heap.size, 0, none⟩ = some (.func (.func g) #[] lb) := by simp
 have c1 : (W.alloc (.cells #[.func (.func g) #[] lb, .func (.func sf) #[] sb] 245)).cell? ⟨W.heap.size, 1, none⟩ = some (.func (.func sf) #[] sb) := by simp
 have HC0 := zh c0
 have HC1 := zh c1
 have HK1 := zh (Keeps.of_below (fun i => i = blk) (uh HB0) zr)
 clear h f c0 c1 HB0
 unfold dataV
 go_enter Tryz.func217, Tryz.ntmps217
 go_wp2
 generalize W.alloc (.cells #[.func (.func g) #[] lb, .func (.func sf) #[] sb] 245) = W1 at *
 go_loopw [6] (fun vi y => ∃ (i : Nat) (dk : Array α), vi = .int .i64 i /\ a < i /\ i <= b + 1 /\ dk.size = size /\ SWK enc k w0 blk off dk y /\ Keeps (fun i => i = blk) W1 y /\ insOuter lt a b i dk = insOuter lt a b (a + 1) d) (fun vi _ => b + 1 - natV vi)
 case atStart => exact ⟨a + 1, d, by go_num, by omega, by omega, hd, uh HS1, Keeps.refl _ _, rfl⟩
 case round =>
  revert wr
  intro wo hrel
  obtain ⟨i, dk, rfl, hai, hib, hsk, hS, hKp, hO⟩ := hrel
  have HO := zh hO
  have HSo := zh hS
  have HKo := zh hKp
  clear hO hS hKp HS1
  by_cases hlt : i < b
  ·have hlt' : (i : Int) < (b : Int) := by omega
   go_wp2
   go_loopw [7] (fun vj y => ∃ (j : Nat) (dj : Array α), vj = .int .i64 j /\ a <= j /\ j <= i /\ dj.size = size /\ SWK enc k w0 blk off dj y /\ Keeps (fun i => i = blk) W1 y /\ insInner lt a j dj = insInner lt a i dk) (fun vj _ => natV vj)
   case atStart => exact ⟨i, dk, rfl, by omega, Nat.le_refl _, hsk, uh HSo, uh HKo, rfl⟩
   case round =>
    clear HSo HKo
    obtain ⟨j, dj, rfl, haj, hji, hsj, hS, hKp, hI⟩ := hrel
    have HI := zh hI
    have HS := zh hS
    have HKp := zh hKp
    clear hI hS hKp
    have hne : ¬ W.heap.size = blk := by omega
    have z0 := ((uh HKp).cell (p := ⟨W.heap.size, 0, none⟩) (lt_of_cell (uh HC0)) hne).trans (uh HC0)
    by_cases hja : a < j
    ·have hja' : (a : Int) < (j : Int) := by omega
     have hl := (uh HF).less wr dj (uh HS) hsj j (j - 1) (by omega) (by omega)
     rw [show (((j - 1 : Nat) : Int)) = (j : Int) - 1 by omega] at hl
     cases hlv : lt dj[j]! dj[j - 1]! with
     | true =>
      rw [hlv] at hl
      have HL := zh hl
      clear hl
      go_wp2_with (go_at_fn g; refine (uh HL).mono ?_; rintro e w' ⟨rfl, hS2, hB2⟩; have z1 := (hB2.cell (p := ⟨W.heap.size, 1, none⟩) (Nat.lt_of_lt_of_le (lt_of_cell (uh HC1)) (uh HKp).size)).trans (((uh HKp).cell (p := ⟨W.heap.size, 1, none⟩) (lt_of_cell (uh HC1)) hne).trans (uh HC1)))
      have hs := (uh HF).swap w' dj (hS2.holds (uh HF).lt0 (uh HF).holds (by rw [hsj]; exact (uh HF).size0.symm)) hsj j (j - 1) (by omega) (by omega)
      rw [show (((j - 1 : Nat) : Int)) = (j : Int) - 1 by omega] at hs
      have HS3 := zh (hS2.swap (uh HF).hk (uh HF).lt0 j (j - 1) (by omega) (by omega))
      have HK3 : Hid (Keeps (fun i => i = blk) W1 ((w'.setCells blk (off + j * k) (enc dj[j - 1]!)).setCells blk (off + (j - 1) * k) (enc dj[j]!))) := ((uh HKp).then (Keeps.of_below (fun i => i = blk) hB2 zr) (fun i _ q => q)).then swap_keeps (fun i _ q => q)
      rw [hs, Oper.upon_value]
      clear hs hS2 hB2 HL z0 z1 HS HKp
      generalize (w'.setCells blk (off + j * k) (enc dj[j - 1]!)).setCells blk (off + (j - 1) * k) (enc dj[j]!) = w3 at *
      go_wp2
      go_roundw
      case rel =>
       refine ⟨j - 1, swp dj j (j - 1), by congr 1 <;> omega, by omega, by omega, by rw [size_swp]; exact hsj, uh HS3, uh HK3, ?_⟩
       rw [<- uh HI, insInner_go lt a j dj hja hlv]
      case measure => simp [natV]; omega
     | false =>
      rw [hlv] at hl
      have HL := zh hl
      have HE : Hid (insOuter lt a b (i + 1) dj = insOuter lt a b (a + 1) d) := by
       unfold Hid
       rw [<- uh HO, insOuter_go _ _ _ _ _ hlt, <- uh HI, insInner_stop _ _ _ _ (Or.inr hlv)]
      clear hl
      go_wp2_with (go_at_fn g; refine (uh HL).mono ?_; rintro e w' ⟨rfl, hS2, hB2⟩)
      have HK3 : Hid (Keeps (fun i => i = blk) W1 w') := (uh HKp).then (Keeps.of_below (fun i => i = blk) hB2 zr) (fun i _ q => q)
      go_roundw
      case rel => exact ⟨i + 1, dj, by go_num, by omega, by omega, hsj, hS2, uh HK3, uh HE⟩
      case measure => simp [natV]; omega
    ·have hja' : ¬ (a : Int) < (j : Int) := by omega
     have hjd : decide ((a : Int) < (j : Int)) = false := decide_eq_false hja'
     have HE : Hid (insOuter lt a b (i + 1) dj = insOuter lt a b (a + 1) d) := by
      unfold Hid
      rw [<- uh HO, insOuter_go _ _ _ _ _ hlt, <- uh HI, insInner_stop _ _ _ _ (Or.inl (by omega))]
     go_wp2
     go_roundw
     case rel => exact ⟨i + 1, dj, by go_num, by omega, by omega, hsj, uh HS, uh HKp, uh HE⟩
     case measure => simp [natV]; omega
  ·have hlt' : ¬ (i : Int) < (b : Int) := by omega
   have HR : Hid (Sorts enc k w0 blk off (Sort.insertionSort lt d a b) W wo) := by
    refine ⟨?_, (uh HK1).then (uh HKo) (fun i _ q => q)⟩
    unfold Sort.insertionSort
    rw [<- uh HO, insOuter_stop _ _ _ _ _ hlt]
    exact uh HSo
   go_wp2
   (try simp only [Exit.inBlock, Exit.then])
   refine bodyPost_end (results_none rfl _ _ _) rfl ?_
   exact ⟨rfl, uh HR⟩
structure Cnt (w0 : World) (sw n : Nat) (W : World) : Prop where
 new : w0.heap.size <= sw
 lt : sw < W.heap.size
 cell : W.cell? ⟨sw, 0, none⟩ = some (.int .i64 (n : Nat))
 free : W.frozen? ⟨sw, 0, none⟩ = false
theorem Cnt.below {w0 W W' : World} {sw n : Nat} (h : Cnt w0 sw n W) (hb : Below W.heap.size W W') : Cnt w0 sw n W' := by
 refine ⟨h.new, Nat.lt_of_lt_of_le h.lt hb.size, (hb.cell (p := ⟨sw, 0, none⟩) h.lt).trans h.cell, ?_⟩
 have e := hb.block sw h.lt
 have f := h.free
 unfold World.frozen? at f ⊢
 rw [e]
 exact f
theorem Cnt.set {w0 W : World} {sw n : Nat} (h : Cnt w0 sw n W) (m : Nat) : Cnt w0 sw m (W.setCell ⟨sw, 0, none⟩ (.int .i64 (m : Nat))) :=
 ⟨h.new, by have := h.lt; simpa using this, World.cell?_setCell_same _ _ _ h.cell, by rw [World.frozen?_setCell]; exact h.free⟩
def Mids {α : Type} [Inhabited α] (enc : α -> List Value) (k : Nat) (w0 : World) (blk off : Nat) (d : Array α) (sw n : Nat) (W W' : World) : Prop := SWK enc k w0 blk off d W' /\ Keeps (fun i => i = sw) W W' /\ Cnt w0 sw n W'
theorem order2_func {α : Type} [Inhabited α] {g sf : Nat} {lb sb : Array Value} {enc : α -> List Value} {k : Nat} {lt : α -> α -> Bool} {blk off size : Nat} {w0 : World} {d0 : Array α} (f : Fam g sf lb sb enc k lt blk off size w0 d0) (W : World) (d : Array α) (h : SWK enc k w0 blk off d W) (hd : d.size = size) (a b : Nat) (ha : a < size) (hb : b < size) (sw n : Nat) (hc : Cnt w0 sw n W) (hn : n <= 1000) :
  Calls Tryz.prog 288 #[dataV g sf lb sb, .int .i64 a, .int .i64 b, .pointer (some ⟨sw, 0, none⟩)] W fun e w' => e = .returned (.tuple #[.int .i64 ((order2 lt d a b n).1 : Nat), .int .i64 ((order2 lt d a b n).2.1 : Nat)]) /\ Mids enc k w0 blk off d sw (order2 lt d a b n).2.2 W w' := by
 have eg := f.eg
 have hsz := f.sz
 have HB0 := zh (below_box W (.cells #[.func (.func g) #[] lb, .func (.func sf) #[] sb] 245))
 have hS1 := h.alloc (.cells #[.func (.func g) #[] lb, .func (.func sf) #[] sb] 245)
 have HC1 := zh (hc.below (uh HB0))
 have c0 : (W.alloc (.cells #[.func (.func g) #[] lb, .func (.func sf) #[] sb] 245)).cell? ⟨W.heap.size, 0, none⟩ = some (.func (.func g) #[] lb) := by simp
 have hl := f.less _ d hS1 hd b a hb ha
 clear h hS1 hc f
 unfold dataV
 cases hlv : lt d[b]! d[a]! with
 | true =>
  rw [hlv] at hl
  have HL := zh hl
  have HE : Hid (order2 lt d a b n = (b, a, n + 1)) := by unfold Hid order2; rw [hlv]; rfl
  clear hl
  go_enter Tryz.func288, Tryz.ntmps288
  go_wp2_with (go_at_fn g; refine (uh HL).mono ?_; rintro e w' ⟨rfl, hS2, hB2⟩; have HC2 := zh ((uh HC1).below hB2); have cc := (uh HC2).cell; have ff := (uh HC2).free)
  have HM : Hid (Mids enc k w0 blk off d sw (n + 1) W (w'.setCell ⟨sw, 0, none⟩ (.int .i64 ((n : Int) + 1)))) :=
   ⟨hS2.setCell_new sw 0 _ (uh HC2).new, (Keeps.of_below (fun i => i = sw) ((uh HB0).trans (hB2.mono (uh HB0).size)) zr).then (keeps_set w' sw 0 _) (fun i _ q => q), (uh HC2).set (n + 1)⟩
  go_ret2
  rw [uh HE]
  exact ⟨rfl, uh HM⟩
 | false =>
  rw [hlv] at hl
  have HL := zh hl
  have HE : Hid (order2 lt d a b n = (a, b, n)) := by unfold Hid order2; rw [hlv]; rfl
  clear hl
  go_enter Tryz.func288, Tryz.ntmps288
  go_wp2_with (go_at_fn g; refine (uh HL).mono ?_; rintro e w' ⟨rfl, hS2, hB2⟩)
  have HM : Hid (Mids enc k w0 blk off d sw n W w') :=
   ⟨hS2, Keeps.of_below (fun i => i = sw) ((uh HB0).trans (hB2.mono (uh HB0).size)) zr, (uh HC1).below hB2⟩
  go_ret2
  rw [uh HE]
  exact ⟨rfl, uh HM⟩
theorem order2_in {α : Type} [Inhabited α] {lt : α -> α -> Bool} {d : Array α} {a b n size : Nat} (ha : a < size) (hb : b < size) : (order2 lt d a b n).1 < size /\ (order2 lt d a b n).2.1 < size /\ (order2 lt d a b n).2.2 <= n + 1 := by
 unfold order2
 split
 ·exact ⟨hb, ha, Nat.le_refl _⟩
 ·exact ⟨ha, hb, Nat.le_succ _⟩
theorem Mids.then {α : Type} [Inhabited α] {enc : α -> List Value} {k : Nat} {w0 : World} {blk off : Nat} {d : Array α} {sw n n' : Nat} {W W' W'' : World} (h : Mids enc k w0 blk off d sw n W W') (h' : Mids enc k w0 blk off d sw n' W' W'') : Mids enc k w0 blk off d sw n' W W'' := ⟨h'.1, h.2.1.then h'.2.1 (fun _ _ q => q), h'.2.2⟩
theorem median_func {α : Type} [Inhabited α] {g sf : Nat} {lb sb : Array Value} {enc : α -> List Value} {k : Nat} {lt : α -> α -> Bool} {blk off size : Nat} {w0 : World} {d0 : Array α} (f : Fam g sf lb sb enc k lt blk off size w0 d0) (W : World) (d : Array α) (h : SWK enc k w0 blk off d W) (hd : d.size = size) (a b c : Nat) (ha : a < size) (hb : b < size) (hc : c < size) (sw n : Nat) (hn0 : Cnt w0 sw n W) (hn : n <= 900) :
  Calls Tryz.prog 272 #[dataV g sf lb sb, .int .i64 a, .int .i64 b, .int .i64 c, .pointer (some ⟨sw, 0, none⟩)] W fun e w' => e = .returned (.int .i64 ((median lt d a b c n).1 : Nat)) /\ Mids enc k w0 blk off d sw (median lt d a b c n).2 W w' := by
 have hswl := hn0.lt
 have hb1 := below_box W (.cells #[.func (.func g) #[] lb, .func (.func sf) #[] sb] 245)
 have hM0 : Mids enc k w0 blk off d sw n W (W.alloc (.cells #[.func (.func g) #[] lb, .func (.func sf) #[] sb] 245)) := ⟨h.alloc _, Keeps.of_below _ hb1 zr, hn0.below hb1⟩
 have c0 : (W.alloc (.cells #[.func (.func g) #[] lb, .func (.func sf) #[] sb] 245)).cell? ⟨W.heap.size, 0, none⟩ = some (.func (.func g) #[] lb) := by simp
 have c1 : (W.alloc (.cells #[.func (.func g) #[] lb, .func (.func sf) #[] sb] 245)).cell? ⟨W.heap.size, 1, none⟩ = some (.func (.func sf) #[] sb) := by simp
 obtain ⟨x1, x2, x3⟩ := order2_in (lt := lt) (d := d) (n := n) ha hb
 have hE1 : median lt d a b c n = ((order2 lt d (order2 lt d a b n).1 (order2 lt d (order2 lt d a b n).2.1 c (order2 lt d a b n).2.2).1 (order2 lt d (order2 lt d a b n).2.1 c (order2 lt d a b n).2.2).2.2).2.1, (order2 lt d (order2 lt d a b n).1 (order2 lt d (order2 lt d a b n).2.1 c (order2 lt d a b n).2.2).1 (order2 lt d (order2 lt d a b n).2.1 c (order2 lt d a b n).2.2).2.2).2.2) := rfl
 have HE := zh hE1
 have HO1 := zh (order2_func f _ d hM0.1 hd a b ha hb sw n hM0.2.2 (by omega))
 have HO2 := zh (fun V (hM : Mids enc k w0 blk off d sw (order2 lt d a b n).2.2 W V) => order2_func f V d hM.1 hd (order2 lt d a b n).2.1 c x2 hc sw (order2 lt d a b n).2.2 hM.2.2 (by omega))
 obtain ⟨y1, y2, y3⟩ := order2_in (lt := lt) (d := d) (n := (order2 lt d a b n).2.2) x2 hc
 have HO3 := zh (fun V (hM : Mids enc k w0 blk off d sw (order2 lt d (order2 lt d a b n).2.1 c (order2 lt d a b n).2.2).2.2 W V) => order2_func f V d hM.1 hd (order2 lt d a b n).1 (order2 lt d (order2 lt d a b n).2.1 c (order2 lt d a b n).2.2).1 x1 y1 sw (order2 lt d (order2 lt d a b n).2.1 c (order2 lt d a b n).2.2).2.2 hM.2.2 (by omega))
 have HM0 := zh hM0
 have hne : ¬ W.heap.size = sw := by omega
 have HC0 := zh c0
 have HC1 := zh c1
 clear h hn0 hb1 hM0 f hE1
 unfold dataV at HO1 HO2 HO3 ⊢
 go_enter Tryz.func272, Tryz.ntmps272
 go_wp2_with fail
 generalize W.alloc (.cells #[.func (.func g) #[] lb, .func (.func sf) #[] sb] 245) = W1 at *
 refine (uh HO1).mono ?_
 rintro e W2 ⟨rfl, m2⟩
 have z0 := (m2.2.1.cell (p := ⟨W.heap.size, 0, none⟩) (lt_of_cell (uh HC0)) hne).trans (uh HC0)
 have z1 := (m2.2.1.cell (p := ⟨W.heap.size, 1, none⟩) (lt_of_cell (uh HC1)) hne).trans (uh HC1)
 have HZ0 := zh z0
 have HZ1 := zh z1
 have HM2 := zh ((uh HM0).then m2)
 have HO2' := zh (uh HO2 W2 (uh HM2))
 clear m2 HO1 HO2 c0 c1 HC0 HC1
 generalize order2 lt d a b n = r1 at *
 go_wp2_with fail
 refine (uh HO2').mono ?_
 rintro e W3 ⟨rfl, m3⟩
 have y0 := (m3.2.1.cell (p := ⟨W.heap.size, 0, none⟩) (lt_of_cell (uh HZ0)) hne).trans (uh HZ0)
 have y1' := (m3.2.1.cell (p := ⟨W.heap.size, 1, none⟩) (lt_of_cell (uh HZ1)) hne).trans (uh HZ1)
 have HM3 := zh ((uh HM2).then m3)
 have HO3' := zh (uh HO3 W3 (uh HM3))
 clear m3 HO2' HO3 z0 z1 HZ0 HZ1
 generalize order2 lt d r1.2.1 c r1.2.2 = r2 at *
 go_wp2_with fail
 refine (uh HO3').mono ?_
 rintro e W4 ⟨rfl, m4⟩
 have HM4 := zh ((uh HM3).then m4)
 clear m4 HO3' y0 y1'
 generalize order2 lt d r1.1 r2.1 r2.2.2 = r3 at *
 go_wp2
 go_ret
 rw [uh HE]
 exact ⟨rfl, uh HM4⟩
theorem medianAdj_func {α : Type} [Inhabited α] {g sf : Nat} {lb sb : Array Value} {enc : α -> List Value} {k : Nat} {lt : α -> α -> Bool} {blk off size : Nat} {w0 : World} {d0 : Array α} (f : Fam g sf lb sb enc k lt blk off size w0 d0) (W : World) (d : Array α) (h : SWK enc k w0 blk off d W) (hd : d.size = size) (a : Nat) (ha : 1 <= a) (hb : a + 1 < size) (sw n : Nat) (hn0 : Cnt w0 sw n W) (hn : n <= 900) :
  Calls Tryz.prog 271 #[dataV g sf lb sb, .int .i64 a, .pointer (some ⟨sw, 0, none⟩)] W fun e w' => e = .returned (.int .i64 ((medianAdjacent lt d a n).1 : Nat)) /\ Mids enc k w0 blk off d sw (medianAdjacent lt d a n).2 W w' := by
 have hsz := f.sz
 have hb1 := below_box W (.cells #[.func (.func g) #[] lb, .func (.func sf) #[] sb] 245)
 have hM0 : Mids enc k w0 blk off d sw n W (W.alloc (.cells #[.func (.func g) #[] lb, .func (.func sf) #[] sb] 245)) := ⟨h.alloc _, Keeps.of_below _ hb1 zr, hn0.below hb1⟩
 have hm := median_func f _ d hM0.1 hd (a - 1) a (a + 1) (by omega) (by omega) hb sw n hM0.2.2 hn
 rw [show ((a - 1 : Nat) : Int) = (a : Int) - 1 by omega, show ((a + 1 : Nat) : Int) = (a : Int) + 1 by omega] at hm
 have HO := zh hm
 have HM0 := zh hM0
 have ha4 : a < 4611686018427387904 := by omega
 have hs1 : (1 : Int) <= (a : Int) := by omega
 clear h hn0 hb1 hM0 f hm
 unfold dataV at HO ⊢
 go_enter Tryz.func271, Tryz.ntmps271
 go_wp2_with fail
 refine (uh HO).mono ?_
 rintro e W2 ⟨rfl, m2⟩
 have HM2 := zh ((uh HM0).then m2)
 clear m2 HO
 go_wp2
 go_ret
 exact ⟨rfl, uh HM2⟩
end Go.Proofs.YtfoojmflbifkpaaGreatDoor
