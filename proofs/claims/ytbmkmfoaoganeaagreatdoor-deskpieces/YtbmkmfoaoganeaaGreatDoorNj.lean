/- Texts of one proof, one behind the other. -/
import Derived.Test.YtbmkmfoaoganeaaGreatDoorNi
import Derived.Test.YtbmkmfoaoganeaaGreatDoorShelfC
import Derived.Test.YtbmkmfoaoganeaaGreatDoorNa
import Derived.Test.YtbmkmfoaoganeaaGreatDoorNg
set_option maxRecDepth 100000
set_option maxHeartbeats 16000000
namespace Go.Proofs.YtbmkmfoaoganeaaGreatDoor
open Go.RowKit Go.Maps
theorem text_clone (s : ByteArray) (w : World) (h : s.size <= 281474976710656) : Calls Tryz.prog 254 #[.string s] w fun e w' => e = .returned (.string s) /\ Below w.heap.size w w' := by
 have HC := zh (AnyPu.stringslite_Clone Tryz.clone25 s w h)
 go_enter Tryz.func254, Tryz.ntmps254
 go_wp2_with fail
 refine (uh HC).mono ?_
 rintro e w1 ⟨rfl, hb⟩
 have HB := zh hb
 clear hb
 go_wp2
 go_ret
 exact ⟨rfl, uh HB⟩
theorem line_new (w : World) : LineW ((w.alloc (.map #[] 0)).alloc (.cells #[.map (some w.heap.size), .map none, .pointer none, .int .i64 0] 205)) (w.heap.size + 1) [] 0 (fun i => i = w.heap.size \/ i = w.heap.size + 1) := by
 have e1 : (w.alloc (.map #[] 0)).heap.size = w.heap.size + 1 := by simp
 have b2 := below_box (w.alloc (.map #[] 0)) (.cells #[.map (some w.heap.size), .map none, .pointer none, .int .i64 0] 205)
 refine ⟨w.heap.size, .map [], (· = w.heap.size + 1), ⟨?_, ?_, ?_, ?_, keysV_none, by omega, fun i hi => .inr hi, .inl rfl, fun i hi => ?_⟩⟩
 ·rw [<- e1]
  exact pt_new (by simp) (by simp) (fun i => by simp)
 ·rw [<- e1]; simp
 ·rw [<- e1]; simp
 ·exact (World.ownsMap_made w Tryz.prog 3 verElem).alloc _
 ·have : ((w.alloc (.map #[] 0)).alloc (.cells #[.map (some w.heap.size), .map none, .pointer none, .int .i64 0] 205)).heap.size = w.heap.size + 2 := by simp
  omega
theorem PastX.add {w W3 : World} {P : Pl} {now known : Int} {m : Nat} {X : List (Ky × Nat)} {Ln : Nat -> List Ver × Int} {Fs : Nat -> Nat -> Prop} (h : PastX w P now known (some m) X Ln Fs) (k : Ky) (hk : KyOk k) (hn : ∀ x, x ∈ X -> x.1 ≠ k)
  {n : Nat} {D : DataW Unit} (hKD : KeysL D X) (ht : Tidy D) (hturn : World.mapTurned ((w.alloc (.map #[] 0)).alloc (.cells #[.map (some w.heap.size), .map none, .pointer none, .int .i64 0] 205)) W3 m)
  (hown : W3.ownsMap Tryz.prog 73 ptrElem m n (D.put (litK k) (.lit (.int .i64 (((w.heap.size + 1 : Nat) : Int) + 1))))) :
  PastX W3 P now known (some m) ((k, w.heap.size + 1) :: X) (upd Ln (w.heap.size + 1) ([], 0)) (upd Fs (w.heap.size + 1) (fun i => i = w.heap.size \/ i = w.heap.size + 1)) /\
  Grew w (pastF P (some m) X Fs) (pastF P (some m) ((k, w.heap.size + 1) :: X) (upd Fs (w.heap.size + 1) (fun i => i = w.heap.size \/ i = w.heap.size + 1))) W3 := by
 have bb : Below w.heap.size w ((w.alloc (.map #[] 0)).alloc (.cells #[.map (some w.heap.size), .map none, .pointer none, .int .i64 0] 205)) := (below_box w _).trans ((below_box _ _).mono (by simp))
 have h2 := h.below bb
 have hl := line_new w
 have hk3 := turned_keeps hturn
 have hmw := h.mlt rfl
 have hPw := h.Plt
 have hmP := h.mP rfl
 have sz : ((w.alloc (.map #[] 0)).alloc (.cells #[.map (some w.heap.size), .map none, .pointer none, .int .i64 0] 205)).heap.size = w.heap.size + 2 := by simp
 have hx2 : ∀ x, x ∈ X -> x.2 < w.heap.size := fun x hx => (h.line x hx).lt _ (h.line x hx).fb
 have hlt : ∀ x, x ∈ X -> ∀ i, Fs x.2 i -> i < w.heap.size := fun x hx => (h.line x hx).lt
 have hne : ∀ x, x ∈ X -> x.2 ≠ w.heap.size + 1 := fun x hx => by have := hx2 x hx; omega
 have hmo := ownsMap_size hown
 have hKn := hKD.add ht k (w.heap.size + 1) hk hn
 rw [hKn.size] at hmo
 refine ⟨⟨(hk3.cell (p := ⟨P.b, P.o, none⟩) h2.Plt (fun e => hmP e.symm)).trans h2.c0, (hk3.cell (p := ⟨P.b, P.o + 1, none⟩) h2.Plt (fun e => hmP e.symm)).trans h2.c1, (hk3.cell (p := ⟨P.b, P.o + 2, none⟩) h2.Plt (fun e => hmP e.symm)).trans h2.c2, fun i => (hk3.frozen (p := ⟨P.b, i, none⟩) h2.Plt (fun e => hmP e.symm)).trans (h2.f i), .inr ⟨m, _, rfl, hmo, hKn⟩, List.Pairwise.cons (fun x hx e => hn x hx e.symm) h.keys, List.Pairwise.cons (fun x hx e => hne x hx e.symm) h.blocks, fun x hx => ?_, fun x y hx hy hxy i hi hi' => ?_, fun x hx hi => ?_, fun x hx m' e hi => ?_, fun i hi => (hk3.cell (p := ⟨P.b, i, none⟩) h2.Plt (fun e => hmP e.symm)).trans (h2.rest i hi)⟩, fun i hi => ?_, ?_⟩
 ·rcases List.mem_cons.1 hx with rfl | hx
  ·rw [upd_same, upd_same]
   exact hl.keeps hk3 (fun i hi e => by omega)
  ·rw [upd_other _ _ (hne x hx), upd_other _ _ (hne x hx)]
   exact (h2.line x hx).keeps hk3 (fun i hi e => h.nm x hx m rfl (by rw [<- e]; exact hi))
 ·rcases List.mem_cons.1 hx with rfl | hx
  ·rcases List.mem_cons.1 hy with rfl | hy
   ·exact hxy rfl
   ·rw [upd_same] at hi
    rw [upd_other _ _ (hne y hy)] at hi'
    have := hlt y hy i hi'
    omega
  ·rcases List.mem_cons.1 hy with rfl | hy
   ·rw [upd_same] at hi'
    rw [upd_other _ _ (hne x hx)] at hi
    have := hlt x hx i hi
    omega
   ·rw [upd_other _ _ (hne x hx)] at hi
    rw [upd_other _ _ (hne y hy)] at hi'
    exact h.apart x y hx hy hxy i hi hi'
 ·rcases List.mem_cons.1 hx with rfl | hx
  ·rw [upd_same] at hi
   omega
  ·rw [upd_other _ _ (hne x hx)] at hi
   exact h.nP x hx hi
 ·cases e
  rcases List.mem_cons.1 hx with rfl | hx
  ·rw [upd_same] at hi
   omega
  ·rw [upd_other _ _ (hne x hx)] at hi
   exact h.nm x hx m rfl hi
 ·rcases hi with q | q | ⟨x, hx, q⟩
  ·exact .inl (.inl q)
  ·exact .inl (.inr (.inl q))
  ·rcases List.mem_cons.1 hx with rfl | hx
   ·rw [upd_same] at q
    exact .inr (by omega)
   ·rw [upd_other _ _ (hne x hx)] at q
    exact .inl (.inr (.inr ⟨x, hx, q⟩))
 ·exact (Keeps.of_below _ bb zr).then hk3 (fun i _ e => .inr (.inl (by rw [e])))
theorem lines_is (m : Nat) (w : World) : (binOp .eql 126 (.map (some m)) (.map none)).run Tryz.prog w = .ok (.bool false) w := by kernel_rfl
theorem lines_not (w : World) : (binOp .eql 126 (.map none) (.map none)).run Tryz.prog w = .ok (.bool true) w := by kernel_rfl
def Begun (w : World) (P : Pl) (now known : Int) (mv : Option Nat) (X : List (Ky × Nat)) (Ln : Nat -> List Ver × Int) (Fs : Nat -> Nat -> Prop) (k : Ky) (w' : World) : Prop :=
 ∃ m lb F0, PastX w' P now known (some m) ((k, lb) :: X) (upd Ln lb ([], 0)) (upd Fs lb F0) /\ Grew w (pastF P mv X Fs) (pastF P (some m) ((k, lb) :: X) (upd Fs lb F0)) w'
structure BoxK (bx : Nat) (k : Ky) (x : World) : Prop where
 c0 : x.cell? ⟨bx, 0, none⟩ = some (.int .i64 k.kind)
 c1 : x.cell? ⟨bx, 1, none⟩ = some (.int .i64 k.a)
 c2 : x.cell? ⟨bx, 2, none⟩ = some (.string k.word)
 c3 : x.cell? ⟨bx, 3, none⟩ = some (.int .i64 k.b)
 f : ∀ i, x.frozen? ⟨bx, i, none⟩ = false
theorem BoxK.lt {bx : Nat} {k : Ky} {x : World} (h : BoxK bx k x) : bx < x.heap.size := lt_of_cell h.c0
theorem BoxK.keeps {bx : Nat} {k : Ky} {x y : World} {F : Nat -> Prop} (h : BoxK bx k x) (hk : Keeps F x y) (hf : ¬ F bx) : BoxK bx k y :=
 ⟨(hk.cell (p := ⟨bx, 0, none⟩) h.lt hf).trans h.c0, (hk.cell (p := ⟨bx, 1, none⟩) h.lt hf).trans h.c1, (hk.cell (p := ⟨bx, 2, none⟩) h.lt hf).trans h.c2, (hk.cell (p := ⟨bx, 3, none⟩) h.lt hf).trans h.c3, fun i => (hk.frozen (p := ⟨bx, i, none⟩) h.lt hf).trans (h.f i)⟩
theorem BoxK.below {bx : Nat} {k : Ky} {x y : World} (h : BoxK bx k x) (hb : Below x.heap.size x y) : BoxK bx k y := h.keeps (Keeps.of_below (fun _ => False) hb zr) (fun f => f)
theorem boxK_new (w : World) (k : Ky) : BoxK w.heap.size k (w.alloc (.cells #[.int .i64 k.kind, .int .i64 k.a, .string k.word, .int .i64 k.b] 73)) := ⟨by simp, by simp, by simp, by simp, fun i => by simp⟩
theorem BoxK.word {bx : Nat} {k : Ky} {x : World} (h : BoxK bx k x) : BoxK bx k (x.setCell ⟨bx, 2, none⟩ (.string k.word)) :=
 ⟨by rw [zo _ _ _ _ (by simp)]; exact h.c0, by rw [zo _ _ _ _ (by simp)]; exact h.c1, zs _ _ _ h.c2, by rw [zo _ _ _ _ (by simp)]; exact h.c3, fun i => by rw [World.frozen?_setCell]; exact h.f i⟩
def MkS (P : Pl) (m bx : Nat) (k : Ky) (x : World) : Prop := x.cell? ⟨P.b, P.o + 2, none⟩ = some (.map (some m)) /\ x.cell? ⟨bx, 0, none⟩ = some (.int .i64 k.kind) /\ x.cell? ⟨bx, 1, none⟩ = some (.int .i64 k.a) /\ x.cell? ⟨bx, 2, none⟩ = some (.string k.word) /\ x.cell? ⟨bx, 3, none⟩ = some (.int .i64 k.b)
theorem MkS.carry {P : Pl} {m bx : Nat} {k : Ky} {x y : World} (h : MkS P m bx k x) (hb : Below x.heap.size x y) : MkS P m bx k y :=
 ⟨(hb.cell (p := ⟨P.b, P.o + 2, none⟩) (lt_of_cell h.1)).trans h.1, (hb.cell (p := ⟨bx, 0, none⟩) (lt_of_cell h.2.1)).trans h.2.1, (hb.cell (p := ⟨bx, 1, none⟩) (lt_of_cell h.2.2.1)).trans h.2.2.1, (hb.cell (p := ⟨bx, 2, none⟩) (lt_of_cell h.2.2.2.1)).trans h.2.2.2.1, (hb.cell (p := ⟨bx, 3, none⟩) (lt_of_cell h.2.2.2.2)).trans h.2.2.2.2⟩
theorem Grew.new {a b c : World} {F F' H : Nat -> Prop} (h : Grew a F F' b) (hk : Keeps H b c) (hH : ∀ i, H i -> a.heap.size <= i) : Grew a F F' c :=
 ⟨h.1, h.2.then hk (fun i hi q => by have := hH i q; omega)⟩
theorem past_begin {w : World} {P : Pl} {now known : Int} {mv : Option Nat} {X : List (Ky × Nat)} {Ln : Nat -> List Ver × Int} {Fs : Nat -> Nat -> Prop} (h : PastX w P now known mv X Ln Fs) (k : Ky) (hk : KyOk k) (hn : ∀ x, x ∈ X -> x.1 ≠ k) (hs : k.word.size <= 281474976710656) (hl : X.length < 100000) :
  Calls Tryz.prog 251 #[.pointer (some ⟨P.b, P.o, none⟩), .agg #[.int .i64 k.kind, .int .i64 k.a, .string k.word, .int .i64 k.b]] w fun e w' => e = .returned (.tuple #[]) /\ Begun w P now known mv X Ln Fs k w' := by
 have HC := zh (fun W => text_clone k.word W hs)
 have HB0 := zh (below_box w (.cells #[.int .i64 k.kind, .int .i64 k.a, .string k.word, .int .i64 k.b] 73))
 have HK0 := zh (boxK_new w k)
 have HP0 := zh (h.below (uh HB0))
 have HN0 : Hid (¬ pastF P mv X Fs w.heap.size) := fun q => Nat.lt_irrefl _ (h.lt _ q)
 have HK := zh hk
 have HN := zh hn
 have hm1 := lines_is
 have hm2 := lines_not
 have hmm := @run_makeMap Tryz.prog
 have c2 := (uh HP0).c2
 have f2 := (uh HP0).f (P.o + 2)
 have hPw : P.b < w.heap.size := h.Plt
 clear h hk hn
 rcases mv with _ | m
 case none =>
  obtain ⟨p1, hX, g1⟩ := (uh HP0).made
  subst hX
  have e0 : (w.alloc (.cells #[.int .i64 k.kind, .int .i64 k.a, .string k.word, .int .i64 k.b] 73)).heap.size = w.heap.size + 1 := by simp
  have HKc := zh ((uh HK0).keeps g1.2 (uh HN0))
  have HGc := zh (Grew.below (uh HB0) g1)
  have HPc := zh p1
  rw [e0] at HPc HKc HGc
  have eW : ((w.alloc (.cells #[.int .i64 k.kind, .int .i64 k.a, .string k.word, .int .i64 k.b] 73)).alloc (.map #[] 0)).setCell ⟨P.b, P.o + 2, none⟩ (.map (some (w.heap.size + 1))) = (((w.setCell ⟨P.b, P.o + 2, none⟩ (.map (some (w.heap.size + 1)))).alloc (.cells #[.int .i64 k.kind, .int .i64 k.a, .string k.word, .int .i64 k.b] 73)).alloc (.map #[] 0)) := by
   rw [World.setCell_alloc_past _ _ _ _ (by simp; omega), World.setCell_alloc_past _ _ _ _ hPw]
  have HNc : Hid (¬ pastF P (some (w.heap.size + 1)) [] Fs w.heap.size) := by
   rintro (q | q | ⟨x, hx, _⟩)
   ·omega
   ·injection q with q; omega
   ·cases hx
  clear p1 g1 e0 HP0 HK0 HB0 HN0
  go_enter Tryz.func251, Tryz.ntmps251
  go_wp2_with fail
  rw [<- eW]
  clear eW c2 f2
  generalize ((w.alloc (.cells #[.int .i64 k.kind, .int .i64 k.a, .string k.word, .int .i64 k.b] 73)).alloc (.map #[] 0)).setCell ⟨P.b, P.o + 2, none⟩ (.map (some (w.heap.size + 1))) = Wc at *
  obtain ⟨m, hm⟩ : ∃ m, m = w.heap.size + 1 := ⟨_, rfl⟩
  rw [<- hm] at HPc HGc HNc
  rw [<- hm]
  clear hm
  refine (uh HC _).mono ?_
  rintro e W1 ⟨rfl, b1⟩
  have HK1 := zh ((uh HKc).below b1)
  have HP1 := zh ((uh HPc).below b1)
  have HG1 := zh ((uh HGc).trans (Grew.of_below _ b1))
  clear b1 HC HKc HPc HGc
  have k2 := (uh HK1).c2
  have g2 := (uh HK1).f 2
  have hks := keeps_set W1 w.heap.size 2 (.string k.word)
  have HK2 := zh (uh HK1).word
  have HP2 := zh ((uh HP1).keeps hks (fun i hi e => uh HNc (by rw [<- e]; exact hi)))
  have HG2 : Hid (Grew W1 (fun i => i = w.heap.size) (fun i => i = w.heap.size) (W1.setCell ⟨w.heap.size, 2, none⟩ (.string k.word))) := ⟨fun _ h => .inl h, hks⟩
  clear hks
  go_wp2
  generalize W1.setCell ⟨w.heap.size, 2, none⟩ (.string k.word) = W2 at *
  have HS : Hid (MkS P m w.heap.size k W2.drew) := ⟨(uh HP2).c2, (uh HK2).c0, (uh HK2).c1, (uh HK2).c2, (uh HK2).c3⟩
  have HP3 := zh ((uh HP2).below (below_drew W2))
  clear k2 g2 HK1 HK2
  refine wp_region_tail (fun x => x.cell? ⟨P.b, P.o + 2, none⟩ = some (.map (some m)) /\ x.cell? ⟨w.heap.size, 0, none⟩ = some (.int .i64 k.kind) /\ x.cell? ⟨w.heap.size, 1, none⟩ = some (.int .i64 k.a) /\ x.cell? ⟨w.heap.size, 2, none⟩ = some (.string k.word) /\ x.cell? ⟨w.heap.size, 3, none⟩ = some (.int .i64 k.b)) 8 (by kernel_rfl) (by kernel_rfl) (uh HS) (fun hHeld => ?_)
  refine takeH 0 (h := ?_)
  try simp only [Act.put, sI, sZ, sS]
  refine takeH 1 (h := ?_)
  try simp only [Act.put, sI, sZ, sS]
  refine takeH 2 (h := ?_)
  try simp only [Act.put, sI, sZ, sS]
  refine takeH 3 (h := ?_)
  try simp only [Act.put, sI, sZ, sS]
  refine takeH 4 (h := ?_)
  try simp only [Act.put, sI, sZ, sS]
  refine readyH 5 (h := fun K hK => ?_)
  go_simp
  refine hK.out _ _ (MkS.carry (by assumption) (below_box _ _)) (fun hHeld => ?_)
  clear hK K
  try simp only [Act.put, sI, sZ, sS]
  refine takeH 6 (h := ?_)
  try simp only [Act.put, sI, sZ, sS]
  refine readyH 7 (h := fun K hK => ?_)
  go_simp
  refine hK.out _ _ (MkS.carry (by assumption) (below_box _ _)) (fun hHeld => ?_)
  clear hK K
  try simp only [Act.put, sI, sZ, sS]
  refine wpAnyH_done (by kernel_rfl) ?_ _
  show wpList _ _ _ _ _ _
  clear hHeld
  obtain ⟨D, hownD, hKD⟩ : ∃ D, W2.drew.ownsMap Tryz.prog 73 ptrElem m _ D /\ KeysL D _ := by
   rcases (uh HP3).map with ⟨q, _⟩ | ⟨m', D, q, k1, k2⟩
   ·cases q
   ·cases q
    exact ⟨D, k1, k2⟩
  have ho2 : World.ownsMap ((W2.alloc (.map #[] 0)).alloc (.cells #[.map (some W2.heap.size), .map none, .pointer none, .int .i64 0] 205)).drew Tryz.prog 73 ptrElem m _ D := (hownD.alloc _).alloc _
  refine wpList_mapUpdate_in _ rfl _ _ _ 126 rfl 73 198 keyedK Tryz.underlying126 ptrElem m _ D rfl ho2 (by unfold maxLen; first | omega | (simp; done)) _ _ _ rfl rfl (keyOf_key k (uh HK)) (.lit (.int .i64 (((W2.heap.size + 1 : Nat) : Int) + 1))) [] rfl ?_
  intro W3 own3 turn3
  obtain ⟨p3, g3⟩ := PastX.add (w := W2.drew) (uh HP3) k (uh HK) (uh HN) hKD (hownD.tidy keyedK) turn3 own3
  have HBG : Hid (Begun w P now known _ _ Ln Fs k W3) := ⟨m, _, _, p3, ((uh HG1).new (uh HG2).2 (fun i e => Nat.le_of_eq e.symm)).trans ((Grew.of_below _ (below_drew W2)).trans g3)⟩
  clear p3 g3 own3 turn3 ho2 hownD hKD
  go_wp2
  (try simp only [Exit.inBlock, Exit.then])
  refine bodyPost_end (results_none rfl _ _ _) rfl ?_
  exact ⟨rfl, uh HBG⟩
 case some =>
  have HPc := zh (uh HP0)
  have HKc := zh (uh HK0)
  have HGc := zh (Grew.of_below (pastF P (some m) X Fs) (uh HB0))
  have HNc := zh (uh HN0)
  clear HP0 HK0 HB0 HN0
  go_enter Tryz.func251, Tryz.ntmps251
  go_wp2_with fail
  clear c2 f2
  generalize w.alloc (.cells #[.int .i64 k.kind, .int .i64 k.a, .string k.word, .int .i64 k.b] 73) = Wc at *
  refine (uh HC _).mono ?_
  rintro e W1 ⟨rfl, b1⟩
  have HK1 := zh ((uh HKc).below b1)
  have HP1 := zh ((uh HPc).below b1)
  have HG1 := zh ((uh HGc).trans (Grew.of_below _ b1))
  clear b1 HC HKc HPc HGc
  have k2 := (uh HK1).c2
  have g2 := (uh HK1).f 2
  have hks := keeps_set W1 w.heap.size 2 (.string k.word)
  have HK2 := zh (uh HK1).word
  have HP2 := zh ((uh HP1).keeps hks (fun i hi e => uh HNc (by rw [<- e]; exact hi)))
  have HG2 : Hid (Grew W1 (fun i => i = w.heap.size) (fun i => i = w.heap.size) (W1.setCell ⟨w.heap.size, 2, none⟩ (.string k.word))) := ⟨fun _ h => .inl h, hks⟩
  clear hks
  go_wp2
  generalize W1.setCell ⟨w.heap.size, 2, none⟩ (.string k.word) = W2 at *
  have HS : Hid (MkS P m w.heap.size k W2.drew) := ⟨(uh HP2).c2, (uh HK2).c0, (uh HK2).c1, (uh HK2).c2, (uh HK2).c3⟩
  have HP3 := zh ((uh HP2).below (below_drew W2))
  clear k2 g2 HK1 HK2
  refine wp_region_tail (fun x => x.cell? ⟨P.b, P.o + 2, none⟩ = some (.map (some m)) /\ x.cell? ⟨w.heap.size, 0, none⟩ = some (.int .i64 k.kind) /\ x.cell? ⟨w.heap.size, 1, none⟩ = some (.int .i64 k.a) /\ x.cell? ⟨w.heap.size, 2, none⟩ = some (.string k.word) /\ x.cell? ⟨w.heap.size, 3, none⟩ = some (.int .i64 k.b)) 8 (by kernel_rfl) (by kernel_rfl) (uh HS) (fun hHeld => ?_)
  refine takeH 0 (h := ?_)
  try simp only [Act.put, sI, sZ, sS]
  refine takeH 1 (h := ?_)
  try simp only [Act.put, sI, sZ, sS]
  refine takeH 2 (h := ?_)
  try simp only [Act.put, sI, sZ, sS]
  refine takeH 3 (h := ?_)
  try simp only [Act.put, sI, sZ, sS]
  refine takeH 4 (h := ?_)
  try simp only [Act.put, sI, sZ, sS]
  refine readyH 5 (h := fun K hK => ?_)
  go_simp
  refine hK.out _ _ (MkS.carry (by assumption) (below_box _ _)) (fun hHeld => ?_)
  clear hK K
  try simp only [Act.put, sI, sZ, sS]
  refine takeH 6 (h := ?_)
  try simp only [Act.put, sI, sZ, sS]
  refine readyH 7 (h := fun K hK => ?_)
  go_simp
  refine hK.out _ _ (MkS.carry (by assumption) (below_box _ _)) (fun hHeld => ?_)
  clear hK K
  try simp only [Act.put, sI, sZ, sS]
  refine wpAnyH_done (by kernel_rfl) ?_ _
  show wpList _ _ _ _ _ _
  clear hHeld
  obtain ⟨D, hownD, hKD⟩ : ∃ D, W2.drew.ownsMap Tryz.prog 73 ptrElem m _ D /\ KeysL D _ := by
   rcases (uh HP3).map with ⟨q, _⟩ | ⟨m', D, q, k1, k2⟩
   ·cases q
   ·cases q
    exact ⟨D, k1, k2⟩
  have ho2 : World.ownsMap ((W2.alloc (.map #[] 0)).alloc (.cells #[.map (some W2.heap.size), .map none, .pointer none, .int .i64 0] 205)).drew Tryz.prog 73 ptrElem m _ D := (hownD.alloc _).alloc _
  refine wpList_mapUpdate_in _ rfl _ _ _ 126 rfl 73 198 keyedK Tryz.underlying126 ptrElem m _ D rfl ho2 (by unfold maxLen; first | omega | (simp; done)) _ _ _ rfl rfl (keyOf_key k (uh HK)) (.lit (.int .i64 (((W2.heap.size + 1 : Nat) : Int) + 1))) [] rfl ?_
  intro W3 own3 turn3
  obtain ⟨p3, g3⟩ := PastX.add (w := W2.drew) (uh HP3) k (uh HK) (uh HN) hKD (hownD.tidy keyedK) turn3 own3
  have HBG : Hid (Begun w P now known _ _ Ln Fs k W3) := ⟨m, _, _, p3, ((uh HG1).new (uh HG2).2 (fun i e => Nat.le_of_eq e.symm)).trans ((Grew.of_below _ (below_drew W2)).trans g3)⟩
  clear p3 g3 own3 turn3 ho2 hownD hKD
  go_wp2
  (try simp only [Exit.inBlock, Exit.then])
  refine bodyPost_end (results_none rfl _ _ _) rfl ?_
  exact ⟨rfl, uh HBG⟩
theorem parted_of : ∀ (X : List (Ky × Nat)) (x : Ky × Nat), x ∈ X -> ∃ Y, X.Perm (x :: Y) /\ Y.Sublist X
 | [], _, h => by cases h
 | a :: X, x, h => by
  rcases List.mem_cons.1 h with rfl | h
  ·exact ⟨X, List.Perm.refl _, List.sublist_cons_self _ _⟩
  ·obtain ⟨Y, h1, h2⟩ := parted_of X x h
   exact ⟨a :: Y, (h1.cons a).trans (List.Perm.swap x a Y), h2.cons_cons a⟩
theorem PastX.one {w : World} {P : Pl} {now known : Int} {mv : Option Nat} {X : List (Ky × Nat)} {Ln : Nat -> List Ver × Int} {Fs : Nat -> Nat -> Prop} (h : PastX w P now known mv X Ln Fs) {x y : Ky × Nat} (hx : x ∈ X) (hy : y ∈ X) (e : x.1 = y.1) : x = y := by
 obtain ⟨i, hi, rfl⟩ := List.getElem_of_mem hx
 obtain ⟨j, hj, rfl⟩ := List.getElem_of_mem hy
 have hp := List.pairwise_iff_getElem.1 h.keys
 rcases Nat.lt_trichotomy i j with k | k | k
 ·exact absurd e (hp i j hi hj k)
 ·subst k; rfl
 ·exact absurd e.symm (hp j i hj hi k)
theorem PastX.less {w W3 : World} {P : Pl} {now known : Int} {m : Nat} {X Y : List (Ky × Nat)} {Ln : Nat -> List Ver × Int} {Fs : Nat -> Nat -> Prop} (h : PastX w P now known (some m) X Ln Fs) {x : Ky × Nat} (hp : X.Perm (x :: Y)) (hs : Y.Sublist X)
  {n : Nat} {D : DataW Unit} (hKD : KeysL D X) (ht : Tidy D) (hturn : World.mapTurned w W3 m) (hown : W3.ownsMap Tryz.prog 73 ptrElem m n (D.del (litK x.1))) :
  PastX W3 P now known (some m) Y Ln Fs /\ Grew w (pastF P (some m) X Fs) (pastF P (some m) Y Fs) W3 := by
 have hk3 := turned_keeps hturn
 have hmP := h.mP rfl
 have hx : x ∈ X := hp.mem_iff.2 (by simp)
 have hnY : ∀ y, y ∈ Y -> y.1 ≠ x.1 := fun y hy e => by
  have h1 := (hp.pairwise_iff (R := fun a b : Ky × Nat => a.1 ≠ b.1) (fun hab e => hab e.symm)).1 h.keys
  exact List.rel_of_pairwise_cons h1 hy e.symm
 have hKn := hKD.del ht x hp hnY
 have hmo := ownsMap_size hown
 rw [hKn.size] at hmo
 refine ⟨⟨(hk3.cell (p := ⟨P.b, P.o, none⟩) h.Plt (fun e => hmP e.symm)).trans h.c0, (hk3.cell (p := ⟨P.b, P.o + 1, none⟩) h.Plt (fun e => hmP e.symm)).trans h.c1, (hk3.cell (p := ⟨P.b, P.o + 2, none⟩) h.Plt (fun e => hmP e.symm)).trans h.c2, fun i => (hk3.frozen (p := ⟨P.b, i, none⟩) h.Plt (fun e => hmP e.symm)).trans (h.f i), .inr ⟨m, _, rfl, hmo, hKn⟩, h.keys.sublist hs, h.blocks.sublist hs, fun y hy => (h.line y (hs.mem hy)).keeps hk3 (fun i hi e => h.nm y (hs.mem hy) m rfl (by rw [<- e]; exact hi)), fun y z hy hz => h.apart y z (hs.mem hy) (hs.mem hz), fun y hy => h.nP y (hs.mem hy), fun y hy => h.nm y (hs.mem hy), fun i hi => (hk3.cell (p := ⟨P.b, i, none⟩) h.Plt (fun e => hmP e.symm)).trans (h.rest i hi)⟩, fun i hi => ?_, hk3.mono (fun i _ e => .inr (.inl (by rw [e])))⟩
 rcases hi with q | q | ⟨y, hy, q⟩
 ·exact .inl (.inl q)
 ·exact .inl (.inr (.inl q))
 ·exact .inl (.inr (.inr ⟨y, hs.mem hy, q⟩))
def Tidied (w : World) (P : Pl) (now known : Int) (m : Nat) (X : List (Ky × Nat)) (Ln : Nat -> List Ver × Int) (Fs : Nat -> Nat -> Prop) (x : Ky × Nat) (w' : World) : Prop :=
 ∃ X', PastX w' P now known (some m) X' Ln Fs /\ Grew w (pastF P (some m) X Fs) (pastF P (some m) X' Fs) w' /\ ((X' = X /\ (Ln x.2).1 ≠ []) \/ ((Ln x.2).1 = [] /\ X.Perm (x :: X') /\ X'.Sublist X))
section
variable (w : World) {ops : Array Oper} {rest : List Oper} {o : Oper} {a : Act} {Q : Exit -> Act -> World -> Prop}
theorem wpList_len_ver (hg : o.guard = none) (m : Operand) (hop : o.op = Op.call { callee := Callee.builtin Builtin.len, args := #[m], argTypes := #[199] }) (mv v : Value) (hm : a.eval m = mv) (hr : (Builtin.len_ #[199] o.type #[mv]).run Tryz.prog w = .ok v w)
  (hK : wpList Tryz.prog ops Q rest (a.put o.dst v) w) : wpList Tryz.prog ops Q (o :: rest) a w := by
 refine wpList_plain hg fun K' hK' => ?_
 unfold Oper.wp
 simp [execOp, hop, resolve, invoke, builtin, hm, hr, Result.andThen]
 exact hK' _ _ hK
end
theorem past_tidy {w : World} {P : Pl} {now known : Int} {m : Nat} {X : List (Ky × Nat)} {Ln : Nat -> List Ver × Int} {Fs : Nat -> Nat -> Prop} (h : PastX w P now known (some m) X Ln Fs) (x : Ky × Nat) (hx : x ∈ X) (_hl : X.length < 100000) :
  Calls Tryz.prog 210 #[.pointer (some ⟨P.b, P.o, none⟩), .agg #[.int .i64 x.1.kind, .int .i64 x.1.a, .string x.1.word, .int .i64 x.1.b]] w fun e w' => e = .returned (.tuple #[]) /\ Tidied w P now known m X Ln Fs x w' := by
 have HB0 := zh (below_box w (.cells #[.int .i64 x.1.kind, .int .i64 x.1.a, .string x.1.word, .int .i64 x.1.b] 73))
 have HK0 := zh ((boxK_new w x.1).below (below_drew _))
 have HP0 := zh ((h.below (uh HB0)).below (below_drew _))
 have HBd := zh ((uh HB0).trans ((below_drew _).mono (uh HB0).size))
 have c2 := (uh HP0).c2
 have k0 := (uh HK0).c0
 have k1 := (uh HK0).c1
 have k2 := (uh HK0).c2
 have k3 := (uh HK0).c3
 have hlk := lookL_at (uh HP0).map x hx
 unfold keyV at hlk
 obtain ⟨mm, D, G, hX⟩ := (uh HP0).line x hx
 have v0 := hX.c0
 have hln : ∀ ty, (Builtin.len_ #[199] ty #[.map (some mm)]).run Tryz.prog (w.alloc (.cells #[.int .i64 x.1.kind, .int .i64 x.1.a, .string x.1.word, .int .i64 x.1.b] 73)).drew = .ok (.int .i64 ((Ln x.2).1.length : Nat)) (w.alloc (.cells #[.int .i64 x.1.kind, .int .i64 x.1.a, .string x.1.word, .int .i64 x.1.b] 73)).drew := fun ty => by
  rw [hX.own.len Tryz.underlying199 ty, hX.keys.size]
 clear hX h
 go_enter Tryz.func210, Tryz.ntmps210
 go_wp2
 refine wp_region_tail (fun y => y = (w.alloc (.cells #[.int .i64 x.1.kind, .int .i64 x.1.a, .string x.1.word, .int .i64 x.1.b] 73)).drew) 9 (by kernel_rfl) (by kernel_rfl) rfl (fun hHeld => ?_)
 refine takeH 0 (h := ?_)
 try simp only [Act.put, sI, sZ, sS]
 refine takeH 1 (h := ?_)
 try simp only [Act.put, sI, sZ, sS]
 refine takeH 2 (h := ?_)
 try simp only [Act.put, sI, sZ, sS]
 refine takeH 3 (h := ?_)
 try simp only [Act.put, sI, sZ, sS]
 refine takeH 4 (h := ?_)
 try simp only [Act.put, sI, sZ, sS]
 refine takeH 5 (h := ?_)
 try simp only [Act.put, sI, sZ, sS]
 refine takeH 6 (h := ?_)
 try simp only [Act.put, sI, sZ, sS]
 refine takeH 7 (h := ?_)
 try simp only [Act.put, sI, sZ, sS]
 refine takeH 8 (h := ?_)
 try simp only [Act.put, sI, sZ, sS]
 refine wpAnyH_done (by kernel_rfl) ?_ _
 show wpList _ _ _ _ _ _
 clear hHeld
 refine wpList_len_ver _ rfl _ rfl _ _ rfl (hln _) ?_
 clear hln hlk v0
 generalize hW0 : (w.alloc (.cells #[.int .i64 x.1.kind, .int .i64 x.1.a, .string x.1.word, .int .i64 x.1.b] 73)).drew = W0 at *
 clear hW0 HB0
 by_cases he : (Ln x.2).1 = []
 ·have hz : ((Ln x.2).1.length : Nat) = 0 := by rw [he]; rfl
  rw [hz]
  clear hz
  obtain ⟨Y, hp, hsub⟩ := parted_of X x hx
  obtain ⟨D, hownD, hKD⟩ : ∃ D, W0.ownsMap Tryz.prog 73 ptrElem m X.length D /\ KeysL D X := by
   rcases (uh HP0).map with ⟨q, _⟩ | ⟨m', D, q, k1, k2⟩
   ·cases q
   ·cases q
    exact ⟨D, k1, k2⟩
  have HKO := zh (keyOf_key x.1 (hKD.ok x hx))
  have HOD := zh hownD
  have HKD := zh hKD
  have HPP := zh hp
  clear hownD hKD hp
  go_wp2
  refine wp_region_tail (fun y => y = W0.drew) 5 (by kernel_rfl) (by kernel_rfl) rfl (fun hHeld => ?_)
  refine takeH 0 (h := ?_)
  try simp only [Act.put, sI, sZ, sS]
  refine takeH 1 (h := ?_)
  try simp only [Act.put, sI, sZ, sS]
  refine takeH 2 (h := ?_)
  try simp only [Act.put, sI, sZ, sS]
  refine takeH 3 (h := ?_)
  try simp only [Act.put, sI, sZ, sS]
  refine takeH 4 (h := ?_)
  try simp only [Act.put, sI, sZ, sS]
  refine wpAnyH_done (by kernel_rfl) ?_ _
  show wpList _ _ _ _ _ _
  clear hHeld
  refine wpList_delete_own _ rfl _ _ 126 73 rfl 198 keyedK Tryz.underlying126 ptrElem m X.length D rfl (uh HOD).drew _ _ rfl (uh HKO) ?_
  intro W2 own2 turn2
  obtain ⟨p2, g2⟩ := ((uh HP0).below (below_drew W0)).less (uh HPP) hsub (uh HKD) ((uh HOD).tidy keyedK) turn2 own2
  have HT : Hid (Tidied w P now known m X Ln Fs x W2) := ⟨Y, p2, Grew.below ((uh HBd).trans ((below_drew W0).mono (uh HBd).size)) g2, .inr ⟨he, uh HPP, hsub⟩⟩
  clear p2 g2 own2 turn2
  go_wp2
  (try simp only [Exit.inBlock, Exit.then])
  refine bodyPost_end (results_none rfl _ _ _) rfl ?_
  exact ⟨rfl, uh HT⟩
 ·have hz : ¬ (((Ln x.2).1.length : Nat) : Int) = 0 := by
   have := mt List.length_eq_zero_iff.1 he
   omega
  have HT : Hid (Tidied w P now known m X Ln Fs x W0) := ⟨X, uh HP0, Grew.below (uh HBd) (Grew.of_below _ (Below.refl _ _)), .inl ⟨rfl, he⟩⟩
  generalize ((Ln x.2).1.length : Nat) = n at *
  go_wp2
  (try simp only [Exit.inBlock, Exit.then])
  refine bodyPost_end (results_none rfl _ _ _) rfl ?_
  exact ⟨rfl, uh HT⟩
end Go.Proofs.YtbmkmfoaoganeaaGreatDoor

namespace Go.Proofs.YtbmkmfoaoganeaaGreatDoor
open Go.RowKit Go.Maps
def sameK (k l : Ky) : Bool := decide (k.kind = l.kind /\ k.a = l.a /\ k.word.data = l.word.data /\ k.b = l.b)
theorem sameK_iff {k l : Ky} : sameK k l = true ↔ k = l := by
 unfold sameK
 rw [decide_eq_true_eq]
 constructor
 ·rintro ⟨h1, h2, h3, h4⟩
  obtain ⟨k1, k2, ⟨k3⟩, k4⟩ := k
  obtain ⟨l1, l2, ⟨l3⟩, l4⟩ := l
  dsimp only at h1 h2 h3 h4
  subst h1 h2 h3 h4
  rfl
 ·rintro rfl
  exact ⟨rfl, rfl, rfl, rfl⟩
def setS (S : Ky -> Int -> Int -> ByteArray) (k : Ky) (now lo hi : Int) (val : ByteArray) : Ky -> Int -> Int -> ByteArray := fun k' c t => if sameK k' k = true /\ c = now /\ lo <= t /\ t < hi then val else S k' c t
structure Pst (X : List (Ky × Nat)) (Ln : Nat -> List Ver × Int) (now known bd : Int) (S : Ky -> Int -> Int -> ByteArray) : Prop where
 ok : ∀ x, x ∈ X -> LineOk (Ln x.2).1 (Ln x.2).2 now
 m0 : ∀ x, x ∈ X -> 0 <= (Ln x.2).2 /\ (Ln x.2).2 <= bd
 tells : ∀ x, x ∈ X -> Tells (Ln x.2).1 known now (S x.1)
 none : ∀ k, (∀ x, x ∈ X -> x.1 ≠ k) -> ∀ c, known <= c -> c <= now -> ∀ t, S k c t = ByteArray.empty
theorem lineOk_none (now : Int) : LineOk [] 0 now := ⟨List.Pairwise.nil, by simp, by simp, by simp, by simp, List.Pairwise.nil, by simp⟩
theorem Pst.mono {X : List (Ky × Nat)} {Ln : Nat -> List Ver × Int} {now known bd bd' : Int} {S : Ky -> Int -> Int -> ByteArray} (h : Pst X Ln now known bd S) (hb : bd <= bd') : Pst X Ln now known bd' S :=
 ⟨h.ok, fun x hx => by have := h.m0 x hx; omega, h.tells, h.none⟩
theorem Pst.begin {X : List (Ky × Nat)} {Ln : Nat -> List Ver × Int} {now known bd : Int} {S : Ky -> Int -> Int -> ByteArray} (h : Pst X Ln now known bd S) (h0 : 0 <= bd) (k : Ky) (lb : Nat) (hk : ∀ x, x ∈ X -> x.1 ≠ k) (hb : ∀ x, x ∈ X -> x.2 ≠ lb) : Pst ((k, lb) :: X) (upd Ln lb ([], 0)) now known bd S := by
 refine ⟨fun x hx => ?_, fun x hx => ?_, fun x hx => ?_, fun l hl => h.none l (fun x hx => hl x (by simp [hx]))⟩
 ·rcases List.mem_cons.1 hx with rfl | hx
  ·rw [upd_same]; exact lineOk_none now
  ·rw [upd_other _ _ (hb x hx)]; exact h.ok x hx
 ·rcases List.mem_cons.1 hx with rfl | hx
  ·rw [upd_same]; exact ⟨by decide, h0⟩
  ·rw [upd_other _ _ (hb x hx)]
   exact h.m0 x hx
 ·rcases List.mem_cons.1 hx with rfl | hx
  ·rw [upd_same]
   intro c h1 h2 t
   refine ⟨(fun v hv => by cases hv), fun q => absurd (h.none k hk c h1 h2 t) q⟩
  ·rw [upd_other _ _ (hb x hx)]; exact h.tells x hx
theorem Pst.turn {X : List (Ky × Nat)} {Ln : Nat -> List Ver × Int} {now known bd bd' : Int} {S : Ky -> Int -> Int -> ByteArray} (h : Pst X Ln now known bd S) {x : Ky × Nat} (hx : x ∈ X) (hkeys : ∀ y, y ∈ X -> y ≠ x -> y.1 ≠ x.1 /\ y.2 ≠ x.2) {V' : List Ver} {made' lo hi : Int} {val : ByteArray} (hO : LineOk V' made' now) (h0 : 0 <= made' /\ made' <= bd') (hbd : bd <= bd') (hT : Tells V' known now (fun c t => if c = now /\ lo <= t /\ t < hi then val else S x.1 c t)) :
  Pst X (upd Ln x.2 (V', made')) now known bd' (setS S x.1 now lo hi val) := by
 have other : ∀ y, y ∈ X -> y = x \/ (y.1 ≠ x.1 /\ y.2 ≠ x.2) := fun y hy => by
  rcases Classical.em (y = x) with e | e
  ·exact .inl e
  ·exact .inr (hkeys y hy e)
 refine ⟨fun y hy => ?_, fun y hy => ?_, fun y hy => ?_, fun l hl c h1 h2 t => ?_⟩
 ·rcases other y hy with rfl | e
  ·rw [upd_same]; exact hO
  ·rw [upd_other _ _ e.2]; exact h.ok y hy
 ·rcases other y hy with rfl | e
  ·rw [upd_same]; exact h0
  ·rw [upd_other _ _ e.2]
   have := h.m0 y hy
   omega
 ·rcases other y hy with rfl | e
  ·rw [upd_same]
   refine hT.congr fun c _ _ t => ?_
   unfold setS
   by_cases q : c = now /\ lo <= t /\ t < hi
   ·rw [if_pos q, if_pos ⟨sameK_iff.2 rfl, q⟩]
   ·rw [if_neg q, if_neg (fun r => q r.2)]
  ·rw [upd_other _ _ e.2]
   refine (h.tells y hy).congr fun c _ _ t => ?_
   unfold setS
   rw [if_neg (fun r => e.1 (sameK_iff.1 r.1))]
 ·unfold setS
  rw [if_neg (fun r => hl x hx (sameK_iff.1 r.1).symm)]
  exact h.none l hl c h1 h2 t
theorem Pst.tidy {X X' : List (Ky × Nat)} {Ln : Nat -> List Ver × Int} {now known bd : Int} {S : Ky -> Int -> Int -> ByteArray} (h : Pst X Ln now known bd S) {x : Ky × Nat} (he : (Ln x.2).1 = []) (hp : X.Perm (x :: X')) (hs : X'.Sublist X) : Pst X' Ln now known bd S := by
 have hx : x ∈ X := hp.mem_iff.2 (by simp)
 refine ⟨fun y hy => h.ok y (hs.mem hy), fun y hy => h.m0 y (hs.mem hy), fun y hy => h.tells y (hs.mem hy), fun l hl c h1 h2 t => ?_⟩
 rcases Classical.em (x.1 = l) with e | e
 ·subst e
  have := (h.tells x hx c h1 h2 t).2
  rw [he] at this
  rcases Classical.em (S x.1 c t = ByteArray.empty) with q | q
  ·exact q
  ·obtain ⟨v, hv, _⟩ := this q
   cases hv
 ·refine h.none l (fun y hy => ?_) c h1 h2 t
  rcases List.mem_cons.1 (hp.mem_iff.1 hy) with rfl | hy
  ·exact e
  ·exact hl y hy
def PastW (w : World) (P : Pl) (now known bd : Int) (S : Ky -> Int -> Int -> ByteArray) (F : Nat -> Prop) : Prop := ∃ mv X Ln Fs, PastX w P now known mv X Ln Fs /\ Pst X Ln now known bd S /\ (X.length : Int) <= bd /\ F = pastF P mv X Fs
theorem PastW.keeps {w w' : World} {P : Pl} {now known bd : Int} {S : Ky -> Int -> Int -> ByteArray} {F H : Nat -> Prop} (h : PastW w P now known bd S F) (hk : Keeps H w w') (hH : ∀ i, F i -> ¬ H i) : PastW w' P now known bd S F := by
 obtain ⟨mv, X, Ln, Fs, h1, h2, h3, rfl⟩ := h
 exact ⟨mv, X, Ln, Fs, h1.keeps hk hH, h2, h3, rfl⟩
theorem PastW.below {w w' : World} {P : Pl} {now known bd : Int} {S : Ky -> Int -> Int -> ByteArray} {F : Nat -> Prop} (h : PastW w P now known bd S F) (hb : Below w.heap.size w w') : PastW w' P now known bd S F :=
 h.keeps (Keeps.of_below (fun _ => False) hb zr) (fun _ _ h => h)
theorem PastW.lt {w : World} {P : Pl} {now known bd : Int} {S : Ky -> Int -> Int -> ByteArray} {F : Nat -> Prop} (h : PastW w P now known bd S F) : ∀ i, F i -> i < w.heap.size := by
 obtain ⟨mv, X, Ln, Fs, h1, h2, h3, rfl⟩ := h
 exact h1.lt
structure BoxO (bx : Nat) (k : Ky) (lo hi : Int) (val : ByteArray) (x : World) : Prop where
 c0 : x.cell? ⟨bx, 0, none⟩ = some (.int .i64 k.kind)
 c1 : x.cell? ⟨bx, 1, none⟩ = some (.int .i64 k.a)
 c2 : x.cell? ⟨bx, 2, none⟩ = some (.string k.word)
 c3 : x.cell? ⟨bx, 3, none⟩ = some (.int .i64 k.b)
 c4 : x.cell? ⟨bx, 4, none⟩ = some (.int .i64 lo)
 c5 : x.cell? ⟨bx, 5, none⟩ = some (.int .i64 hi)
 c6 : x.cell? ⟨bx, 6, none⟩ = some (.string val)
theorem BoxO.lt {bx : Nat} {k : Ky} {lo hi : Int} {val : ByteArray} {x : World} (h : BoxO bx k lo hi val x) : bx < x.heap.size := lt_of_cell h.c0
theorem BoxO.keeps {bx : Nat} {k : Ky} {lo hi : Int} {val : ByteArray} {x y : World} {F : Nat -> Prop} (h : BoxO bx k lo hi val x) (hk : Keeps F x y) (hf : ¬ F bx) : BoxO bx k lo hi val y :=
 ⟨(hk.cell (p := ⟨bx, 0, none⟩) h.lt hf).trans h.c0, (hk.cell (p := ⟨bx, 1, none⟩) h.lt hf).trans h.c1, (hk.cell (p := ⟨bx, 2, none⟩) h.lt hf).trans h.c2, (hk.cell (p := ⟨bx, 3, none⟩) h.lt hf).trans h.c3, (hk.cell (p := ⟨bx, 4, none⟩) h.lt hf).trans h.c4, (hk.cell (p := ⟨bx, 5, none⟩) h.lt hf).trans h.c5, (hk.cell (p := ⟨bx, 6, none⟩) h.lt hf).trans h.c6⟩
theorem BoxO.below {bx : Nat} {k : Ky} {lo hi : Int} {val : ByteArray} {x y : World} (h : BoxO bx k lo hi val x) (hb : Below x.heap.size x y) : BoxO bx k lo hi val y := h.keeps (Keeps.of_below (fun _ => False) hb zr) (fun f => f)
def opO (k : Ky) (lo hi : Int) (val : ByteArray) : Obj := .cells #[.int .i64 k.kind, .int .i64 k.a, .string k.word, .int .i64 k.b, .int .i64 lo, .int .i64 hi, .string val] 188
theorem boxO_new (w : World) (k : Ky) (lo hi : Int) (val : ByteArray) : BoxO w.heap.size k lo hi val (w.alloc (opO k lo hi val)) := by
 unfold opO
 exact ⟨by simp, by simp, by simp, by simp, by simp, by simp, by simp⟩
theorem PastX.others {w : World} {P : Pl} {now known : Int} {mv : Option Nat} {X : List (Ky × Nat)} {Ln : Nat -> List Ver × Int} {Fs : Nat -> Nat -> Prop} (h : PastX w P now known mv X Ln Fs) {x : Ky × Nat} (hx : x ∈ X) : ∀ y, y ∈ X -> y ≠ x -> y.1 ≠ x.1 /\ y.2 ≠ x.2 := fun y hy hne => by
 refine ⟨fun e => hne (h.one hy hx e), fun e => ?_⟩
 obtain ⟨i, hi, rfl⟩ := List.getElem_of_mem hx
 obtain ⟨j, hj, rfl⟩ := List.getElem_of_mem hy
 have hp := List.pairwise_iff_getElem.1 h.blocks
 rcases Nat.lt_trichotomy i j with k | k | k
 ·exact hp i j hi hj k e.symm
 ·subst k; exact hne rfl
 ·exact hp j i hj hi k e
theorem ptr_is (b : Nat) (w : World) : (binOp .eql 198 (.pointer (some ⟨b, 0, none⟩)) (.pointer none)).run Tryz.prog w = .ok (.bool false) w := by kernel_rfl
def Changed (w : World) (P : Pl) (now known bd : Int) (S : Ky -> Int -> Int -> ByteArray) (F : Nat -> Prop) (w' : World) : Prop := ∃ F', PastW w' P now known bd S F' /\ Grew w F F' w'
theorem Grew.out {a b : World} {F F' : Nat -> Prop} {n : Nat} (h : Grew a F F' b) (hn : ¬ F n) (hl : n < a.heap.size) : ¬ F' n := fun q => by
 rcases h.1 n q with r | r
 ·exact hn r
 ·omega
theorem list_some (s : ByteArray) (h : s ≠ ByteArray.empty) : s.toList.isEmpty = false := by
 rw [ByteArray.toList_eq]
 rcases q : s.data.toList with _ | ⟨a, l⟩
 ·exact absurd (ByteArray.ext (Array.toList_inj.1 q)) h
 ·rfl
theorem text_none (w : World) : (binOp .neq 9 (.string ByteArray.empty) (.string ⟨#[]⟩)).run Tryz.prog w = .ok (.bool false) w := by kernel_rfl
theorem upd_twice {α : Type} (f : Nat -> α) (b : Nat) (u v : α) : upd (upd f b u) b v = upd f b v := by
 funext i
 unfold upd
 split <;> rfl
theorem changed_of {w Wc Wt : World} {P : Pl} {now known bd : Int} {S : Ky -> Int -> Int -> ByteArray} {F0 : Nat -> Prop} {m : Nat} {X X' : List (Ky × Nat)} {Ln : Nat -> List Ver × Int} {Fs : Nat -> Nat -> Prop} {x : Ky × Nat} (hG : Grew w F0 (pastF P (some m) X Fs) Wc) (pt : PastX Wt P now known (some m) X' Ln Fs) (gt : Grew Wc (pastF P (some m) X Fs) (pastF P (some m) X' Fs) Wt) (hS : Pst X Ln now known bd S) (hl : (X.length : Int) <= bd)
  (hor : (X' = X /\ (Ln x.2).1 ≠ []) \/ ((Ln x.2).1 = [] /\ X.Perm (x :: X') /\ X'.Sublist X)) : Changed w P now known bd S F0 Wt := by
 rcases hor with ⟨rfl, _⟩ | ⟨q1, q2, q3⟩
 ·exact ⟨_, ⟨some m, X', _, _, pt, hS, hl, rfl⟩, hG.trans gt⟩
 ·exact ⟨_, ⟨some m, X', _, _, pt, hS.tidy q1 q2 q3, by have := q3.length_le; omega, rfl⟩, hG.trans gt⟩
theorem Pst.said {X : List (Ky × Nat)} {Ln : Nat -> List Ver × Int} {now known bd bd' : Int} {S : Ky -> Int -> Int -> ByteArray} (h : Pst X Ln now known bd S) {x : Ky × Nat} (hx : x ∈ X) (hkeys : ∀ y, y ∈ X -> y ≠ x -> y.1 ≠ x.1 /\ y.2 ≠ x.2) {V2 : List Ver} {made2 lo hi : Int} {val : ByteArray} (ok : LineOk V2 made2 now) (m02 : 0 <= made2) (hR : rightB lo hi = true) (hval : val ≠ ByteArray.empty) (hn1 : 1 <= now) (hn2 : now <= 150)
  (no : ∀ u, u ∈ V2 -> u.s1 = 151 -> ∀ t, u.has t -> ¬ (lo <= t /\ t < hi)) (tl : Tells V2 known now (fun c t => if c = now /\ lo <= t /\ t < hi then ByteArray.empty else S x.1 c t)) (hm : made2 + 1 <= bd') (hb : bd <= bd') :
  Pst X (upd (upd Ln x.2 (V2, made2)) x.2 (sayV V2 made2 lo hi val now, made2 + 1)) now known bd' (setS S x.1 now lo hi val) := by
 rw [upd_twice]
 refine h.turn hx hkeys (say_ok ok m02 hR hval hn1 no) ⟨by omega, by omega⟩ hb ?_
 refine (say_tells (val := val) (known := known) ok tl hn2 no).congr fun c _ _ t => ?_
 by_cases q : c = now /\ lo <= t /\ t < hi
 ·rw [if_pos q, if_pos q]
 ·rw [if_neg q, if_neg q, if_neg q]
def ChS (P : Pl) (bx : Nat) (now lo hi : Int) (val : ByteArray) (y : World) : Prop := y.cell? ⟨P.b, P.o, none⟩ = some (.int .i64 now) /\ y.cell? ⟨bx, 4, none⟩ = some (.int .i64 lo) /\ y.cell? ⟨bx, 5, none⟩ = some (.int .i64 hi) /\ y.cell? ⟨bx, 6, none⟩ = some (.string val)
theorem ChS.carry {P : Pl} {bx : Nat} {now lo hi : Int} {val : ByteArray} {x y : World} (h : ChS P bx now lo hi val x) (hb : Below x.heap.size x y) : ChS P bx now lo hi val y :=
 ⟨(hb.cell (p := ⟨P.b, P.o, none⟩) (lt_of_cell h.1)).trans h.1, (hb.cell (p := ⟨bx, 4, none⟩) (lt_of_cell h.2.1)).trans h.2.1, (hb.cell (p := ⟨bx, 5, none⟩) (lt_of_cell h.2.2.1)).trans h.2.2.1, (hb.cell (p := ⟨bx, 6, none⟩) (lt_of_cell h.2.2.2)).trans h.2.2.2⟩
theorem past_change {w : World} {P : Pl} {now known bd : Int} {S : Ky -> Int -> Int -> ByteArray} {F : Nat -> Prop} (h : PastW w P now known bd S F) (k : Ky) (lo hi : Int) (val : ByteArray) (hk : KyOk k) (hs : k.word.size <= 281474976710656) (hv : val.size <= 281474976710656) (hR : rightB lo hi = true) (hn1 : 1 <= now) (hn2 : now <= 150) (hkn : known <= now) (hb0 : 0 <= bd) (hb1 : bd <= 3690) :
  Calls Tryz.prog 211 #[.pointer (some ⟨P.b, P.o, none⟩), .agg #[.int .i64 k.kind, .int .i64 k.a, .string k.word, .int .i64 k.b, .int .i64 lo, .int .i64 hi, .string val]] w fun e w' => e = .returned (.tuple #[]) /\ Changed w P now known (bd + 3) (setS S k now lo hi val) F w' := by
 obtain ⟨mv, X, Ln, Fs, hX, hS, hlen, rfl⟩ := h
 have HB0 := zh (below_box w (opO k lo hi val))
 have HO0 := zh ((boxO_new w k lo hi val).below (below_drew _))
 have HP0 := zh ((hX.below (uh HB0)).below (below_drew _))
 have HBd := zh ((uh HB0).trans ((below_drew _).mono (uh HB0).size))
 have HN0 : Hid (¬ pastF P mv X Fs w.heap.size) := fun q => Nat.lt_irrefl _ (hX.lt _ q)
 have HS := zh hS
 have hXl : X.length < 100000 := by omega
 have HC := zh (fun W => text_clone val W hv)
 have HK := zh hk
 clear hX hS hk
 have o0 := (uh HO0).c0
 have o1 := (uh HO0).c1
 have o2 := (uh HO0).c2
 have o3 := (uh HO0).c3
 have c2 := (uh HP0).c2
 rcases Classical.em (∃ x, x ∈ X /\ x.1 = k) with ⟨x, hx, hxk⟩ | hno
 ·have hlk := lookL_at (uh HP0).map x hx
  rw [hxk] at hlk
  unfold keyV at hlk
  have hpi := ptr_is
  unfold opO at *
  go_enter Tryz.func211, Tryz.ntmps211
  go_wp2
  refine wp_region_tail (fun y => y = (w.alloc (.cells #[.int .i64 k.kind, .int .i64 k.a, .string k.word, .int .i64 k.b, .int .i64 lo, .int .i64 hi, .string val] 188)).drew) 7 (by kernel_rfl) (by kernel_rfl) rfl (fun hHeld => ?_)
  refine takeH 0 (h := ?_)
  try simp only [Act.put, sI, sZ, sS]
  refine takeH 1 (h := ?_)
  try simp only [Act.put, sI, sZ, sS]
  refine takeH 2 (h := ?_)
  try simp only [Act.put, sI, sZ, sS]
  refine takeH 3 (h := ?_)
  try simp only [Act.put, sI, sZ, sS]
  refine takeH 4 (h := ?_)
  try simp only [Act.put, sI, sZ, sS]
  refine takeH 5 (h := ?_)
  try simp only [Act.put, sI, sZ, sS]
  refine takeH 6 (h := ?_)
  try simp only [Act.put, sI, sZ, sS]
  refine wpAnyH_done (by kernel_rfl) ?_ _
  show wpList _ _ _ _ _ _
  clear hHeld hlk o0 o1 o2 o3 c2
  generalize (w.alloc (.cells #[.int .i64 k.kind, .int .i64 k.a, .string k.word, .int .i64 k.b, .int .i64 lo, .int .i64 hi, .string val] 188)).drew = W0 at *
  obtain ⟨m, rfl⟩ : ∃ m, mv = some m := by
   rcases (uh HP0).map with ⟨_, q⟩ | ⟨m, D, q, _⟩
   ·rw [q] at hx; cases hx
   ·exact ⟨m, q⟩
  have HP1 := zh (uh HP0)
  have HO1 := zh (uh HO0)
  have HS1 := zh (uh HS)
  have hlen1 : (X.length : Int) <= bd + 1 := by omega
  have HN1 := zh (uh HN0)
  have HG1 := zh (Grew.of_below (pastF P (some m) X Fs) (uh HBd))
  have hXl1 : X.length < 100000 := hXl
  clear HP0 HO0 HS HN0 HB0 HBd hXl hpi
  obtain ⟨W1, hW1⟩ : ∃ W1, W1 = W0 := ⟨_, rfl⟩
  rw [<- hW1] at HP1 HO1 HG1
  rw [<- hW1]
  clear hW1
  go_wp2
  have c2 := (uh HP1).c2
  have o0 := (uh HO1).c0
  have o1 := (uh HO1).c1
  have o2 := (uh HO1).c2
  have o3 := (uh HO1).c3
  have hlk : (Instr.lookup 126 (.map (some m)) (.agg #[.int .i64 k.kind, .int .i64 k.a, .string k.word, .int .i64 k.b]) false).run Tryz.prog W1.drew = .ok (.pointer (some ⟨x.2, 0, none⟩)) W1.drew := by
   have := lookL_at ((uh HP1).below (below_drew W1)).map x hx
   rw [hxk] at this
   exact this
  refine wp_region_tail (fun y => y = W1.drew) 7 (by kernel_rfl) (by kernel_rfl) rfl (fun hHeld => ?_)
  refine takeH 0 (h := ?_)
  try simp only [Act.put, sI, sZ, sS]
  refine takeH 1 (h := ?_)
  try simp only [Act.put, sI, sZ, sS]
  refine takeH 2 (h := ?_)
  try simp only [Act.put, sI, sZ, sS]
  refine takeH 3 (h := ?_)
  try simp only [Act.put, sI, sZ, sS]
  refine takeH 4 (h := ?_)
  try simp only [Act.put, sI, sZ, sS]
  refine takeH 5 (h := ?_)
  try simp only [Act.put, sI, sZ, sS]
  refine takeH 6 (h := ?_)
  try simp only [Act.put, sI, sZ, sS]
  refine wpAnyH_done (by kernel_rfl) ?_ _
  show wpList _ _ _ _ _ _
  clear hHeld hlk c2 o0 o1 o2 o3
  have HPa := zh ((uh HP1).below (below_drew W1))
  have HOa := zh ((uh HO1).below (below_drew W1))
  have HGa := zh ((uh HG1).trans (Grew.of_below _ (below_drew W1)))
  clear HP1 HO1 HG1
  generalize W1.drew = Wa at *
  go_wp2
  have c0 := (uh HPa).c0
  have o4 := (uh HOa).c4
  have o5 := (uh HOa).c5
  refine wp_region_tail (fun y => y = Wa.drew) 7 (by kernel_rfl) (by kernel_rfl) rfl (fun hHeld => ?_)
  refine takeH 0 (h := ?_)
  try simp only [Act.put, sI, sZ, sS]
  refine takeH 1 (h := ?_)
  try simp only [Act.put, sI, sZ, sS]
  refine takeH 2 (h := ?_)
  try simp only [Act.put, sI, sZ, sS]
  refine takeH 3 (h := ?_)
  try simp only [Act.put, sI, sZ, sS]
  refine takeH 4 (h := ?_)
  try simp only [Act.put, sI, sZ, sS]
  refine takeH 5 (h := ?_)
  try simp only [Act.put, sI, sZ, sS]
  refine takeH 6 (h := ?_)
  try simp only [Act.put, sI, sZ, sS]
  refine wpAnyH_done (by kernel_rfl) ?_ _
  show wpList _ _ _ _ _ _
  clear hHeld c0 o4 o5
  have HPb := zh ((uh HPa).below (below_drew Wa))
  have HOb := zh ((uh HOa).below (below_drew Wa))
  have HGb := zh ((uh HGa).trans (Grew.of_below _ (below_drew Wa)))
  clear HPa HOa HGa
  generalize Wa.drew = Wb at *
  have HEn := zh (line_end ((uh HPb).line x hx) ((uh HS1).ok x hx) ((uh HS1).tells x hx) ((uh HS1).m0 x hx).1 (by have := ((uh HS1).m0 x hx).2; omega) hR hn1 hn2 hkn)
  go_wp2_with fail
  refine (uh HEn).mono ?_
  rintro e Wc ⟨rfl, V2, made2, ⟨F2, l2, g2⟩, ok2, t2, m02, m2, no2⟩
  have HOc := zh ((uh HOb).keeps g2.2 (fun q => uh HN1 (.inr (.inr ⟨x, hx, q⟩))))
  obtain ⟨p2, gg2⟩ := (uh HPb).turn hx l2 g2
  have HPc := zh p2
  have HGc := zh ((uh HGb).trans gg2)
  have HNc := zh (gg2.out (uh HN1) (uh HOb).lt)
  have HOt := zh ((uh HPb).others hx)
  have HOk := zh ok2
  have HTl := zh t2
  have HNo := zh no2
  have HLc := zh l2
  have hmb := ((uh HS1).m0 x hx).2
  have o6 := (uh HOc).c6
  clear l2 g2 ok2 t2 no2 p2 gg2 HEn HPb HOb HGb HN1
  by_cases hval : val = ByteArray.empty
  ·have htn := text_none
   subst hval
   have HS2 := zh ((uh HS1).turn hx (uh HOt) (lo := lo) (hi := hi) (val := ByteArray.empty) (bd' := bd + 3) (uh HOk) ⟨m02, by omega⟩ (by omega) (uh HTl))
   clear HOk HTl HNo HLc HOt HC
   have HTd := zh (past_tidy (uh HPc) x hx hXl1)
   rw [hxk] at HTd
   have o0 := (uh HOc).c0
   have o1 := (uh HOc).c1
   have o2 := (uh HOc).c2
   have o3 := (uh HOc).c3
   rw [hxk] at HS2
   go_wp2_with fail
   refine (uh HTd).mono ?_
   rintro e Wt ⟨rfl, X', pt, gt, hor⟩
   have HFin := zh (changed_of (uh HGc) pt gt (uh HS2) (show _ <= bd + 3 by omega) hor)
   clear pt gt hor HTd
   go_wp2
   (try simp only [Exit.inBlock, Exit.then])
   refine bodyPost_end (results_none rfl _ _ _) rfl ?_
   exact ⟨rfl, uh HFin⟩
  ·have hts := list_some val hval
   go_wp2
   have HCh : Hid (ChS P w.heap.size now lo hi val Wc.drew) := ⟨(uh HPc).c0, (uh HOc).c4, (uh HOc).c5, (uh HOc).c6⟩
   clear o6
   refine wp_region_tail (fun y => y.cell? ⟨P.b, P.o, none⟩ = some (.int .i64 now) /\ y.cell? ⟨w.heap.size, 4, none⟩ = some (.int .i64 lo) /\ y.cell? ⟨w.heap.size, 5, none⟩ = some (.int .i64 hi) /\ y.cell? ⟨w.heap.size, 6, none⟩ = some (.string val)) 11 (by kernel_rfl) (by kernel_rfl) (uh HCh) (fun hHeld => ?_)
   refine takeH 0 (h := ?_)
   try simp only [Act.put, sI, sZ, sS]
   refine takeH 1 (h := ?_)
   try simp only [Act.put, sI, sZ, sS]
   refine takeH 2 (h := ?_)
   try simp only [Act.put, sI, sZ, sS]
   refine takeH 3 (h := ?_)
   try simp only [Act.put, sI, sZ, sS]
   refine takeH 4 (h := ?_)
   try simp only [Act.put, sI, sZ, sS]
   refine takeH 7 (h := ?_)
   try simp only [Act.put, sI, sZ, sS]
   refine takeH 8 (h := ?_)
   try simp only [Act.put, sI, sZ, sS]
   refine takeH 9 (h := ?_)
   try simp only [Act.put, sI, sZ, sS]
   refine takeH 10 (h := ?_)
   try simp only [Act.put, sI, sZ, sS]
   refine readyH 5 (h := fun K hK => ?_)
   go_simp
   refine (uh HC _).mono ?_
   rintro e Wk ⟨rfl, bk⟩
   (try go_wp2_with fail)
   refine hK.out _ _ (ChS.carry (uh HCh) bk) (fun hHeld => ?_)
   clear hK K
   try simp only [Act.put, sI, sZ, sS]
   refine takeH 6 (h := ?_)
   try simp only [Act.put, sI, sZ, sS]
   refine wpAnyH_done (by kernel_rfl) ?_ _
   show wpList _ _ _ _ _ _
   clear hHeld
   have bck : Below Wc.heap.size Wc Wk := (below_drew Wc).trans bk
   have HPk := zh ((uh HPc).below bck)
   have HOk2 := zh ((uh HOc).below bck)
   have HGk := zh ((uh HGc).trans (Grew.of_below _ bck))
   have HLk := zh ((uh HLc).below bck)
   have hmb2 : made2 <= 3695 := by omega
   have HSy := zh (line_say (now := now) (lo := lo) (hi := hi) (val := val) (uh HLk) (uh HOk).rising (fun u hu => ((uh HOk).num u hu).2) m02 (by omega) (by
    have := (uh HOk).len
    omega) hR)
   clear bck bk HPc HOc HGc HLc HC HCh
   go_wp2_with fail
   refine (uh HSy).mono ?_
   rintro e Ws ⟨rfl, F3, l3, g3⟩
   have hxF : ∀ Fz : Nat -> Nat -> Prop, upd Fz x.2 F2 x.2 = F2 := fun Fz => upd_same Fz x.2 F2
   obtain ⟨p3, gg3⟩ := (uh HPk).turn (x := x) hx l3 (by rw [hxF]; exact g3)
   have HOc := zh ((uh HOk2).keeps gg3.2 (uh HNc))
   have HPc := zh p3
   have HGc := zh ((uh HGk).trans gg3)
   have HS2 := zh ((uh HS1).said hx (uh HOt) (bd' := bd + 3) (uh HOk) m02 hR hval hn1 hn2 (uh HNo) (uh HTl) (by omega) (by omega))
   clear l3 g3 p3 gg3 HSy HPk HOk2 HGk HOk HTl HNo HLk HOt hxF
   have HTd := zh (past_tidy (uh HPc) x hx hXl1)
   rw [hxk] at HTd
   have o0 := (uh HOc).c0
   have o1 := (uh HOc).c1
   have o2 := (uh HOc).c2
   have o3 := (uh HOc).c3
   rw [hxk] at HS2
   go_wp2_with fail
   refine (uh HTd).mono ?_
   rintro e Wt ⟨rfl, X', pt, gt, hor⟩
   have HFin := zh (changed_of (uh HGc) pt gt (uh HS2) (show _ <= bd + 3 by omega) hor)
   clear pt gt hor HTd
   go_wp2
   (try simp only [Exit.inBlock, Exit.then])
   refine bodyPost_end (results_none rfl _ _ _) rfl ?_
   exact ⟨rfl, uh HFin⟩
 ·have hno' : ∀ x, x ∈ X -> x.1 ≠ k := fun x hx e => hno ⟨x, hx, e⟩
  have hlk := lookL_none (uh HP0).map k (uh HK) hno'
  unfold keyV at hlk
  unfold opO at *
  go_enter Tryz.func211, Tryz.ntmps211
  go_wp2
  refine wp_region_tail (fun y => y = (w.alloc (.cells #[.int .i64 k.kind, .int .i64 k.a, .string k.word, .int .i64 k.b, .int .i64 lo, .int .i64 hi, .string val] 188)).drew) 7 (by kernel_rfl) (by kernel_rfl) rfl (fun hHeld => ?_)
  refine takeH 0 (h := ?_)
  try simp only [Act.put, sI, sZ, sS]
  refine takeH 1 (h := ?_)
  try simp only [Act.put, sI, sZ, sS]
  refine takeH 2 (h := ?_)
  try simp only [Act.put, sI, sZ, sS]
  refine takeH 3 (h := ?_)
  try simp only [Act.put, sI, sZ, sS]
  refine takeH 4 (h := ?_)
  try simp only [Act.put, sI, sZ, sS]
  refine takeH 5 (h := ?_)
  try simp only [Act.put, sI, sZ, sS]
  refine takeH 6 (h := ?_)
  try simp only [Act.put, sI, sZ, sS]
  refine wpAnyH_done (by kernel_rfl) ?_ _
  show wpList _ _ _ _ _ _
  clear hHeld hlk c2
  generalize (w.alloc (.cells #[.int .i64 k.kind, .int .i64 k.a, .string k.word, .int .i64 k.b, .int .i64 lo, .int .i64 hi, .string val] 188)).drew = W0 at *
  have HBg := zh (past_begin (uh HP0) k (uh HK) hno' hs hXl)
  go_wp2_with fail
  refine (uh HBg).mono ?_
  rintro e W1 ⟨rfl, m, lb, F0, p1, g1⟩
  have hw0 : w.heap.size < W0.heap.size := (uh HO0).lt
  have HP1 := zh p1
  have HO1 := zh ((uh HO0).keeps g1.2 (uh HN0))
  have hbl : ∀ x, x ∈ X -> x.2 ≠ lb := fun x hx e => List.rel_of_pairwise_cons p1.blocks hx e.symm
  have HS1 := zh ((uh HS).begin hb0 k lb hno' hbl)
  have HN1 : Hid (¬ pastF P (some m) ((k, lb) :: X) (upd Fs lb F0) w.heap.size) := fun q => by
   rcases g1.1 _ q with r | r
   ·exact uh HN0 r
   ·omega
  have HG1 := zh (Grew.below (uh HBd) g1)
  obtain ⟨x, hx, hxk⟩ : ∃ x, x ∈ (k, lb) :: X /\ x.1 = k := ⟨(k, lb), by simp, rfl⟩
  have hlen1 : (((k, lb) :: X).length : Int) <= bd + 1 := by
   simp only [List.length_cons]
   omega
  have hXl1 : ((k, lb) :: X).length < 100000 := by omega
  clear p1 g1 HP0 HO0 HS HN0 HB0 HBd HBg hXl hno hno' hbl o0 o1 o2 o3 hw0
  generalize (k, lb) :: X = X1 at *
  generalize upd Ln lb ([], 0) = Ln1 at *
  generalize upd Fs lb F0 = Fs1 at *
  go_wp2
  have c2 := (uh HP1).c2
  have o0 := (uh HO1).c0
  have o1 := (uh HO1).c1
  have o2 := (uh HO1).c2
  have o3 := (uh HO1).c3
  have hlk : (Instr.lookup 126 (.map (some m)) (.agg #[.int .i64 k.kind, .int .i64 k.a, .string k.word, .int .i64 k.b]) false).run Tryz.prog W1.drew = .ok (.pointer (some ⟨x.2, 0, none⟩)) W1.drew := by
   have := lookL_at ((uh HP1).below (below_drew W1)).map x hx
   rw [hxk] at this
   exact this
  refine wp_region_tail (fun y => y = W1.drew) 7 (by kernel_rfl) (by kernel_rfl) rfl (fun hHeld => ?_)
  refine takeH 0 (h := ?_)
  try simp only [Act.put, sI, sZ, sS]
  refine takeH 1 (h := ?_)
  try simp only [Act.put, sI, sZ, sS]
  refine takeH 2 (h := ?_)
  try simp only [Act.put, sI, sZ, sS]
  refine takeH 3 (h := ?_)
  try simp only [Act.put, sI, sZ, sS]
  refine takeH 4 (h := ?_)
  try simp only [Act.put, sI, sZ, sS]
  refine takeH 5 (h := ?_)
  try simp only [Act.put, sI, sZ, sS]
  refine takeH 6 (h := ?_)
  try simp only [Act.put, sI, sZ, sS]
  refine wpAnyH_done (by kernel_rfl) ?_ _
  show wpList _ _ _ _ _ _
  clear hHeld hlk c2 o0 o1 o2 o3
  have HPa := zh ((uh HP1).below (below_drew W1))
  have HOa := zh ((uh HO1).below (below_drew W1))
  have HGa := zh ((uh HG1).trans (Grew.of_below _ (below_drew W1)))
  clear HP1 HO1 HG1
  generalize W1.drew = Wa at *
  go_wp2
  have c0 := (uh HPa).c0
  have o4 := (uh HOa).c4
  have o5 := (uh HOa).c5
  refine wp_region_tail (fun y => y = Wa.drew) 7 (by kernel_rfl) (by kernel_rfl) rfl (fun hHeld => ?_)
  refine takeH 0 (h := ?_)
  try simp only [Act.put, sI, sZ, sS]
  refine takeH 1 (h := ?_)
  try simp only [Act.put, sI, sZ, sS]
  refine takeH 2 (h := ?_)
  try simp only [Act.put, sI, sZ, sS]
  refine takeH 3 (h := ?_)
  try simp only [Act.put, sI, sZ, sS]
  refine takeH 4 (h := ?_)
  try simp only [Act.put, sI, sZ, sS]
  refine takeH 5 (h := ?_)
  try simp only [Act.put, sI, sZ, sS]
  refine takeH 6 (h := ?_)
  try simp only [Act.put, sI, sZ, sS]
  refine wpAnyH_done (by kernel_rfl) ?_ _
  show wpList _ _ _ _ _ _
  clear hHeld c0 o4 o5
  have HPb := zh ((uh HPa).below (below_drew Wa))
  have HOb := zh ((uh HOa).below (below_drew Wa))
  have HGb := zh ((uh HGa).trans (Grew.of_below _ (below_drew Wa)))
  clear HPa HOa HGa
  generalize Wa.drew = Wb at *
  have HEn := zh (line_end ((uh HPb).line x hx) ((uh HS1).ok x hx) ((uh HS1).tells x hx) ((uh HS1).m0 x hx).1 (by have := ((uh HS1).m0 x hx).2; omega) hR hn1 hn2 hkn)
  go_wp2_with fail
  refine (uh HEn).mono ?_
  rintro e Wc ⟨rfl, V2, made2, ⟨F2, l2, g2⟩, ok2, t2, m02, m2, no2⟩
  have HOc := zh ((uh HOb).keeps g2.2 (fun q => uh HN1 (.inr (.inr ⟨x, hx, q⟩))))
  obtain ⟨p2, gg2⟩ := (uh HPb).turn hx l2 g2
  have HPc := zh p2
  have HGc := zh ((uh HGb).trans gg2)
  have HNc := zh (gg2.out (uh HN1) (uh HOb).lt)
  have HOt := zh ((uh HPb).others hx)
  have HOk := zh ok2
  have HTl := zh t2
  have HNo := zh no2
  have HLc := zh l2
  have hmb := ((uh HS1).m0 x hx).2
  have o6 := (uh HOc).c6
  clear l2 g2 ok2 t2 no2 p2 gg2 HEn HPb HOb HGb HN1
  by_cases hval : val = ByteArray.empty
  ·have htn := text_none
   subst hval
   have HS2 := zh ((uh HS1).turn hx (uh HOt) (lo := lo) (hi := hi) (val := ByteArray.empty) (bd' := bd + 3) (uh HOk) ⟨m02, by omega⟩ (by omega) (uh HTl))
   clear HOk HTl HNo HLc HOt HC
   have HTd := zh (past_tidy (uh HPc) x hx hXl1)
   rw [hxk] at HTd
   have o0 := (uh HOc).c0
   have o1 := (uh HOc).c1
   have o2 := (uh HOc).c2
   have o3 := (uh HOc).c3
   rw [hxk] at HS2
   go_wp2_with fail
   refine (uh HTd).mono ?_
   rintro e Wt ⟨rfl, X', pt, gt, hor⟩
   have HFin := zh (changed_of (uh HGc) pt gt (uh HS2) (show _ <= bd + 3 by omega) hor)
   clear pt gt hor HTd
   go_wp2
   (try simp only [Exit.inBlock, Exit.then])
   refine bodyPost_end (results_none rfl _ _ _) rfl ?_
   exact ⟨rfl, uh HFin⟩
  ·have hts := list_some val hval
   go_wp2
   have HCh : Hid (ChS P w.heap.size now lo hi val Wc.drew) := ⟨(uh HPc).c0, (uh HOc).c4, (uh HOc).c5, (uh HOc).c6⟩
   clear o6
   refine wp_region_tail (fun y => y.cell? ⟨P.b, P.o, none⟩ = some (.int .i64 now) /\ y.cell? ⟨w.heap.size, 4, none⟩ = some (.int .i64 lo) /\ y.cell? ⟨w.heap.size, 5, none⟩ = some (.int .i64 hi) /\ y.cell? ⟨w.heap.size, 6, none⟩ = some (.string val)) 11 (by kernel_rfl) (by kernel_rfl) (uh HCh) (fun hHeld => ?_)
   refine takeH 0 (h := ?_)
   try simp only [Act.put, sI, sZ, sS]
   refine takeH 1 (h := ?_)
   try simp only [Act.put, sI, sZ, sS]
   refine takeH 2 (h := ?_)
   try simp only [Act.put, sI, sZ, sS]
   refine takeH 3 (h := ?_)
   try simp only [Act.put, sI, sZ, sS]
   refine takeH 4 (h := ?_)
   try simp only [Act.put, sI, sZ, sS]
   refine takeH 7 (h := ?_)
   try simp only [Act.put, sI, sZ, sS]
   refine takeH 8 (h := ?_)
   try simp only [Act.put, sI, sZ, sS]
   refine takeH 9 (h := ?_)
   try simp only [Act.put, sI, sZ, sS]
   refine takeH 10 (h := ?_)
   try simp only [Act.put, sI, sZ, sS]
   refine readyH 5 (h := fun K hK => ?_)
   go_simp
   refine (uh HC _).mono ?_
   rintro e Wk ⟨rfl, bk⟩
   (try go_wp2_with fail)
   refine hK.out _ _ (ChS.carry (uh HCh) bk) (fun hHeld => ?_)
   clear hK K
   try simp only [Act.put, sI, sZ, sS]
   refine takeH 6 (h := ?_)
   try simp only [Act.put, sI, sZ, sS]
   refine wpAnyH_done (by kernel_rfl) ?_ _
   show wpList _ _ _ _ _ _
   clear hHeld
   have bck : Below Wc.heap.size Wc Wk := (below_drew Wc).trans bk
   have HPk := zh ((uh HPc).below bck)
   have HOk2 := zh ((uh HOc).below bck)
   have HGk := zh ((uh HGc).trans (Grew.of_below _ bck))
   have HLk := zh ((uh HLc).below bck)
   have hmb2 : made2 <= 3695 := by omega
   have HSy := zh (line_say (now := now) (lo := lo) (hi := hi) (val := val) (uh HLk) (uh HOk).rising (fun u hu => ((uh HOk).num u hu).2) m02 (by omega) (by
    have := (uh HOk).len
    omega) hR)
   clear bck bk HPc HOc HGc HLc HC HCh
   go_wp2_with fail
   refine (uh HSy).mono ?_
   rintro e Ws ⟨rfl, F3, l3, g3⟩
   have hxF : ∀ Fz : Nat -> Nat -> Prop, upd Fz x.2 F2 x.2 = F2 := fun Fz => upd_same Fz x.2 F2
   obtain ⟨p3, gg3⟩ := (uh HPk).turn (x := x) hx l3 (by rw [hxF]; exact g3)
   have HOc := zh ((uh HOk2).keeps gg3.2 (uh HNc))
   have HPc := zh p3
   have HGc := zh ((uh HGk).trans gg3)
   have HS2 := zh ((uh HS1).said hx (uh HOt) (bd' := bd + 3) (uh HOk) m02 hR hval hn1 hn2 (uh HNo) (uh HTl) (by omega) (by omega))
   clear l3 g3 p3 gg3 HSy HPk HOk2 HGk HOk HTl HNo HLk HOt hxF
   have HTd := zh (past_tidy (uh HPc) x hx hXl1)
   rw [hxk] at HTd
   have o0 := (uh HOc).c0
   have o1 := (uh HOc).c1
   have o2 := (uh HOc).c2
   have o3 := (uh HOc).c3
   rw [hxk] at HS2
   go_wp2_with fail
   refine (uh HTd).mono ?_
   rintro e Wt ⟨rfl, X', pt, gt, hor⟩
   have HFin := zh (changed_of (uh HGc) pt gt (uh HS2) (show _ <= bd + 3 by omega) hor)
   clear pt gt hor HTd
   go_wp2
   (try simp only [Exit.inBlock, Exit.then])
   refine bodyPost_end (results_none rfl _ _ _) rfl ?_
   exact ⟨rfl, uh HFin⟩
def kyO (o : Fop) : Ky := ⟨o.kind, o.a, o.word, o.b⟩
def nextS (S : Ky -> Int -> Int -> ByteArray) (now : Int) : Ky -> Int -> Int -> ByteArray := fun k c t => if c = now + 1 then S k now t else S k c t
def sayL (S : Ky -> Int -> Int -> ByteArray) (now : Int) (l : List Fop) : Ky -> Int -> Int -> ByteArray := l.foldl (fun S o => setS S (kyO o) now o.lo o.hi o.value) S
theorem sayL_snoc (S : Ky -> Int -> Int -> ByteArray) (now : Int) (l : List Fop) (o : Fop) : sayL S now (l ++ [o]) = setS (sayL S now l) (kyO o) now o.lo o.hi o.value := by
 unfold sayL
 rw [List.foldl_append]
 rfl
theorem Pst.next {X : List (Ky × Nat)} {Ln : Nat -> List Ver × Int} {now known bd : Int} {S : Ky -> Int -> Int -> ByteArray} (h : Pst X Ln now known bd S) (h1 : now + 1 <= 150) (hk : known <= now) : Pst X Ln (now + 1) known bd (nextS S now) := by
 have lv : ∀ x, x ∈ X -> ∀ v, v ∈ (Ln x.2).1 -> (v.live (now + 1) ↔ v.live now) := fun x hx v hv => by
  have := (h.ok x hx).when v hv
  constructor
  ·intro q
   have q1 := q.1
   have q2 := q.2
   exact ⟨by omega, by omega⟩
  ·intro q
   have q1 := q.1
   have q2 := q.2
   exact ⟨by omega, by omega⟩
 refine ⟨fun x hx => ?_, h.m0, fun x hx c c1 c2 t => ?_, fun k hkn c c1 c2 t => ?_⟩
 ·have o := h.ok x hx
  exact ⟨o.rising, o.num, o.right, o.val, fun v hv => by have := o.when v hv; omega, o.apart, o.len⟩
 ·unfold nextS
  by_cases e : c = now + 1
  ·rw [if_pos e, e]
   obtain ⟨k1, k2⟩ := h.tells x hx now hk (Int.le_refl _) t
   refine ⟨fun v hv hl hh => k1 v hv ((lv x hx v hv).1 hl) hh, fun q => ?_⟩
   obtain ⟨v, hv, hl, hh⟩ := k2 q
   exact ⟨v, hv, (lv x hx v hv).2 hl, hh⟩
  ·rw [if_neg e]
   exact h.tells x hx c c1 (by omega) t
 ·unfold nextS
  by_cases e : c = now + 1
  ·rw [if_pos e]
   exact h.none k hkn now hk (Int.le_refl _) t
  ·rw [if_neg e]
   exact h.none k hkn c c1 (by omega) t
theorem size_list (s : ByteArray) : s.size = s.data.toList.length := by
 show s.data.size = s.data.toList.length
 simp
theorem word_size {s : ByteArray} (h : wordB s = true) : s.size <= 12 := by
 unfold wordB wordL at h
 have := of_decide_eq_true (Bool.and_eq_true_iff.1 h).1
 rw [size_list]
 exact this.2
theorem empty_size {s : ByteArray} (h : emptyB s = true) : s.size = 0 := by
 unfold emptyB at h
 rw [ByteArray.toList_eq] at h
 rw [size_list, List.isEmpty_iff.1 h]
 rfl
theorem op_fit {o : Fop} (h : opB o = true) : KyOk (kyO o) /\ o.word.size <= 12 /\ o.value.size <= 12 /\ rightB o.lo o.hi = true := by
 unfold opB at h
 obtain ⟨h12, h3⟩ := Bool.and_eq_true_iff.1 h
 obtain ⟨h1, h2⟩ := Bool.and_eq_true_iff.1 h12
 have hv : o.value.size <= 12 := by
  rcases Bool.or_eq_true_iff.1 h3 with q | q
  ·rw [empty_size q]; omega
  ·exact word_size q
 have hk : (o.kind = 1 \/ o.kind = 2 \/ o.kind = 3) /\ idB o.a = true /\ o.word.size <= 12 /\ (0 <= o.b /\ o.b <= 1048576) := by
  unfold keyB at h1
  by_cases e1 : o.kind = 1
  ·rw [if_pos e1] at h1
   obtain ⟨a, b⟩ := Bool.and_eq_true_iff.1 h1
   obtain ⟨a1, a2⟩ := Bool.and_eq_true_iff.1 a
   have := of_decide_eq_true b
   exact ⟨.inl e1, a1, by rw [empty_size a2]; omega, by omega⟩
  ·rw [if_neg e1] at h1
   by_cases e2 : o.kind = 2
   ·rw [if_pos e2] at h1
    obtain ⟨a, b⟩ := Bool.and_eq_true_iff.1 h1
    obtain ⟨a1, a2⟩ := Bool.and_eq_true_iff.1 a
    unfold idB at a2
    exact ⟨.inr (.inl e2), a1, word_size b, of_decide_eq_true a2⟩
   ·rw [if_neg e2] at h1
    by_cases e3 : o.kind = 3
    ·rw [if_pos e3] at h1
     obtain ⟨a, b⟩ := Bool.and_eq_true_iff.1 h1
     obtain ⟨a1, a2⟩ := Bool.and_eq_true_iff.1 a
     have := of_decide_eq_true b
     exact ⟨.inr (.inr e3), a1, word_size a2, by omega⟩
    ·rw [if_neg e3] at h1
     cases h1
 obtain ⟨k1, k2, k3, k4⟩ := hk
 unfold idB at k2
 have k2' := of_decide_eq_true k2
 have ml : (12 : Nat) <= maxLen := by unfold maxLen; omega
 exact ⟨⟨WalkArith.wf_i64 (by show _ <= o.kind /\ o.kind <= _; omega), WalkArith.wf_i64 (by show _ <= o.a /\ o.a <= _; omega), WalkArith.wf_i64 (by show _ <= o.b /\ o.b <= _; omega), Nat.le_trans k3 ml⟩, k3, hv, h2⟩
theorem commit_ok {w : World} {P : Pl} {now known : Int} {S : Ky -> Int -> Int -> ByteArray} {F : Nat -> Prop} (h : PastW w P now known (24 * now) S F) (l : List Fop) (b off cap : Nat) (hl : okL l) (hO : OpsAt w b off l) (hb : ¬ F b) (ht : Tab w) (h0 : 0 <= now) (h1 : now < 150) (hk0 : known <= now) :
  Calls Tryz.prog 156 #[.pointer (some ⟨P.b, P.o, none⟩), .slice (some ⟨b, off, none⟩) l.length cap] w fun e w' => e = .returned .nilIface /\ Changed w P (now + 1) known (24 * (now + 1)) (sayL (nextS S now) (now + 1) l) F w' := by
 have hsm : ∀ x, x ∈ l -> Small x := fun x hx => by
  obtain ⟨_, q1, q2, _⟩ := op_fit (hl.2.2 x hx)
  have ml : (12 : Nat) <= maxLen := by unfold maxLen; omega
  exact ⟨Nat.le_trans q1 ml, Nat.le_trans q2 ml⟩
 have HW := zh (write_ok l (.slice (some ⟨b, off, none⟩) l.length cap) w hsm ⟨_, cap, rfl, .inr ⟨b, off, rfl, hO⟩⟩ hl ht)
 have HP := zh h
 have HO := zh hO
 have HL := zh hl
 have HNb := zh hb
 have hl1 := hl.1
 have hl2 := hl.2.1
 clear h hO hl hb ht hsm
 go_enter Tryz.func156, Tryz.ntmps156
 go_wp2_with fail
 refine (uh HW).mono ?_
 rintro e W1 ⟨rfl, b1⟩
 obtain ⟨mv, X, Ln, Fs, hX, hS, hlen, hF⟩ := (uh HP).below b1
 have c0 := hX.c0
 have f0 := hX.f P.o
 obtain ⟨p2, g2⟩ := hX.set (now + 1)
 have HP2 : Hid (PastW (W1.setCell ⟨P.b, P.o, none⟩ (.int .i64 (now + 1))) P (now + 1) known (24 * now) (nextS S now) F) := ⟨mv, X, Ln, Fs, p2, hS.next (by omega) hk0, hlen, hF⟩
 have HG2 : Hid (Grew w F F (W1.setCell ⟨P.b, P.o, none⟩ (.int .i64 (now + 1)))) := by rw [hF]; exact Grew.below b1 g2
 have HO2 : Hid (OpsAt (W1.setCell ⟨P.b, P.o, none⟩ (.int .i64 (now + 1))) b off l) := by
  obtain ⟨q1, q2⟩ := (uh HO).carry b1
  rw [<- hF] at g2
  refine ⟨Nat.lt_of_lt_of_le q1 g2.2.size, fun k hk => ?_⟩
  obtain ⟨a0, a1, a2, a3, a4, a5, a6⟩ := q2 k hk
  have t : ∀ {o : Nat} {v : Value}, W1.cell? ⟨b, o, none⟩ = some v -> (W1.setCell ⟨P.b, P.o, none⟩ (.int .i64 (now + 1))).cell? ⟨b, o, none⟩ = some v := fun {o v} e => (g2.2.cell (p := ⟨b, o, none⟩) q1 (uh HNb)).trans e
  exact ⟨t a0, t a1, t a2, t a3, t a4, t a5, t a6⟩
 clear b1 hX hS hF p2 g2 HW HP HO hlen
 go_wp2
 generalize W1.setCell ⟨P.b, P.o, none⟩ (.int .i64 (now + 1)) = W2 at *
 clear c0 f0
 go_loopw [32] (fun i x => ∃ (j : Nat) (F' : Nat -> Prop), j <= l.length /\ i = .int .i64 j /\ PastW x P (now + 1) known (24 * now + 3 * j) (sayL (nextS S now) (now + 1) (l.take j)) F' /\ Grew W2 F F' x) (fun i _ => l.length - (intOf i).toNat)
 case atStart => exact ⟨0, F, Nat.zero_le _, rfl, by simpa [sayL] using uh HP2, Grew.of_below F (Below.refl _ _)⟩
 case round =>
  clear HP2
  obtain ⟨j, F', hj, rfl, hP, hG⟩ := hrel
  have HP := zh hP
  have HG := zh hG
  clear hP hG
  by_cases hlt : j < l.length
  ·have hlt' : (j : Int) < (l.length : Int) := by omega
   have hj0 : (0 : Int) <= (j : Int) := by omega
   obtain ⟨q1, q2⟩ := uh HO2
   obtain ⟨a0, a1, a2, a3, a4, a5, a6⟩ := q2 j hlt
   have z0 := ((uh HG).2.cell (p := ⟨b, off + j * 7, none⟩) q1 (uh HNb)).trans a0
   have z1 := ((uh HG).2.cell (p := ⟨b, off + j * 7 + 1, none⟩) q1 (uh HNb)).trans a1
   have z2 := ((uh HG).2.cell (p := ⟨b, off + j * 7 + 2, none⟩) q1 (uh HNb)).trans a2
   have z3 := ((uh HG).2.cell (p := ⟨b, off + j * 7 + 3, none⟩) q1 (uh HNb)).trans a3
   have z4 := ((uh HG).2.cell (p := ⟨b, off + j * 7 + 4, none⟩) q1 (uh HNb)).trans a4
   have z5 := ((uh HG).2.cell (p := ⟨b, off + j * 7 + 5, none⟩) q1 (uh HNb)).trans a5
   have z6 := ((uh HG).2.cell (p := ⟨b, off + j * 7 + 6, none⟩) q1 (uh HNb)).trans a6
   clear a0 a1 a2 a3 a4 a5 a6 q1 q2
   obtain ⟨f1, f2, f3, f4⟩ := op_fit ((uh HL).2.2 _ (List.getElem_mem hlt))
   have HB := zh (below_box wr (.cells #[.int .i64 l[j].kind, .int .i64 l[j].a, .string l[j].word, .int .i64 l[j].b, .int .i64 l[j].lo, .int .i64 l[j].hi, .string l[j].value] 188))
   have HCh := zh (past_change ((uh HP).below (uh HB)) (kyO l[j]) l[j].lo l[j].hi l[j].value f1 (by show l[j].word.size <= _; omega) (by omega) f4 (by omega) (by omega) (by omega) (by omega) (by omega))
   have HSn : Hid (sayL (nextS S now) (now + 1) (l.take (j + 1)) = setS (sayL (nextS S now) (now + 1) (l.take j)) (kyO l[j]) (now + 1) l[j].lo l[j].hi l[j].value) := by
    unfold Hid
    rw [List.take_succ_eq_append_getElem hlt, sayL_snoc]
   clear f1 f2 f3 f4
   unfold kyO at HCh
   dsimp only at HCh
   go_wp2_with fail
   refine (uh HCh).mono ?_
   rintro e W7 ⟨rfl, F7, p7, g7⟩
   have HP7 : Hid (PastW W7 P (now + 1) known (24 * now + 3 * ((j + 1 : Nat) : Int)) (sayL (nextS S now) (now + 1) (l.take (j + 1))) F7) := by
    unfold Hid
    rw [uh HSn, show 24 * now + 3 * ((j + 1 : Nat) : Int) = 24 * now + 3 * (j : Int) + 3 by omega]
    exact p7
   have HG7 := zh (((uh HG).trans (Grew.of_below F' (uh HB))).trans g7)
   clear p7 g7 HCh HSn z0 z1 z2 z3 z4 z5 z6 HP HG HB
   go_wp2
   go_roundw
   case rel => exact ⟨j + 1, F7, by omega, by go_num, uh HP7, uh HG7⟩
   case measure => simp [intOf]; omega
  ·have hlt' : ¬ (j : Int) < (l.length : Int) := by omega
   obtain rfl : j = l.length := by omega
   have HF : Hid (Changed w P (now + 1) known (24 * (now + 1)) (sayL (nextS S now) (now + 1) l) F wr) := by
    have q := uh HP
    rw [List.take_length] at q
    obtain ⟨mv, X, Ln, Fs, k1, k2, k3, k4⟩ := q
    exact ⟨F', ⟨mv, X, Ln, Fs, k1, k2.mono (by omega), by omega, k4⟩, (uh HG2).trans (uh HG)⟩
   clear HP HG
   go_wp2
   go_ret
   exact ⟨rfl, uh HF⟩
end Go.Proofs.YtbmkmfoaoganeaaGreatDoor
