/- Texts of one proof, one behind the other. -/
import Derived.Test.YtfoojmflbifkpaaGreatDoorFn
import Derived.Test.YtfoojmflbifkpaaGreatDoorEy
import Derived.Test.YtfoojmflbifkpaaGreatDoorGe
import Derived.Test.YtfoojmflbifkpaaGreatDoorEl
import Derived.Test.YtfoojmflbifkpaaGreatDoorFo
set_option maxRecDepth 100000
set_option maxHeartbeats 16000000
namespace Go.Proofs.YtfoojmflbifkpaaGreatDoor
open Go.RowKit Go.Maps
structure RefB (w : World) (Q R : Nat) (used : Int) (off : Bool) (left : Int) (down : Bool) : Prop where
 c0 : w.cell? ⟨Q, 0, none⟩ = some (.pointer (some ⟨R, 0, none⟩))
 c1 : w.cell? ⟨Q, 1, none⟩ = some (.int .i64 used)
 c2 : w.cell? ⟨Q, 2, none⟩ = some (.bool off)
 c3 : w.cell? ⟨Q, 3, none⟩ = some (.int .i64 left)
 c4 : w.cell? ⟨Q, 4, none⟩ = some (.bool down)
 f : ∀ i, w.frozen? ⟨Q, i, none⟩ = false
section
variable {w w' : World} {Q R : Nat} {used left : Int} {off down : Bool}
theorem RefB.lt (h : RefB w Q R used off left down) : Q < w.heap.size := lt_of_cell h.c0
theorem RefB.keeps {H : Nat -> Prop} (h : RefB w Q R used off left down) (hk : Keeps H w w') (hH : ¬ H Q) : RefB w' Q R used off left down :=
 ⟨(hk.cell (p := ⟨Q, 0, none⟩) h.lt hH).trans h.c0, (hk.cell (p := ⟨Q, 1, none⟩) h.lt hH).trans h.c1, (hk.cell (p := ⟨Q, 2, none⟩) h.lt hH).trans h.c2, (hk.cell (p := ⟨Q, 3, none⟩) h.lt hH).trans h.c3, (hk.cell (p := ⟨Q, 4, none⟩) h.lt hH).trans h.c4, fun i => (hk.frozen (p := ⟨Q, i, none⟩) h.lt hH).trans (h.f i)⟩
theorem RefB.below (h : RefB w Q R used off left down) (hb : Below w.heap.size w w') : RefB w' Q R used off left down := h.keeps (Keeps.of_below (fun _ => False) hb zr) (fun f => f)
theorem RefB.setUsed (h : RefB w Q R used off left down) (n : Int) : RefB (w.setCell ⟨Q, 1, none⟩ (.int .i64 n)) Q R n off left down := by
 refine ⟨?_, World.cell?_setCell_same _ _ _ h.c1, ?_, ?_, ?_, fun i => by rw [World.frozen?_setCell]; exact h.f i⟩
 ·rw [World.cell?_setCell_other _ _ _ _ (by simp)]; exact h.c0
 ·rw [World.cell?_setCell_other _ _ _ _ (by simp)]; exact h.c2
 ·rw [World.cell?_setCell_other _ _ _ _ (by simp)]; exact h.c3
 ·rw [World.cell?_setCell_other _ _ _ _ (by simp)]; exact h.c4
theorem RefB.setOff (h : RefB w Q R used off left down) (b : Bool) : RefB (w.setCell ⟨Q, 2, none⟩ (.bool b)) Q R used b left down := by
 refine ⟨?_, ?_, World.cell?_setCell_same _ _ _ h.c2, ?_, ?_, fun i => by rw [World.frozen?_setCell]; exact h.f i⟩
 ·rw [World.cell?_setCell_other _ _ _ _ (by simp)]; exact h.c0
 ·rw [World.cell?_setCell_other _ _ _ _ (by simp)]; exact h.c1
 ·rw [World.cell?_setCell_other _ _ _ _ (by simp)]; exact h.c3
 ·rw [World.cell?_setCell_other _ _ _ _ (by simp)]; exact h.c4
theorem RefB.setLeft (h : RefB w Q R used off left down) (n : Int) : RefB (w.setCell ⟨Q, 3, none⟩ (.int .i64 n)) Q R used off n down := by
 refine ⟨?_, ?_, ?_, World.cell?_setCell_same _ _ _ h.c3, ?_, fun i => by rw [World.frozen?_setCell]; exact h.f i⟩
 ·rw [World.cell?_setCell_other _ _ _ _ (by simp)]; exact h.c0
 ·rw [World.cell?_setCell_other _ _ _ _ (by simp)]; exact h.c1
 ·rw [World.cell?_setCell_other _ _ _ _ (by simp)]; exact h.c2
 ·rw [World.cell?_setCell_other _ _ _ _ (by simp)]; exact h.c4
theorem RefB.setDown (h : RefB w Q R used off left down) (b : Bool) : RefB (w.setCell ⟨Q, 4, none⟩ (.bool b)) Q R used off left b := by
 refine ⟨?_, ?_, ?_, ?_, World.cell?_setCell_same _ _ _ h.c4, fun i => by rw [World.frozen?_setCell]; exact h.f i⟩
 ·rw [World.cell?_setCell_other _ _ _ _ (by simp)]; exact h.c0
 ·rw [World.cell?_setCell_other _ _ _ _ (by simp)]; exact h.c1
 ·rw [World.cell?_setCell_other _ _ _ _ (by simp)]; exact h.c2
 ·rw [World.cell?_setCell_other _ _ _ _ (by simp)]; exact h.c3
theorem rb_Cut (h : RefB w Q R used off left down) (n : Int) :
  Calls Tryz.prog 35 #[.pointer (some ⟨Q, 0, none⟩), .int .i64 n] w fun e w' => e = .returned (.tuple #[]) /\ RefB w' Q R used (decide (0 <= n)) n down /\ Keeps (· = Q) w w' := by
 have h2 := h.c2
 have h3 := h.c3
 have f2 := h.f 2
 have f3 := h.f 3
 have HD := zh ((h.setOff (decide (0 <= n))).setLeft n)
 have HK := zh ((keeps_set w Q 2 (.bool (decide (0 <= n)))).trans (keeps_set _ Q 3 (.int .i64 n)))
 clear h
 go_enter Tryz.func35, Tryz.ntmps35
 go_wp2
 go_end0
 exact ⟨rfl, uh HD, uh HK⟩
def roomE (used : Int) (down : Bool) : Int := if down then 6 else if 150 <= used then 4 else 0
theorem rb_room (h : RefB w Q R used off left down) :
  Calls Tryz.prog 79 #[.pointer (some ⟨Q, 0, none⟩)] w fun e w' => e = .returned (.int .i64 (roomE used down)) /\ w' = w := by
 have h1 := h.c1
 have h4 := h.c4
 clear h
 cases down with
 | true =>
  have e : roomE used true = 6 := rfl
  rw [e]
  clear e
  go_enter Tryz.func79, Tryz.ntmps79
  go_wp2
  go_ret
  exact ⟨rfl, rfl⟩
 | false =>
  by_cases hu : 150 <= used
  ·have e : roomE used false = 4 := if_pos hu
   rw [e]
   clear e
   go_enter Tryz.func79, Tryz.ntmps79
   go_wp2
   go_ret
   exact ⟨rfl, rfl⟩
  ·have e : roomE used false = 0 := if_neg hu
   rw [e]
   clear e
   go_enter Tryz.func79, Tryz.ntmps79
   go_wp2
   go_ret
   exact ⟨rfl, rfl⟩
def RbOn (w : World) (Q R : Nat) (used : Int) (off : Bool) (left : Int) (down : Bool) (w' : World) : Prop := ∃ left', (off = true -> left' = left - 1) /\ RefB w' Q R (used + 1) off left' down /\ Keeps (· = Q) w w'
theorem rb_write_on (h : RefB w Q R used off left down) (u0 : 0 <= used) (u1 : used < 150) (hp : off = false \/ (0 < left /\ left <= 9223372036854775807)) :
  Calls Tryz.prog 80 #[.pointer (some ⟨Q, 0, none⟩)] w fun e w' => e = .returned (.int .i64 0) /\ RbOn w Q R used off left down w' := by
 have h1 := h.c1
 have h2 := h.c2
 have h3 := h.c3
 have f1 := h.f 1
 have f3 := h.f 3
 cases off with
 | false =>
  have h1' := (h.setLeft (wrap64 (left - 1))).c1
  have HD : Hid (RbOn w Q R used false left down ((w.setCell ⟨Q, 3, none⟩ (.int .i64 (wrap64 (left - 1)))).setCell ⟨Q, 1, none⟩ (.int .i64 (used + 1)))) := ⟨_, fun q => (by cases q), (h.setLeft _).setUsed _, (keeps_set _ _ _ _).trans (keeps_set _ _ _ _)⟩
  clear h hp
  go_enter Tryz.func80, Tryz.ntmps80
  go_wp2
  go_ret
  exact ⟨rfl, uh HD⟩
 | true =>
  have hl : 0 < left /\ left <= 9223372036854775807 := by
   rcases hp with q | q
   ·cases q
   ·exact q
  obtain ⟨l0, l1⟩ := hl
  have l2 : (left == 0) = false := by simp; omega
  have h1' := (h.setLeft (left - 1)).c1
  have HD : Hid (RbOn w Q R used true left down ((w.setCell ⟨Q, 3, none⟩ (.int .i64 (left - 1))).setCell ⟨Q, 1, none⟩ (.int .i64 (used + 1)))) := ⟨_, fun _ => rfl, (h.setLeft _).setUsed _, (keeps_set _ _ _ _).trans (keeps_set _ _ _ _)⟩
  clear h hp
  go_enter Tryz.func80, Tryz.ntmps80
  go_wp2
  go_ret
  exact ⟨rfl, uh HD⟩
theorem rb_write_off (h : RefB w Q R used true 0 down) :
  Calls Tryz.prog 80 #[.pointer (some ⟨Q, 0, none⟩)] w fun e w' => e = .returned (.int .i64 14) /\ RefB w' Q R used true 0 true /\ Keeps (· = Q) w w' := by
 have h2 := h.c2
 have h3 := h.c3
 have h4 := h.c4
 have f4 := h.f 4
 have HD := zh (h.setDown true)
 have HK := zh (keeps_set w Q 4 (.bool true))
 clear h
 go_enter Tryz.func80, Tryz.ntmps80
 go_wp2
 go_ret
 exact ⟨rfl, uh HD, uh HK⟩
end
end Go.Proofs.YtfoojmflbifkpaaGreatDoor

namespace Go.Proofs.YtfoojmflbifkpaaGreatDoor
open Go.RowKit Go.Maps
theorem room_ok {used : Int} (h : used < 150) : roomE used false = 0 := by
 have hu : ¬ 150 <= used := by omega
 exact if_neg hu
theorem keeps_box {a b : World} {F : Nat -> Prop} (h : Keeps F a b) {B i j : Nat} {x y : Value} (hB : a.heap.size <= B) : Keeps F a ((b.setCell ⟨B, i, none⟩ x).setCell ⟨B, j, none⟩ y) :=
 h.then ((keeps_set b B i x).trans (keeps_set _ B j y)) (fun k hk e => by omega)
section
variable {w : World} {Q R : Nat} {used left : Int} {off down : Bool}
theorem rb_commit_no (h : RefB w Q R used off left down) (hr : roomE used down ≠ 0) (ad : Option Addr) (n c : Nat) :
  Calls Tryz.prog 31 #[.pointer (some ⟨Q, 0, none⟩), .slice ad n c] w fun e w' => e = .returned (.agg #[.int .i64 (roomE used down), .int .i64 (-1)]) /\ Below w.heap.size w w' := by
 have hb := below_box w (.cells #[.int .i64 0, .int .i64 0] 45)
 have HB := zh hb
 have HP := zh (fault_box w)
 have HR := zh (rb_room (h.below hb))
 have hne : (roomE used down == 0) = false := by simpa using hr
 generalize roomE used down = e0 at *
 have HBa := zh (fun W => ref_Bare e0 W)
 clear h hb hr
 go_enter Tryz.func31, Tryz.ntmps31
 go_wp2_with fail
 generalize w.alloc (.cells #[.int .i64 0, .int .i64 0] 45) = W0 at *
 refine (uh HR).mono ?_
 rintro e W1 ⟨rfl, hW1⟩
 obtain rfl : W0 = W1 := hW1.symm
 clear hW1 HR
 go_wp2_with fail
 refine (uh HBa _).mono ?_
 rintro e W4 ⟨rfl, hW4⟩
 have b4 : Below W0.heap.size W0 W4 := by rw [hW4]; exact below_box _ _
 have HB4 := zh ((uh HB).trans (b4.mono (uh HB).size))
 obtain ⟨⟨p0, f0⟩, p1, f1⟩ := (uh HP).carry b4
 have q := two_set W4 w.heap.size (.int .i64 e0) (.int .i64 (-1)) _ _ p0 p1
 clear hW4 b4 HBa
 go_wp2
 exact bodyPost_ret (v := .agg #[.int .i64 e0, .int .i64 (-1)]) (by simp [results, Tryz.results31, go_sem, q.1, q.2]) rfl ⟨rfl, ((uh HB4).setCell zr _).setCell zr _⟩
theorem rb_commit_err (h : RefB w Q R used off left down) (hr : roomE used down = 0) {v : Value} {s : ByteArray} {n i : Int} (hW : ∀ W, Below w.heap.size w W -> RefSays v s n i W) (hn : n ≠ 0) :
  Calls Tryz.prog 31 #[.pointer (some ⟨Q, 0, none⟩), v] w fun e w' => e = .returned (.agg #[.int .i64 n, .int .i64 i]) /\ Below w.heap.size w w' := by
 have hb := below_box w (.cells #[.int .i64 0, .int .i64 0] 45)
 have HB := zh hb
 have HP := zh (fault_box w)
 have HW := zh (hW _ hb)
 have HR := zh (rb_room (h.below hb))
 rw [hr] at HR
 clear hW hb h hr
 go_enter Tryz.func31, Tryz.ntmps31
 go_wp2_with fail
 unfold RefSays at HW
 generalize w.alloc (.cells #[.int .i64 0, .int .i64 0] 45) = W0 at *
 refine (uh HR).mono ?_
 rintro e W1 ⟨rfl, hW1⟩
 obtain rfl : W0 = W1 := hW1.symm
 clear hW1 HR
 go_wp2_with fail
 refine (uh HW).mono ?_
 rintro e W1 ⟨rfl, b1⟩
 have b2 : Below W0.heap.size W0 (W1.alloc (.cells #[.int .i64 n, .int .i64 i] 45)) := b1.trans ((below_box _ _).mono b1.size)
 have HB2 := zh ((uh HB).trans (b2.mono (uh HB).size))
 obtain ⟨⟨p0, f0⟩, p1, f1⟩ := (uh HP).carry b2
 have x0 : (W1.alloc (.cells #[.int .i64 n, .int .i64 i] 45)).cell? ⟨W1.heap.size, 0, none⟩ = some (.int .i64 n) := by simp
 have x1 : (W1.alloc (.cells #[.int .i64 n, .int .i64 i] 45)).cell? ⟨W1.heap.size, 1, none⟩ = some (.int .i64 i) := by simp
 clear HP HW b1 b2
 go_upto_region 5 with fail
 generalize W1.alloc (.cells #[.int .i64 n, .int .i64 i] 45) = W2 at *
 have q := two_set W2 w.heap.size (.int .i64 n) (.int .i64 i) _ _ p0 p1
 go_wp2
 exact bodyPost_ret (v := .agg #[.int .i64 n, .int .i64 i]) (by simp [results, Tryz.results31, go_sem, q.1, q.2]) rfl ⟨rfl, ((uh HB2).setCell zr _).setCell zr _⟩
theorem rb_commit_off (h : RefB w Q R used true 0 false) (u1 : used < 150) {v : Value} {s : ByteArray} {i : Int} (hW : ∀ W, Below w.heap.size w W -> RefSays v s 0 i W) :
  Calls Tryz.prog 31 #[.pointer (some ⟨Q, 0, none⟩), v] w fun e w' => e = .returned (.agg #[.int .i64 14, .int .i64 (-1)]) /\ RefB w' Q R used true 0 true /\ Keeps (· = Q) w w' := by
 have hb := below_box w (.cells #[.int .i64 0, .int .i64 0] 45)
 have HB := zh hb
 have HP := zh (fault_box w)
 have HW := zh (hW _ hb)
 have HR := zh (rb_room (h.below hb))
 have hr : roomE used false = 0 := room_ok u1
 rw [hr] at HR
 have HO := zh (fun W (hW : Below w.heap.size w W) => rb_write_off (h.below hW))
 have HQ : Hid (Q < w.heap.size) := h.lt
 have HBa := zh (fun W => ref_Bare 14 W)
 clear hW hb h hr
 go_enter Tryz.func31, Tryz.ntmps31
 go_wp2_with fail
 unfold RefSays at HW
 generalize hW0 : w.alloc (.cells #[.int .i64 0, .int .i64 0] 45) = W0 at *
 have HZ : Hid (w.heap.size < W0.heap.size) := by rw [<- hW0]; unfold Hid; simp
 clear hW0
 refine (uh HR).mono ?_
 rintro e W1 ⟨rfl, hW1⟩
 obtain rfl : W0 = W1 := hW1.symm
 clear hW1 HR
 go_wp2_with fail
 refine (uh HW).mono ?_
 rintro e W1 ⟨rfl, b1⟩
 have b2 : Below W0.heap.size W0 (W1.alloc (.cells #[.int .i64 0, .int .i64 i] 45)) := b1.trans ((below_box _ _).mono b1.size)
 have HB2 := zh ((uh HB).trans (b2.mono (uh HB).size))
 have HP2 := zh ((uh HP).carry b2)
 have x0 : (W1.alloc (.cells #[.int .i64 0, .int .i64 i] 45)).cell? ⟨W1.heap.size, 0, none⟩ = some (.int .i64 0) := by simp
 have HZ2 : Hid (w.heap.size < (W1.alloc (.cells #[.int .i64 0, .int .i64 i] 45)).heap.size) := Nat.lt_of_lt_of_le (uh HZ) b2.size
 clear HP HW b1 b2
 go_upto_region 5 with fail
 generalize W1.alloc (.cells #[.int .i64 0, .int .i64 i] 45) = W2 at *
 have HO2 := zh (uh HO W2 (uh HB2))
 go_wp2_with fail
 refine (uh HO2).mono ?_
 rintro e W3 ⟨rfl, r3, k3⟩
 have HR3 := zh r3
 have HK3 := zh k3
 clear r3 k3 x0 HO HO2
 go_wp2_with fail
 refine (uh HBa _).mono ?_
 rintro e W4 ⟨rfl, hW4⟩
 have b4 : Below W3.heap.size W3 W4 := by rw [hW4]; exact below_box _ _
 have hne : w.heap.size ≠ Q := by have := uh HQ; omega
 obtain ⟨⟨p0, f0⟩, p1, f1⟩ := uh HP2
 have k4 : Keeps (· = Q) W2 W4 := (uh HK3).then (Keeps.of_below (fun _ => False) b4 zr) (fun _ _ q => q.elim)
 have p0' := (k4.cell (p := ⟨w.heap.size, 0, none⟩) (uh HZ2) hne).trans p0
 have p1' := (k4.cell (p := ⟨w.heap.size, 1, none⟩) (uh HZ2) hne).trans p1
 have f0' := (k4.frozen (p := ⟨w.heap.size, 0, none⟩) (uh HZ2) hne).trans f0
 have f1' := (k4.frozen (p := ⟨w.heap.size, 1, none⟩) (uh HZ2) hne).trans f1
 have q := two_set W4 w.heap.size (.int .i64 14) (.int .i64 (-1)) _ _ p0' p1'
 have HR5 := zh ((((uh HR3).below b4).keeps (keeps_set W4 w.heap.size 0 (.int .i64 14)) (fun e => hne e.symm)).keeps (keeps_set _ w.heap.size 1 (.int .i64 (-1))) (fun e => hne e.symm))
 have HK5 : Hid (Keeps (· = Q) w ((W4.setCell ⟨w.heap.size, 0, none⟩ (.int .i64 14)).setCell ⟨w.heap.size, 1, none⟩ (.int .i64 (-1)))) :=
  keeps_box ((Keeps.of_below (· = Q) (uh HB2) zr).trans k4) zr
 clear hW4 b4 HBa p0 p1 f0 f1 k4 hne
 go_wp2
 exact bodyPost_ret (v := .agg #[.int .i64 14, .int .i64 (-1)]) (by simp [results, Tryz.results31, go_sem, q.1, q.2]) rfl ⟨rfl, uh HR5, uh HK5⟩
def RbCom (w : World) (Q R : Nat) (used : Int) (off : Bool) (left : Int) (txs : List (List Fop)) (known : Int) (G : Nat -> Prop) (w' : World) : Prop :=
 ∃ G' left', (off = true -> left' = left - 1) /\ RefB w' Q R (used + 1) off left' false /\ RefQ w' R txs known G' /\ (∀ j, G' j -> G j \/ w.heap.size < j) /\ Keeps (fun j => j = Q \/ j = R) w w'
theorem rb_commit_on (h : RefB w Q R used off left false) (u0 : 0 <= used) (u1 : used < 150) (hp : off = false \/ (0 < left /\ left <= 9223372036854775807)) {txs : List (List Fop)} {known : Int} {G : Nat -> Prop} (hq : RefQ w R txs known G) (hQ : ¬ G Q) {b o cap : Nat} {l : List Fop} (hO : OpsAt w b o l) (hbQ : b ≠ Q) (hok : okL l) {s : ByteArray} {i : Int} (hf : txs.length < 150) (hW : ∀ W, Keeps (· = Q) w W -> RefSays (.slice (some ⟨b, o, none⟩) l.length cap) s 0 i W) :
  Calls Tryz.prog 31 #[.pointer (some ⟨Q, 0, none⟩), .slice (some ⟨b, o, none⟩) l.length cap] w fun e w' => e = .returned (.agg #[.int .i64 0, .int .i64 (-1)]) /\ RbCom w Q R used off left (txs ++ [l]) known G w' := by
 have hb := below_box w (.cells #[.int .i64 0, .int .i64 0] 45)
 have HB := zh hb
 have HP := zh (fault_box w)
 have HW := zh (hW _ (Keeps.of_below _ hb zr))
 have HR := zh (rb_room (h.below hb))
 have hr : roomE used false = 0 := room_ok u1
 rw [hr] at HR
 have HOn := zh (fun W (hW : Below w.heap.size w W) => rb_write_on (h.below hW) u0 u1 hp)
 have HQl : Hid (Q < w.heap.size) := h.lt
 have HRl : Hid (R < w.heap.size) := hq.lt R hq.r
 have HCo : Hid (∀ W, Keeps (· = Q) w W -> Calls Tryz.prog 8 #[.pointer (some ⟨R, 0, none⟩), .slice (some ⟨b, o, none⟩) l.length cap] W fun e w' => e = .returned (.agg #[.int .i64 0, .int .i64 (-1)]) /\ (∃ G', RefQ w' R (txs ++ [l]) known G' /\ ∀ j, G' j -> G j \/ W.heap.size <= j) /\ Keeps (fun j => j = R) W w') := fun W hk =>
  rp_commit_ok (cap := cap) (hq.keeps hk (fun i hi e => hQ (by rw [<- e]; exact hi))) (opsAt_keeps hO hk hbQ) hok (fun W' hb' => hW W' (hk.then (Keeps.of_below (fun _ => False) hb' zr) (fun _ _ q => q.elim))) hf
 have HGl : Hid (∀ j, G j -> j < w.heap.size) := hq.lt
 have HQR : Hid (Q ≠ R) := fun e => hQ (by rw [e]; exact hq.r)
 clear hW hb h hr hq hO hok hp hbQ hf
 go_enter Tryz.func31, Tryz.ntmps31
 go_wp2_with fail
 unfold RefSays at HW
 generalize hW0 : w.alloc (.cells #[.int .i64 0, .int .i64 0] 45) = W0 at *
 have HZ : Hid (w.heap.size < W0.heap.size) := by rw [<- hW0]; unfold Hid; simp
 clear hW0
 refine (uh HR).mono ?_
 rintro e W1 ⟨rfl, hW1⟩
 obtain rfl : W0 = W1 := hW1.symm
 clear hW1 HR
 go_wp2_with fail
 refine (uh HW).mono ?_
 rintro e W1 ⟨rfl, b1⟩
 have b2 : Below W0.heap.size W0 (W1.alloc (.cells #[.int .i64 0, .int .i64 i] 45)) := b1.trans ((below_box _ _).mono b1.size)
 have HB2 := zh ((uh HB).trans (b2.mono (uh HB).size))
 have HP2 := zh ((uh HP).carry b2)
 have x0 : (W1.alloc (.cells #[.int .i64 0, .int .i64 i] 45)).cell? ⟨W1.heap.size, 0, none⟩ = some (.int .i64 0) := by simp
 have HZ2 : Hid (w.heap.size < (W1.alloc (.cells #[.int .i64 0, .int .i64 i] 45)).heap.size) := Nat.lt_of_lt_of_le (uh HZ) b2.size
 clear HP HW b1 b2
 go_upto_region 5 with fail
 generalize W1.alloc (.cells #[.int .i64 0, .int .i64 i] 45) = W2 at *
 have HO2 := zh (uh HOn W2 (uh HB2))
 go_wp2_with fail
 refine (uh HO2).mono ?_
 rintro e W3 ⟨rfl, left', hl', r3, k3⟩
 have HR3 := zh r3
 have HL3 := zh hl'
 have HK2 := zh k3
 have HK3 := zh ((Keeps.of_below (· = Q) (uh HB2) zr).trans k3)
 have HCo3 := zh (uh HCo W3 (uh HK3))
 have d0 := r3.c0
 clear r3 k3 hl' x0 HOn HO2 HCo
 go_wp2_with fail
 refine (uh HCo3).mono ?_
 rintro e W4 ⟨rfl, ⟨G', q4, hG4⟩, k4⟩
 have hne : w.heap.size ≠ Q := by have := uh HQl; omega
 have hne' : w.heap.size ≠ R := by have := uh HRl; omega
 have hz3 : w.heap.size < W3.heap.size := Nat.lt_of_lt_of_le (uh HZ2) (uh HK2).size
 obtain ⟨⟨p0, f0⟩, p1, f1⟩ := uh HP2
 have p0' := (k4.cell (p := ⟨w.heap.size, 0, none⟩) hz3 hne').trans (((uh HK2).cell (p := ⟨w.heap.size, 0, none⟩) (uh HZ2) hne).trans p0)
 have p1' := (k4.cell (p := ⟨w.heap.size, 1, none⟩) hz3 hne').trans (((uh HK2).cell (p := ⟨w.heap.size, 1, none⟩) (uh HZ2) hne).trans p1)
 have f0' := (k4.frozen (p := ⟨w.heap.size, 0, none⟩) hz3 hne').trans (((uh HK2).frozen (p := ⟨w.heap.size, 0, none⟩) (uh HZ2) hne).trans f0)
 have f1' := (k4.frozen (p := ⟨w.heap.size, 1, none⟩) hz3 hne').trans (((uh HK2).frozen (p := ⟨w.heap.size, 1, none⟩) (uh HZ2) hne).trans f1)
 have q := two_set W4 w.heap.size (.int .i64 0) (.int .i64 (-1)) _ _ p0' p1'
 have HF : Hid (RbCom w Q R used off left (txs ++ [l]) known G ((W4.setCell ⟨w.heap.size, 0, none⟩ (.int .i64 0)).setCell ⟨w.heap.size, 1, none⟩ (.int .i64 (-1)))) := by
  have hGb : ∀ j, G' j -> j ≠ w.heap.size := fun j hj e => by
   rcases hG4 j hj with r | r
   ·have := uh HGl j r; omega
   ·omega
  refine ⟨G', left', uh HL3, ?_, ?_, fun j hj => ?_, keeps_box (((uh HK3).mono (fun _ _ e => .inl e)).then k4 (fun _ _ e => .inr e)) zr⟩
  ·exact (((uh HR3).keeps k4 (uh HQR)).keeps (keeps_set W4 w.heap.size 0 (.int .i64 0)) (fun e => hne e.symm)).keeps (keeps_set _ w.heap.size 1 (.int .i64 (-1))) (fun e => hne e.symm)
  ·exact (q4.keeps (keeps_set W4 w.heap.size 0 (.int .i64 0)) hGb).keeps (keeps_set _ w.heap.size 1 (.int .i64 (-1))) hGb
  ·rcases hG4 j hj with r | r
   ·exact .inl r
   ·exact .inr (by omega)
 clear p0 p1 f0 f1 k4 q4 hG4 hne hne' hz3 d0 HCo3
 go_wp2
 exact bodyPost_ret (v := .agg #[.int .i64 0, .int .i64 (-1)]) (by simp [results, Tryz.results31, go_sem, q.1, q.2]) rfl ⟨rfl, uh HF⟩
theorem rb_forget_no (h : RefB w Q R used off left down) (hr : roomE used down ≠ 0) (at_ : Int) :
  Calls Tryz.prog 33 #[.pointer (some ⟨Q, 0, none⟩), .int .i64 at_] w fun e w' => e = .returned (.int .i64 (roomE used down)) /\ w' = w := by
 have HR := zh (rb_room h)
 have hne : (roomE used down == 0) = false := by simpa using hr
 generalize roomE used down = e0 at *
 clear h hr
 go_enter Tryz.func33, Tryz.ntmps33
 go_wp2_with fail
 refine (uh HR).mono ?_
 rintro e W1 ⟨rfl, hW1⟩
 obtain rfl : w = W1 := hW1.symm
 clear hW1 HR
 go_wp2
 go_ret
 exact ⟨rfl, rfl⟩
theorem rb_forget_bad (h : RefB w Q R used off left down) (hr : roomE used down = 0) {txs : List (List Fop)} {known : Int} {G : Nat -> Prop} (hq : RefQ w R txs known G) (at_ : Int) (hb : at_ < 0 \/ (txs.length : Int) < at_ \/ at_ < known) :
  Calls Tryz.prog 33 #[.pointer (some ⟨Q, 0, none⟩), .int .i64 at_] w fun e w' => e = .returned (.int .i64 (forgetErr txs.length at_)) /\ w' = w := by
 have HR := zh (rb_room h)
 rw [hr] at HR
 have c0 := h.c0
 have d1 := hq.c1
 obtain ⟨ad, cap, d0⟩ := hq.refP.len
 have HN := zh (rp_Now d0)
 have HI := zh (fun W => ref_in at_ 0 txs.length W)
 clear h hr hq d0
 obtain ⟨n, hn⟩ : ∃ n, n = txs.length := ⟨_, rfl⟩
 rw [<- hn] at HN HI hb ⊢
 clear hn
 by_cases hi : 0 <= at_ /\ at_ <= (n : Int)
 ·have hB : inB at_ 0 n = true := decide_eq_true hi
  rw [hB] at HI
  have hE : forgetErr n at_ = 10 := if_neg (by omega)
  rw [hE]
  have hk : at_ < known := by omega
  clear hB hE hi hb
  go_enter Tryz.func33, Tryz.ntmps33
  go_wp2_with fail
  refine (uh HR).mono ?_
  rintro e W1 ⟨rfl, hW1⟩
  obtain rfl : w = W1 := hW1.symm
  clear hW1 HR
  go_wp2_with fail
  refine (uh HN).mono ?_
  rintro e W1 ⟨rfl, hW1⟩
  obtain rfl : w = W1 := hW1.symm
  clear hW1 HN
  go_wp2_with fail
  refine (uh HI _).mono ?_
  rintro e W1 ⟨rfl, hW1⟩
  obtain rfl : w = W1 := hW1.symm
  clear hW1 HI
  go_wp2
  go_ret
  exact ⟨rfl, rfl⟩
 ·have hB : inB at_ 0 n = false := decide_eq_false hi
  rw [hB] at HI
  have hE : forgetErr n at_ = 2 := if_pos (by omega)
  rw [hE]
  clear hB hE hi hb d1
  go_enter Tryz.func33, Tryz.ntmps33
  go_wp2_with fail
  refine (uh HR).mono ?_
  rintro e W1 ⟨rfl, hW1⟩
  obtain rfl : w = W1 := hW1.symm
  clear hW1 HR
  go_wp2_with fail
  refine (uh HN).mono ?_
  rintro e W1 ⟨rfl, hW1⟩
  obtain rfl : w = W1 := hW1.symm
  clear hW1 HN
  go_wp2_with fail
  refine (uh HI _).mono ?_
  rintro e W1 ⟨rfl, hW1⟩
  obtain rfl : w = W1 := hW1.symm
  clear hW1 HI
  go_wp2
  go_ret
  exact ⟨rfl, rfl⟩
theorem rb_forget_off (h : RefB w Q R used true 0 false) (u1 : used < 150) {txs : List (List Fop)} {known : Int} {G : Nat -> Prop} (hq : RefQ w R txs known G) (at_ : Int) (a0 : 0 <= at_) (a1 : at_ <= (txs.length : Int)) (a2 : known <= at_) :
  Calls Tryz.prog 33 #[.pointer (some ⟨Q, 0, none⟩), .int .i64 at_] w fun e w' => e = .returned (.int .i64 14) /\ RefB w' Q R used true 0 true /\ Keeps (· = Q) w w' := by
 have HR := zh (rb_room h)
 have hr : roomE used false = 0 := room_ok u1
 rw [hr] at HR
 have c0 := h.c0
 have d1 := hq.c1
 obtain ⟨ad, cap, d0⟩ := hq.refP.len
 have HN := zh (rp_Now d0)
 have HI := zh (fun W => ref_in at_ 0 txs.length W)
 have hB : inB at_ 0 txs.length = true := decide_eq_true ⟨a0, a1⟩
 rw [hB] at HI
 have HO := zh (rb_write_off h)
 have hk : ¬ at_ < known := by omega
 clear h hr hq d0 hB a0 a1 a2 u1
 go_enter Tryz.func33, Tryz.ntmps33
 go_wp2_with fail
 refine (uh HR).mono ?_
 rintro e W1 ⟨rfl, hW1⟩
 obtain rfl : w = W1 := hW1.symm
 clear hW1 HR
 go_wp2_with fail
 refine (uh HN).mono ?_
 rintro e W1 ⟨rfl, hW1⟩
 obtain rfl : w = W1 := hW1.symm
 clear hW1 HN
 go_wp2_with fail
 refine (uh HI _).mono ?_
 rintro e W1 ⟨rfl, hW1⟩
 obtain rfl : w = W1 := hW1.symm
 clear hW1 HI
 go_wp2_with fail
 refine (uh HO).mono ?_
 rintro e W2 ⟨rfl, r2, k2⟩
 have HF := zh (And.intro r2 k2)
 clear r2 k2 HO
 go_wp2
 go_ret
 exact ⟨rfl, (uh HF).1, (uh HF).2⟩
theorem rb_forget_on (h : RefB w Q R used off left false) (u0 : 0 <= used) (u1 : used < 150) (hp : off = false \/ (0 < left /\ left <= 9223372036854775807)) {txs : List (List Fop)} {known : Int} {G : Nat -> Prop} (hq : RefQ w R txs known G) (hQ : ¬ G Q) (at_ : Int) (a0 : 0 <= at_) (a1 : at_ <= (txs.length : Int)) (a2 : known <= at_) :
  Calls Tryz.prog 33 #[.pointer (some ⟨Q, 0, none⟩), .int .i64 at_] w fun e w' => e = .returned (.int .i64 0) /\ RbCom w Q R used off left txs at_ G w' := by
 have HR := zh (rb_room h)
 have hr : roomE used false = 0 := room_ok u1
 rw [hr] at HR
 have c0 := h.c0
 have d1 := hq.c1
 obtain ⟨ad, cap, d0⟩ := hq.refP.len
 have HN := zh (rp_Now d0)
 have HI := zh (fun W => ref_in at_ 0 txs.length W)
 have hB : inB at_ 0 txs.length = true := decide_eq_true ⟨a0, a1⟩
 rw [hB] at HI
 have HO := zh (rb_write_on h u0 u1 hp)
 have hk : ¬ at_ < known := by omega
 have HQR : Hid (Q ≠ R) := fun e => hQ (by rw [e]; exact hq.r)
 have HC : Hid (∀ W, Keeps (· = Q) w W -> Calls Tryz.prog 12 #[.pointer (some ⟨R, 0, none⟩), .int .i64 at_] W fun e w' => e = .returned (.int .i64 0) /\ RefQ w' R txs at_ G /\ Keeps (· = R) W w') := fun W hk => by
  have q1 := hq.keeps hk (fun i hi e => hQ (by rw [<- e]; exact hi))
  obtain ⟨ad, cap, c0⟩ := q1.refP.len
  refine (rp_forget_ok c0 q1.c1 q1.f1 at_ a0 a1 a2).mono ?_
  rintro e y2 ⟨rfl, rfl⟩
  exact ⟨rfl, q1.forgot at_, keeps_set _ _ _ _⟩
 clear h hr hq d0 hB a0 a1 a2 u1 u0 hp
 go_enter Tryz.func33, Tryz.ntmps33
 go_wp2_with fail
 refine (uh HR).mono ?_
 rintro e W1 ⟨rfl, hW1⟩
 obtain rfl : w = W1 := hW1.symm
 clear hW1 HR
 go_wp2_with fail
 refine (uh HN).mono ?_
 rintro e W1 ⟨rfl, hW1⟩
 obtain rfl : w = W1 := hW1.symm
 clear hW1 HN
 go_wp2_with fail
 refine (uh HI _).mono ?_
 rintro e W1 ⟨rfl, hW1⟩
 obtain rfl : w = W1 := hW1.symm
 clear hW1 HI
 go_wp2_with fail
 refine (uh HO).mono ?_
 rintro e W2 ⟨rfl, left', hl', r2, k2⟩
 have HR2 := zh r2
 have HL2 := zh hl'
 have HK2 := zh k2
 have HC2 := zh (uh HC W2 k2)
 have e0 := r2.c0
 clear r2 k2 hl' HO HC c0
 go_wp2_with fail
 refine (uh HC2).mono ?_
 rintro e W3 ⟨rfl, q3, k3⟩
 have HF : Hid (RbCom w Q R used off left txs at_ G W3) := ⟨G, left', uh HL2, (uh HR2).keeps k3 (uh HQR), q3, fun j hj => .inl hj, ((uh HK2).mono (fun _ _ e => .inl e)).then k3 (fun _ _ e => .inr e)⟩
 clear q3 k3 HC2
 go_wp2
 go_ret
 exact ⟨rfl, uh HF⟩
end
end Go.Proofs.YtfoojmflbifkpaaGreatDoor

namespace Go.Proofs.YtfoojmflbifkpaaGreatDoor
open Go.RowKit Go.Maps
theorem base_Open_none (w : World) : Calls Tryz.prog 28 #[.pointer none] w fun e w' => e = .returned (.tuple #[.pointer none, .iface 43 (.int .i64 7)]) /\ w' = w := by
 go_enter Tryz.func28, Tryz.ntmps28
 go_wp2
 go_ret2
 exact ⟨rfl, rfl⟩
theorem base_ready {w : World} {B D : Nat} {es : List (List Fop ⊕ Int)} {down : Bool} {ps : Nat -> ByteArray} {cut : Bool} {left : Int} {F : Nat -> Prop} (h : BdW w B D es down ps cut left F) (hr : roomE es.length down ≠ 0) :
  Calls Tryz.prog 77 #[.pointer (some ⟨B, 0, none⟩)] w fun e w' => e = .returned (.iface 43 (.int .i64 (roomE es.length down))) /\ Below w.heap.size w w' := by
 cases down with
 | true => exact base_ready_down h
 | false =>
  unfold roomE at hr ⊢
  by_cases h1 : (150 : Int) <= (es.length : Int)
  ·rw [if_neg (by simp), if_pos h1]
   exact base_ready_full h (by have := h.most; omega)
  ·rw [if_neg (by simp), if_neg h1] at hr
   exact absurd rfl hr
theorem base_commit_no {w : World} {B : Nat} {e0 : Int} (hr : Calls Tryz.prog 77 #[.pointer (some ⟨B, 0, none⟩)] w fun e w' => e = .returned (.iface 43 (.int .i64 e0)) /\ Below w.heap.size w w') (ad : Option Addr) (n c : Nat) (torn : Int) :
  Calls Tryz.prog 30 #[.pointer (some ⟨B, 0, none⟩), .slice ad n c, .int .i64 torn] w fun e w' => e = .returned (.iface 43 (.int .i64 e0)) /\ Below w.heap.size w w' := by
 have HR := zh hr
 clear hr
 go_enter Tryz.func30, Tryz.ntmps30
 go_wp2_with fail
 refine (uh HR).mono ?_
 rintro e W1 ⟨rfl, b1⟩
 have HB := zh b1
 clear HR b1
 go_wp2
 go_ret
 exact ⟨rfl, uh HB⟩
theorem base_commit_limit {w : World} {B D : Nat} {es : List (List Fop ⊕ Int)} {ps : Nat -> ByteArray} {cut : Bool} {left : Int} {F : Nat -> Prop} (h : BdW w B D es false ps cut left F) (he : es.length < 150) (l : List Fop) (v : Value) (hn : l.length < 1099511627776) (hO : ReadsOps w v l) (hl : ¬ (1 <= l.length /\ l.length <= 8)) (torn : Int) :
  Calls Tryz.prog 30 #[.pointer (some ⟨B, 0, none⟩), v, .int .i64 torn] w fun e w' => e = .returned (.iface 43 (.int .i64 4)) /\ Below w.heap.size w w' := by
 have HR := zh (base_ready_ok h he)
 have HW := zh (fun W (hW : Below w.heap.size w W) => write_limit l v W hn (hO.carry hW) hl)
 obtain ⟨ad, cap, hv, _⟩ := hO
 subst hv
 clear h hn hl
 go_enter Tryz.func30, Tryz.ntmps30
 go_wp2_with fail
 refine (uh HR).mono ?_
 rintro e W1 ⟨rfl, b1⟩
 have HB1 := zh b1
 have HW1 := zh (uh HW W1 b1)
 clear HR HW b1
 go_wp2_with fail
 refine (uh HW1).mono ?_
 rintro e W2 ⟨rfl, hW2⟩
 obtain rfl : W1 = W2 := hW2.symm
 clear hW2 HW1
 go_wp2
 go_ret
 exact ⟨rfl, uh HB1⟩
theorem base_commit_bad {w : World} {B D : Nat} {es : List (List Fop ⊕ Int)} {ps : Nat -> ByteArray} {cut : Bool} {left : Int} {F : Nat -> Prop} (h : BdW w B D es false ps cut left F) (he : es.length < 150) (l : List Fop) (i0 : Nat) (v : Value) (hs : ∀ x, x ∈ l -> Small x) (hO : ReadsOps w v l) (hl : 1 <= l.length /\ l.length <= 8) (hbad : FirstBad l i0) (torn : Int) :
  Calls Tryz.prog 30 #[.pointer (some ⟨B, 0, none⟩), v, .int .i64 torn] w fun e w' => ∃ u, e = .returned u /\ AtErr w' 1 i0 u /\ Below w.heap.size w w' := by
 have HR := zh (base_ready_ok h he)
 have HW := zh (fun W (hW : Below w.heap.size w W) => write_bad l i0 v W hs (hO.carry hW) hl hbad)
 obtain ⟨ad, cap, hv, _⟩ := hO
 subst hv
 clear h hs hl hbad
 go_enter Tryz.func30, Tryz.ntmps30
 go_wp2_with fail
 refine (uh HR).mono ?_
 rintro e W1 ⟨rfl, b1⟩
 have HB1 := zh b1
 have HW1 := zh (uh HW W1 b1)
 clear HR HW b1
 go_wp2_with fail
 refine (uh HW1).mono ?_
 rintro e W2 ⟨u, rfl, hA, b2⟩
 have HA := zh hA
 have HB2 := zh ((uh HB1).trans (b2.mono (uh HB1).size))
 obtain ⟨p, rfl, _⟩ := hA
 clear HW1 b2
 go_wp2
 go_ret
 exact ⟨_, rfl, uh HA, uh HB2⟩
theorem base_forget_no {w : World} {B : Nat} {e0 : Int} (hr : Calls Tryz.prog 77 #[.pointer (some ⟨B, 0, none⟩)] w fun e w' => e = .returned (.iface 43 (.int .i64 e0)) /\ Below w.heap.size w w') (at_ torn : Int) :
  Calls Tryz.prog 32 #[.pointer (some ⟨B, 0, none⟩), .int .i64 at_, .int .i64 torn] w fun e w' => e = .returned (.iface 43 (.int .i64 e0)) /\ Below w.heap.size w w' := by
 have HR := zh hr
 clear hr
 go_enter Tryz.func32, Tryz.ntmps32
 go_wp2_with fail
 refine (uh HR).mono ?_
 rintro e W1 ⟨rfl, b1⟩
 have HB := zh b1
 clear HR b1
 go_wp2
 go_ret
 exact ⟨rfl, uh HB⟩
theorem base_now {w : World} {B D : Nat} {used : Int} {down : Bool} {txs : List (List Fop)} {known : Int} {F : Nat -> Prop} (h : BaseW w B D used down txs known F) :
  Calls Tryz.prog 58 #[.pointer (some ⟨B, 1, none⟩)] w fun e w' => e = .returned (.int .i64 txs.length) /\ w' = w := past_Now (P := plB B D used down) (PastW.cells h).1
theorem base_known {w : World} {B D : Nat} {used : Int} {down : Bool} {txs : List (List Fop)} {known : Int} {F : Nat -> Prop} (h : BaseW w B D used down txs known F) :
  Calls Tryz.prog 59 #[.pointer (some ⟨B, 1, none⟩)] w fun e w' => e = .returned (.int .i64 known) /\ w' = w := past_Known (P := plB B D used down) (PastW.cells h).2
theorem base_forget_bad {w : World} {B D : Nat} {es : List (List Fop ⊕ Int)} {ps : Nat -> ByteArray} {cut : Bool} {left : Int} {F : Nat -> Prop} (h : BdW w B D es false ps cut left F) (he : es.length < 150) (at_ torn : Int) (hb : at_ < 0 \/ ((stE es).1.length : Int) < at_ \/ at_ < (stE es).2) :
  Calls Tryz.prog 32 #[.pointer (some ⟨B, 0, none⟩), .int .i64 at_, .int .i64 torn] w fun e w' => e = .returned (.iface 43 (.int .i64 (forgetErr (stE es).1.length at_))) /\ Below w.heap.size w w' := by
 have HR := zh (base_ready_ok h he)
 have HN := zh (fun W (hW : Below w.heap.size w W) => base_now (h.base.below hW))
 have HK := zh (fun W (hW : Below w.heap.size w W) => base_known (h.base.below hW))
 clear h he
 obtain ⟨n, hn⟩ : ∃ n, n = (stE es).1.length := ⟨_, rfl⟩
 rw [<- hn] at HN hb ⊢
 clear hn
 generalize (stE es).2 = known at *
 by_cases h0 : at_ < 0
 ·have hE : forgetErr n at_ = 2 := if_pos (.inl h0)
  rw [hE]
  clear hE hb
  go_enter Tryz.func32, Tryz.ntmps32
  go_wp2_with fail
  refine (uh HR).mono ?_
  rintro e W1 ⟨rfl, b1⟩
  have HB := zh b1
  clear HR b1
  go_wp2
  go_ret
  exact ⟨rfl, uh HB⟩
 ·by_cases h1 : (n : Int) < at_
  ·have hE : forgetErr n at_ = 2 := if_pos (.inr h1)
   rw [hE]
   clear hE hb
   go_enter Tryz.func32, Tryz.ntmps32
   go_wp2_with fail
   refine (uh HR).mono ?_
   rintro e W1 ⟨rfl, b1⟩
   have HB := zh b1
   have HN1 := zh (uh HN W1 b1)
   clear HR b1
   go_wp2_with fail
   refine (uh HN1).mono ?_
   rintro e W2 ⟨rfl, hW2⟩
   obtain rfl : W1 = W2 := hW2.symm
   clear hW2 HN1
   go_wp2
   go_ret
   exact ⟨rfl, uh HB⟩
  ·have hE : forgetErr n at_ = 10 := if_neg (by omega)
   rw [hE]
   have h2 : at_ < known := by omega
   clear hE hb
   go_enter Tryz.func32, Tryz.ntmps32
   go_wp2_with fail
   refine (uh HR).mono ?_
   rintro e W1 ⟨rfl, b1⟩
   have HB := zh b1
   have HN1 := zh (uh HN W1 b1)
   have HK1 := zh (uh HK W1 b1)
   clear HR b1
   go_wp2_with fail
   refine (uh HN1).mono ?_
   rintro e W2 ⟨rfl, hW2⟩
   obtain rfl : W1 = W2 := hW2.symm
   clear hW2 HN1
   go_wp2_with fail
   refine (uh HK1).mono ?_
   rintro e W2 ⟨rfl, hW2⟩
   obtain rfl : W1 = W2 := hW2.symm
   clear hW2 HK1
   go_wp2
   go_ret
   exact ⟨rfl, uh HB⟩
def ForgetEnds (w : World) (B : Nat) (at_ : Int) (u : Value) (Post : World -> World -> Prop) : Prop :=
 ∀ W, Below w.heap.size w W -> ∀ torn, Calls Tryz.prog 78 #[.pointer (some ⟨B, 0, none⟩), .string ⟨(entL (.inr at_)).toArray⟩, .int .i64 torn] W fun e w' => e = .returned u /\ Post W w'
theorem base_forget_goes {w : World} {B D : Nat} {es : List (List Fop ⊕ Int)} {ps : Nat -> ByteArray} {cut : Bool} {left : Int} {F : Nat -> Prop} (h : BdW w B D es false ps cut left F) (he : es.length < 150) (at_ torn : Int) (a0 : 0 <= at_) (a1 : at_ <= ((stE es).1.length : Int)) (a2 : (stE es).2 <= at_) (ht : Tab w) {u : Value} (hu : u = .nilIface \/ ∃ n, u = .iface 43 (.int .i64 n)) {Post : World -> World -> Prop} (hE : ForgetEnds w B at_ u Post) :
  Calls Tryz.prog 32 #[.pointer (some ⟨B, 0, none⟩), .int .i64 at_, .int .i64 torn] w fun e w' => e = .returned u /\ ∃ W, Below w.heap.size w W /\ Post W w' := by
 have hb := (stE_bounds h.holds.good).1
 have HR := zh (base_ready_ok h he)
 have HN := zh (fun W (hW : Below w.heap.size w W) => base_now (h.base.below hW))
 have HK := zh (fun W (hW : Below w.heap.size w W) => base_known (h.base.below hW))
 have HI := zh (fun W (hW : Below w.heap.size w W) => itoa at_ W (by omega) (by omega) (ht.carry hW))
 have HE := zh (fun W (hW : Below w.heap.size w W) => hE W hW torn)
 have hent : (⟨(entL (.inr at_)).toArray⟩ : ByteArray) = (⟨#[102, 111, 114, 103, 101, 116, 32]⟩ ++ ⟨(Lib.itoa at_).toArray⟩) ++ ⟨#[10]⟩ := by
  symm
  apply bytes_is
  simp [entL, bodyL, forgetL]
 rw [hent] at HE
 have hsz : (⟨(Lib.itoa at_).toArray⟩ : ByteArray).size <= 21 := by rw [bytes_len]; exact itoa_short at_ (by omega) (by omega)
 have h0 : ¬ at_ < 0 := by omega
 have h1 : ¬ ((stE es).1.length : Int) < at_ := by omega
 have h2 : ¬ at_ < (stE es).2 := by omega
 clear h he hE hent a0 a1 a2 ht hb
 obtain ⟨n, hn⟩ : ∃ n, n = (stE es).1.length := ⟨_, rfl⟩
 rw [<- hn] at HN h1
 clear hn
 generalize (stE es).2 = known at *
 generalize (⟨(Lib.itoa at_).toArray⟩ : ByteArray) = tx at *
 go_enter Tryz.func32, Tryz.ntmps32
 go_wp2_with fail
 refine (uh HR).mono ?_
 rintro e W1 ⟨rfl, b1⟩
 have HB := zh b1
 have HN1 := zh (uh HN W1 b1)
 have HK1 := zh (uh HK W1 b1)
 have HI1 := zh (uh HI W1 b1)
 clear HR b1 HN HK HI
 go_wp2_with fail
 refine (uh HN1).mono ?_
 rintro e W2 ⟨rfl, hW2⟩
 obtain rfl : W1 = W2 := hW2.symm
 clear hW2 HN1
 go_wp2_with fail
 refine (uh HK1).mono ?_
 rintro e W2 ⟨rfl, hW2⟩
 obtain rfl : W1 = W2 := hW2.symm
 clear hW2 HK1
 go_wp2_with fail
 refine (uh HI1).mono ?_
 rintro e W2 ⟨rfl, b2⟩
 have HB2 := zh ((uh HB).trans (b2.mono (uh HB).size))
 have HE2 := zh (uh HE W2 (uh HB2))
 clear b2 HI1 HE HB
 go_wp2_with fail
 refine (uh HE2).mono ?_
 rintro e W3 ⟨rfl, hp⟩
 have HF : Hid (∃ W, Below w.heap.size w W /\ Post W W3) := ⟨W2, uh HB2, hp⟩
 clear hp HE2
 rcases hu with rfl | ⟨n', rfl⟩
 ·go_wp2
  go_ret
  exact ⟨rfl, uh HF⟩
 ·go_wp2
  go_ret
  exact ⟨rfl, uh HF⟩
theorem base_forget_on {w : World} {B D : Nat} {es : List (List Fop ⊕ Int)} {ps : Nat -> ByteArray} {cut : Bool} {left : Int} {F : Nat -> Prop} (h : BdW w B D es false ps cut left F) (he : es.length < 150) (at_ torn : Int) (a0 : 0 <= at_) (a1 : at_ <= ((stE es).1.length : Int)) (a2 : (stE es).2 <= at_) (hp : cut = false \/ left ≠ 0) {w0 : World} (hw : Below w0.heap.size w0 w) (hD0 : w0.heap.size <= D) (ht : Tab w0) (hb : Libs w0) :
  Calls Tryz.prog 32 #[.pointer (some ⟨B, 0, none⟩), .int .i64 at_, .int .i64 torn] w fun e w' => e = .returned .nilIface /\ WroteOn w B D (es ++ [.inr at_]) cut (nextL cut left) F w' := by
 refine (base_forget_goes h he at_ torn a0 a1 a2 (ht.carry hw) (.inl rfl) (Post := fun W w' => WroteOn W B D (es ++ [.inr at_]) cut (nextL cut left) F w') (fun W hW torn => base_write_on (h.below hW) he (.inr at_) ⟨a2, a1⟩ torn hp (hw.trans (hW.mono hw.size)) hD0 ht hb)).mono ?_
 rintro e w' ⟨rfl, W, hW, F', ps', bd, wt⟩
 exact ⟨rfl, F', ps', bd, Went.below hW wt⟩
theorem base_forget_off {w : World} {B D : Nat} {es : List (List Fop ⊕ Int)} {ps : Nat -> ByteArray} {F : Nat -> Prop} (h : BdW w B D es false ps true 0 F) (he : es.length < 150) (at_ torn : Int) (a0 : 0 <= at_) (a1 : at_ <= ((stE es).1.length : Int)) (a2 : (stE es).2 <= at_) (ht : Tab w) :
  Calls Tryz.prog 32 #[.pointer (some ⟨B, 0, none⟩), .int .i64 at_, .int .i64 torn] w fun e w' => e = .returned (.iface 43 (.int .i64 14)) /\ WroteOff w B D es F w' := by
 refine (base_forget_goes h he at_ torn a0 a1 a2 ht (.inr ⟨14, rfl⟩) (Post := fun W w' => WroteOff W B D es F w') (fun W hW torn => base_write_off (h.below hW) he (.inr at_) ⟨a2, a1⟩ torn)).mono ?_
 rintro e w' ⟨rfl, W, hW, ps', bd, wt⟩
 exact ⟨rfl, ps', bd, Went.below hW wt⟩
theorem BdW.keeps {w w' : World} {B D : Nat} {es : List (List Fop ⊕ Int)} {down : Bool} {ps : Nat -> ByteArray} {cut : Bool} {left : Int} {F H : Nat -> Prop} (h : BdW w B D es down ps cut left F) (hk : Keeps H w w') (hF : ∀ i, F i -> ¬ H i) (hD : ¬ H D) : BdW w' B D es down ps cut left F :=
 ⟨h.base.keeps hk hF, h.disk.keeps hk hD, h.holds, h.apart, h.most⟩
structure BpI (w y : World) (B D Q R : Nat) (es : List (List Fop ⊕ Int)) (down : Bool) (ps : Nat -> ByteArray) (cut : Bool) (left lf : Int) (F G : Nat -> Prop) : Prop where
 bd : BdW y B D es down ps cut left F
 rb : RefB y Q R es.length cut lf down
 rq : RefQ y R (stE es).1 (stE es).2 G
 lf : cut = true -> lf = left
 d : ∀ i, G i -> ¬ F i
 gD : ¬ G D
 fQ : ¬ F Q
 gQ : ¬ G Q
 dQ : D ≠ Q
 fge : ∀ i, F i -> w.heap.size <= i
 rge : w.heap.size <= R
 qge : w.heap.size <= Q
 dge : w.heap.size <= D
 low : Below w.heap.size w y
def BpE (w y : World) (D Q R : Nat) (vb : Value) : Prop := ∃ B es down ps cut left lf F G, vb = .pointer (some ⟨B, 0, none⟩) /\ BpI w y B D Q R es down ps cut left lf F G
section
variable {w y : World} {B D Q R : Nat} {es : List (List Fop ⊕ Int)} {down : Bool} {ps : Nat -> ByteArray} {cut : Bool} {left lf : Int} {F G : Nat -> Prop}
theorem BpI.below {y' : World} (h : BpI w y B D Q R es down ps cut left lf F G) (hb : Below y.heap.size y y') : BpI w y' B D Q R es down ps cut left lf F G :=
 ⟨h.bd.below hb, h.rb.below hb, h.rq.below hb, h.lf, h.d, h.gD, h.fQ, h.gQ, h.dQ, h.fge, h.rge, h.qge, h.dge, h.low.trans (hb.mono h.low.size)⟩
theorem BpI.e (h : BpI w y B D Q R es down ps cut left lf F G) : BpE w y D Q R (.pointer (some ⟨B, 0, none⟩)) := ⟨_, _, _, _, _, _, _, _, _, rfl, h⟩
theorem BpE.below {y' : World} {vb : Value} (h : BpE w y D Q R vb) (hb : Below y.heap.size y y') : BpE w y' D Q R vb := by
 obtain ⟨_, _, _, _, _, _, _, _, _, rfl, h⟩ := h
 exact (h.below hb).e
theorem BpE.low {vb : Value} (h : BpE w y D Q R vb) : Below w.heap.size w y := by
 obtain ⟨_, _, _, _, _, _, _, _, _, _, h⟩ := h
 exact h.low
theorem BpI.two (h : BpI w y B D Q R es down ps cut left lf F G) : TwoP y (plB B D es.length down) R (stE es).1 (stE es).2 F G := ⟨h.bd.base, h.rq⟩
theorem BpI.Rlt (h : BpI w y B D Q R es down ps cut left lf F G) : R < y.heap.size := h.rq.lt R h.rq.r
theorem BpI.beside {y1 : World} (h : BpI w y B D Q R es down ps cut left lf F G) (hk : Keeps (fun i => F i \/ i = D) y y1) : RefB y1 Q R es.length cut lf down /\ RefQ y1 R (stE es).1 (stE es).2 G /\ Below w.heap.size w y1 := by
 refine ⟨h.rb.keeps hk (fun q => ?_), h.rq.keeps hk (fun i hi q => ?_), h.low.trans (keeps_below hk (fun i q => ?_) h.low.size)⟩
 ·rcases q with q | q
  ·exact h.fQ q
  ·exact h.dQ q.symm
 ·rcases q with q | q
  ·exact h.d i hi q
  ·subst q; exact h.gD hi
 ·rcases q with q | q
  ·exact h.fge i q
  ·subst q; exact h.dge
theorem BpI.on {y1 y2 : World} {es' : List (List Fop ⊕ Int)} (h : BpI w y B D Q R es false ps cut left lf F G) (hw : WroteOn y B D es' cut (nextL cut left) F y1) (hl : es'.length = es.length + 1) (hr : RbCom y1 Q R es.length cut lf (stE es').1 (stE es').2 G y2) : BpE w y2 D Q R (.pointer (some ⟨B, 0, none⟩)) := by
 obtain ⟨F', ps', bd, w1, w2⟩ := hw
 obtain ⟨G', lf', hlf, rb, rq, hG, hk⟩ := hr
 obtain ⟨_, _, hlo⟩ := h.beside w2
 have hQl := h.rb.lt
 have hRl := h.Rlt
 have hz := w2.size
 have hFQ : ¬ F' Q := fun q => by
  rcases w1 Q q with r | r
  ·exact h.fQ r
  ·omega
 have hFR : ¬ F' R := fun q => by
  rcases w1 R q with r | r
  ·exact h.d R h.rq.r r
  ·omega
 have hDR : D ≠ R := fun e => h.gD (by rw [e]; exact h.rq.r)
 have hl' : (es'.length : Int) = (es.length : Int) + 1 := by omega
 refine BpI.e ⟨bd.keeps hk (fun i hi q => ?_) (fun q => ?_), by rw [hl']; exact rb, rq, fun q => ?_, fun i hi q => ?_, fun q => ?_, hFQ, fun q => ?_, h.dQ, fun i hi => ?_, h.rge, h.qge, h.dge, ?_⟩
 ·rcases q with q | q
  ·subst q; exact hFQ hi
  ·subst q; exact hFR hi
 ·rcases q with q | q
  ·exact h.dQ q
  ·exact hDR q
 ·rw [hlf q, h.lf q]
  unfold nextL
  rw [if_pos q]
 ·have hlt := BaseW.lt bd.base i q
  rcases hG i hi with r | r
  ·rcases w1 i q with s | s
   ·exact h.d i r s
   ·have := h.rq.lt i r
    omega
  ·omega
 ·have := h.bd.disk.lt
  rcases hG D q with r | r
  ·exact h.gD r
  ·omega
 ·rcases hG Q q with r | r
  ·exact h.gQ r
  ·omega
 ·rcases w1 i hi with r | r
  ·exact h.fge i r
  ·have := h.low.size
   omega
 ·refine hlo.trans (keeps_below hk (fun i q => ?_) hlo.size)
  rcases q with q | q
  ·subst q; exact h.qge
  ·subst q; exact h.rge
theorem BpI.off {y1 y2 : World} (h : BpI w y B D Q R es false ps true 0 lf F G) (hw : WroteOff y B D es F y1) (hr : RefB y2 Q R es.length true 0 true) (hk : Keeps (· = Q) y1 y2) : BpE w y2 D Q R (.pointer (some ⟨B, 0, none⟩)) := by
 obtain ⟨ps', bd, w1, w2⟩ := hw
 obtain ⟨_, rq, hlo⟩ := h.beside w2
 refine BpI.e ⟨bd.keeps hk (fun i hi q => ?_) h.dQ, hr, rq.keeps hk (fun i hi q => ?_), fun _ => rfl, h.d, h.gD, h.fQ, h.gQ, h.dQ, h.fge, h.rge, h.qge, h.dge, hlo.trans (keeps_below hk (fun i q => ?_) hlo.size)⟩
 ·subst q; exact h.fQ hi
 ·subst q; exact h.gQ hi
 ·subst q; exact h.qge
def CommitB (w : World) (B D Q R : Nat) (v : Value) (torn : Int) (F : Nat -> Prop) (y : World) : Prop :=
 Calls Tryz.prog 30 #[.pointer (some ⟨B, 0, none⟩), v, .int .i64 torn] y fun e y1 => ∃ u, e = .returned u /\ Keeps (fun i => F i \/ i = D) y y1 /\
  Calls Tryz.prog 31 #[.pointer (some ⟨Q, 0, none⟩), v] y1 fun e2 y2 => ∃ n i : Int, e2 = .returned (.agg #[.int .i64 n, .int .i64 i]) /\ Keeps (fun j => j = Q \/ j = R) y1 y2 /\ BpE w y2 D Q R (.pointer (some ⟨B, 0, none⟩)) /\
   Calls Tryz.prog 6 #[u, .agg #[.int .i64 n, .int .i64 i]] y2 fun e3 y3 => e3 = .returned (.bool true) /\ Below y2.heap.size y2 y3
theorem base_commit {w y : World} {B D Q R : Nat} {es : List (List Fop ⊕ Int)} {down : Bool} {ps : Nat -> ByteArray} {cut : Bool} {left lf : Int} {F G : Nat -> Prop} (h : BpI w y B D Q R es down ps cut left lf F G) (ht : Tab w) (hb : Libs w) (hg : ErrorType w) (l : List Fop) (v : Value) (torn : Int) (hn : l.length < 1099511627776) (hs : ∀ x, x ∈ l -> Small x) (hr : ReadsOps w v l) : CommitB w B D Q R v torn F y := by
 have hry := hr.carry h.low
 have hty := ht.carry h.low
 unfold CommitB
 by_cases hroom : roomE es.length down = 0
 ·have hdown : down = false := by
   cases down with
   | true => exact absurd hroom (by first | decide | (show ¬ (6 : Int) = 0; decide))
   | false => rfl
  subst hdown
  have hlt : es.length < 150 := by
   unfold roomE at hroom
   by_cases q : (150 : Int) <= (es.length : Int)
   ·rw [if_neg (by simp), if_pos q] at hroom
    exact absurd hroom (by first | decide | (show ¬ (6 : Int) = 0; decide))
   ·omega
  by_cases hl : 1 <= l.length /\ l.length <= 8
  ·rcases first_bad l with hok | ⟨i0, hbad⟩
   ·have hokl : okL l := ⟨hl.1, hl.2, hok⟩
    have hsn : stE (es ++ [.inl l]) = ((stE es).1 ++ [l], (stE es).2) := stE_snoc _ _
    obtain ⟨s1, s2, s3⟩ := stE_bounds h.bd.holds.good
    obtain ⟨ad, cap, rfl, hO⟩ := hr
    rcases hO with rfl | ⟨b, off, rfl, hO⟩
    ·simp at hl
    have hbl := hO.1
    by_cases hoff : cut = true /\ left = 0
    ·obtain ⟨rfl, rfl⟩ := hoff
     refine (base_Commit_off h.bd hlt l _ hokl hry hs torn hty).mono ?_
     rintro e y1 ⟨rfl, hw⟩
     obtain ⟨r1, q1, lo1⟩ := h.beside hw.choose_spec.2.2
     have hlf : lf = 0 := h.lf rfl
     rw [hlf] at r1
     refine ⟨_, rfl, hw.choose_spec.2.2, ?_⟩
     refine (rb_commit_off r1 (by omega) (says_ok l _ y1 hs ⟨_, cap, rfl, .inr ⟨b, off, rfl, hO.carry lo1⟩⟩ (ht.carry lo1) hokl)).mono ?_
     rintro e y2 ⟨rfl, r2, k2⟩
     rw [hlf] at h
     have hE := h.off hw r2 k2
     exact ⟨14, -1, rfl, k2.mono (fun _ _ e => .inl e), hE, law_is _ 14 (-1) y2 (fun W hW => Place_errno 14 W ((hg.carry hE.low).carry hW))⟩
    ·have hp : cut = false \/ left ≠ 0 := by
      cases cut with
      | false => exact .inl rfl
      | true => exact .inr (fun e => hoff ⟨rfl, e⟩)
     refine (base_Commit_on h.bd hlt l _ hokl hry hs torn hp h.low h.dge ht hb).mono ?_
     rintro e y1 ⟨rfl, hw⟩
     have hwk := hw.choose_spec.choose_spec.2.2
     obtain ⟨r1, q1, lo1⟩ := h.beside hwk
     refine ⟨_, rfl, hwk, ?_⟩
     have hp' : cut = false \/ (0 < lf /\ lf <= 9223372036854775807) := by
      rcases hp with q | q
      ·exact .inl q
      ·cases cut with
       | false => exact .inl rfl
       | true =>
        right
        have := h.lf rfl
        have := h.bd.disk.l0
        omega
     refine (rb_commit_on (cap := cap) (s := ⟨(opsL l).toArray⟩) (i := -1) r1 (by omega) (by omega) hp' q1 h.gQ (hO.carry lo1) (by have := h.qge; omega) hokl (by omega) (fun W hk => ?_)).mono ?_
     ·exact says_ok l _ w hs ⟨_, cap, rfl, .inr ⟨b, off, rfl, hO⟩⟩ ht hokl W (lo1.trans (keeps_below hk (fun i q => by subst q; exact h.qge) lo1.size))
     ·rintro e y2 ⟨rfl, hcom⟩
      have hE := h.on hw (by simp) (by rw [hsn]; exact hcom)
      exact ⟨0, -1, rfl, hcom.choose_spec.choose_spec.2.2.2.2, hE, law_is _ 0 (-1) y2 (fun W _ => Place_nil W)⟩
   ·refine (base_commit_bad h.bd hlt l i0 v hs hry hl hbad torn).mono ?_
    rintro e y1 ⟨u, rfl, ⟨b, rfl, c0, c1⟩, b1⟩
    have h1 := h.below b1
    refine ⟨_, rfl, Keeps.of_below _ b1 zr, ?_⟩
    refine (rb_commit_err h1.rb hroom (says_bad l v y1 hs (hr.carry h1.low) (ht.carry h1.low) hl i0 hbad) (by decide)).mono ?_
    rintro e y2 ⟨rfl, b2⟩
    have h2 := h1.below b2
    exact ⟨1, i0, rfl, Keeps.of_below _ b2 zr, h2.e, law_is _ 1 i0 y2 (fun W hW => Place_at 1 i0 b W (there_yet (there_yet c0 b2) hW) (there_yet (there_yet c1 b2) hW) ((hg.carry h2.low).carry hW))⟩
  ·refine (base_commit_limit h.bd hlt l v hn hry hl torn).mono ?_
   rintro e y1 ⟨rfl, b1⟩
   have h1 := h.below b1
   refine ⟨_, rfl, Keeps.of_below _ b1 zr, ?_⟩
   refine (rb_commit_err (s := ⟨#[]⟩) (n := 4) (i := -1) h1.rb hroom (fun W hW => refw_limit l v W hn ((hr.carry h1.low).carry hW) hl) (by decide)).mono ?_
   rintro e y2 ⟨rfl, b2⟩
   have h2 := h1.below b2
   exact ⟨4, -1, rfl, Keeps.of_below _ b2 zr, h2.e, law_is _ 4 (-1) y2 (fun W hW => Place_errno 4 W ((hg.carry h2.low).carry hW))⟩
 ·obtain ⟨ad, cap, rfl, _⟩ := hr
  refine (base_commit_no (base_ready h.bd hroom) ad l.length cap torn).mono ?_
  rintro e y1 ⟨rfl, b1⟩
  have h1 := h.below b1
  refine ⟨_, rfl, Keeps.of_below _ b1 zr, ?_⟩
  refine (rb_commit_no h1.rb hroom ad l.length cap).mono ?_
  rintro e y2 ⟨rfl, b2⟩
  have h2 := h1.below b2
  exact ⟨_, -1, rfl, Keeps.of_below _ b2 zr, h2.e, law_is _ _ (-1) y2 (fun W hW => Place_errno _ W ((hg.carry h2.low).carry hW))⟩
def ForgetB (w : World) (B D Q R : Nat) (at_ torn : Int) (F : Nat -> Prop) (y : World) : Prop :=
 Calls Tryz.prog 32 #[.pointer (some ⟨B, 0, none⟩), .int .i64 at_, .int .i64 torn] y fun e y1 => ∃ u, e = .returned u /\ Keeps (fun i => F i \/ i = D) y y1 /\
  Calls Tryz.prog 33 #[.pointer (some ⟨Q, 0, none⟩), .int .i64 at_] y1 fun e2 y2 => ∃ n : Int, e2 = .returned (.int .i64 n) /\ Keeps (fun j => j = Q \/ j = R) y1 y2 /\ BpE w y2 D Q R (.pointer (some ⟨B, 0, none⟩)) /\
   Calls Tryz.prog 10 #[u, .int .i64 n] y2 fun e3 y3 => e3 = .returned (.bool true) /\ Below y2.heap.size y2 y3
theorem forgetErr_ne (n at_ : Int) : forgetErr n at_ ≠ 0 := by
 unfold forgetErr
 split <;> decide
theorem base_forget {w y : World} {B D Q R : Nat} {es : List (List Fop ⊕ Int)} {down : Bool} {ps : Nat -> ByteArray} {cut : Bool} {left lf : Int} {F G : Nat -> Prop} (h : BpI w y B D Q R es down ps cut left lf F G) (ht : Tab w) (hb : Libs w) (hg : ErrorType w) (at_ torn : Int) : ForgetB w B D Q R at_ torn F y := by
 have hty := ht.carry h.low
 unfold ForgetB
 by_cases hroom : roomE es.length down = 0
 ·have hdown : down = false := by
   cases down with
   | true => exact absurd hroom (by first | decide | (show ¬ (6 : Int) = 0; decide))
   | false => rfl
  subst hdown
  have hlt : es.length < 150 := by
   unfold roomE at hroom
   by_cases q : (150 : Int) <= (es.length : Int)
   ·rw [if_neg (by simp), if_pos q] at hroom
    exact absurd hroom (by first | decide | (show ¬ (6 : Int) = 0; decide))
   ·omega
  by_cases hbad : at_ < 0 \/ ((stE es).1.length : Int) < at_ \/ at_ < (stE es).2
  ·refine (base_forget_bad h.bd hlt at_ torn hbad).mono ?_
   rintro e y1 ⟨rfl, b1⟩
   have h1 := h.below b1
   refine ⟨_, rfl, Keeps.of_below _ b1 zr, ?_⟩
   refine (rb_forget_bad h1.rb hroom h1.rq at_ hbad).mono ?_
   rintro e y2 ⟨rfl, rfl⟩
   refine ⟨_, rfl, Keeps.refl _ _, h1.e, ?_⟩
   have := bare_err (forgetErr (stE es).1.length at_) y2 (hg.carry h1.low)
   rw [errV_some (forgetErr_ne _ _)] at this
   exact this
  ·have hsn : stE (es ++ [.inr at_]) = ((stE es).1, at_) := stE_snoc _ _
   by_cases hoff : cut = true /\ left = 0
   ·obtain ⟨rfl, rfl⟩ := hoff
    refine (base_forget_off h.bd hlt at_ torn (by omega) (by omega) (by omega) hty).mono ?_
    rintro e y1 ⟨rfl, hw⟩
    obtain ⟨r1, q1, lo1⟩ := h.beside hw.choose_spec.2.2
    have hlf : lf = 0 := h.lf rfl
    rw [hlf] at r1
    refine ⟨_, rfl, hw.choose_spec.2.2, ?_⟩
    refine (rb_forget_off r1 (by omega) q1 at_ (by omega) (by omega) (by omega)).mono ?_
    rintro e y2 ⟨rfl, r2, k2⟩
    rw [hlf] at h
    have hE := h.off hw r2 k2
    exact ⟨14, rfl, k2.mono (fun _ _ e => .inl e), hE, bare_err 14 y2 (hg.carry hE.low)⟩
   ·have hp : cut = false \/ left ≠ 0 := by
     cases cut with
     | false => exact .inl rfl
     | true => exact .inr (fun e => hoff ⟨rfl, e⟩)
    refine (base_forget_on h.bd hlt at_ torn (by omega) (by omega) (by omega) hp h.low h.dge ht hb).mono ?_
    rintro e y1 ⟨rfl, hw⟩
    have hwk := hw.choose_spec.choose_spec.2.2
    obtain ⟨r1, q1, lo1⟩ := h.beside hwk
    refine ⟨_, rfl, hwk, ?_⟩
    have hp' : cut = false \/ (0 < lf /\ lf <= 9223372036854775807) := by
     rcases hp with q | q
     ·exact .inl q
     ·cases cut with
      | false => exact .inl rfl
      | true =>
       right
       have := h.lf rfl
       have := h.bd.disk.l0
       omega
    refine (rb_forget_on r1 (by omega) (by omega) hp' q1 h.gQ at_ (by omega) (by omega) (by omega)).mono ?_
    rintro e y2 ⟨rfl, hcom⟩
    have hE := h.on hw (by simp) (by rw [hsn]; exact hcom)
    exact ⟨0, rfl, hcom.choose_spec.choose_spec.2.2.2.2, hE, bare_err 0 y2 (hg.carry hE.low)⟩
 ·refine (base_forget_no (base_ready h.bd hroom) at_ torn).mono ?_
  rintro e y1 ⟨rfl, b1⟩
  have h1 := h.below b1
  refine ⟨_, rfl, Keeps.of_below _ b1 zr, ?_⟩
  refine (rb_forget_no h1.rb hroom at_).mono ?_
  rintro e y2 ⟨rfl, rfl⟩
  refine ⟨_, rfl, Keeps.refl _ _, h1.e, ?_⟩
  have := bare_err (roomE es.length down) y2 (hg.carry h1.low)
  rw [errV_some hroom] at this
  exact this
theorem base_cut {w y : World} {B D Q R : Nat} {es : List (List Fop ⊕ Int)} {down : Bool} {ps : Nat -> ByteArray} {cut : Bool} {left lf : Int} {F G : Nat -> Prop} (h : BpI w y B D Q R es down ps cut left lf F G) (n : Int) (hn : n <= 9223372036854775807) :
  Calls Tryz.prog 34 #[.pointer (some ⟨D, 0, none⟩), .int .i64 n] y fun e y1 => e = .returned (.tuple #[]) /\ Keeps (· = D) y y1 /\
   Calls Tryz.prog 35 #[.pointer (some ⟨Q, 0, none⟩), .int .i64 n] y1 fun e2 y2 => e2 = .returned (.tuple #[]) /\ BpE w y2 D Q R (.pointer (some ⟨B, 0, none⟩)) := by
 refine (disk_Cut h.bd.disk n hn).mono ?_
 rintro e y1 ⟨rfl, d1, k1⟩
 refine ⟨rfl, k1, ?_⟩
 have r1 := h.rb.keeps k1 (fun e => h.dQ e.symm)
 refine (rb_Cut r1 n).mono ?_
 rintro e y2 ⟨rfl, r2, k2⟩
 refine ⟨rfl, BpI.e ⟨⟨(h.bd.base.keeps k1 (fun i hi q => ?_)).keeps k2 (fun i hi q => ?_), d1.keeps k2 h.dQ, h.bd.holds, h.bd.apart, h.bd.most⟩, r2, (h.rq.keeps k1 (fun i hi q => ?_)).keeps k2 (fun i hi q => ?_), fun q => ?_, h.d, h.gD, h.fQ, h.gQ, h.dQ, h.fge, h.rge, h.qge, h.dge, ?_⟩⟩
 ·subst q; exact h.bd.apart hi
 ·subst q; exact h.fQ hi
 ·subst q; exact h.gD hi
 ·subst q; exact h.gQ hi
 ·have := of_decide_eq_true q
  omega
 ·have lo1 := h.low.trans (keeps_below k1 (fun i q => by subst q; exact h.dge) h.low.size)
  exact lo1.trans (keeps_below k2 (fun i q => by subst q; exact h.qge) lo1.size)
theorem base_back {w y : World} {B D Q R : Nat} {es : List (List Fop ⊕ Int)} {down : Bool} {ps : Nat -> ByteArray} {cut : Bool} {left lf : Int} {F G : Nat -> Prop} (h : BpI w y B D Q R es down ps cut left lf F G) :
  Calls Tryz.prog 34 #[.pointer (some ⟨D, 0, none⟩), .int .i64 (-1)] y fun e y1 => e = .returned (.tuple #[]) /\ Keeps (· = D) y y1 /\ RefB y1 Q R es.length cut lf down /\ BpI w (y1.setCell ⟨Q, 2, none⟩ (.bool false)) B D Q R es down ps false 0 lf F G := by
 refine (disk_Cut h.bd.disk (-1) (by decide)).mono ?_
 rintro e y1 ⟨rfl, d1, k1⟩
 have r1 := h.rb.keeps k1 (fun e => h.dQ e.symm)
 have k2 := keeps_set y1 Q 2 (.bool false)
 refine ⟨rfl, k1, r1, ⟨(h.bd.base.keeps k1 (fun i hi q => ?_)).keeps k2 (fun i hi q => ?_), d1.keeps k2 h.dQ, h.bd.holds, h.bd.apart, h.bd.most⟩, r1.setOff false, (h.rq.keeps k1 (fun i hi q => ?_)).keeps k2 (fun i hi q => ?_), fun q => (by cases q), h.d, h.gD, h.fQ, h.gQ, h.dQ, h.fge, h.rge, h.qge, h.dge, ?_⟩
 ·subst q; exact h.bd.apart hi
 ·subst q; exact h.fQ hi
 ·subst q; exact h.gD hi
 ·subst q; exact h.gQ hi
 ·have lo1 := h.low.trans (keeps_below k1 (fun i q => by subst q; exact h.dge) h.low.size)
  exact lo1.trans (keeps_below k2 (fun i q => by subst q; exact h.qge) lo1.size)
theorem base_again {w y : World} {B D Q R : Nat} {es : List (List Fop ⊕ Int)} {down : Bool} {ps : Nat -> ByteArray} {cut : Bool} {left lf : Int} {F G : Nat -> Prop} (h : BpI w y B D Q R es down ps cut left lf F G) (ht : Tab w) (hb : Libs w) :
  Calls Tryz.prog 28 #[.pointer (some ⟨D, 0, none⟩)] y fun e y1 => ∃ B', e = .returned (.tuple #[.pointer (some ⟨B', 0, none⟩), .nilIface]) /\ RefB y1 Q R es.length cut lf down /\ BpE w (y1.setCell ⟨Q, 4, none⟩ (.bool false)) D Q R (.pointer (some ⟨B', 0, none⟩)) := by
 refine (base_Open h.bd.disk h.bd.holds h.bd.most (ht.carry h.low) (hb.carry h.low)).mono ?_
 rintro e y1 ⟨B', F', rfl, hB, hF, b1⟩
 have r1 := h.rb.below b1
 have k2 := keeps_set y1 Q 4 (.bool false)
 have hQl := h.rb.lt
 have hDl := h.bd.disk.lt
 refine ⟨B', rfl, r1, BpI.e ⟨⟨hB.keeps k2 (fun i hi q => ?_), (h.bd.disk.below b1).keeps k2 h.dQ, h.bd.holds, fun q => ?_, h.bd.most⟩, r1.setDown false, (h.rq.below b1).keeps k2 (fun i hi q => ?_), h.lf, fun i hi q => ?_, h.gD, fun q => ?_, h.gQ, h.dQ, fun i hi => ?_, h.rge, h.qge, h.dge, ?_⟩⟩
 ·subst q
  have := hF _ hi
  omega
 ·have := hF _ q
  omega
 ·subst q; exact h.gQ hi
 ·have := hF i q
  have := h.rq.lt i hi
  omega
 ·have := hF _ q
  omega
 ·have := hF i hi
  have := h.low.size
  omega
 ·have lo1 := h.low.trans (b1.mono h.low.size)
  exact lo1.trans (keeps_below k2 (fun i q => by subst q; exact h.qge) lo1.size)
end
end Go.Proofs.YtfoojmflbifkpaaGreatDoor

namespace Go.Proofs.YtfoojmflbifkpaaGreatDoor
open Go.RowKit Go.Maps
theorem zeros_all : (List.range 150).all (fun j => match Tryz.zeroCells84[j]? with | some (.string s) => decide (s.data = #[]) | _ => false) = true := by kernel_rfl
theorem zeros_at (j : Nat) (hj : j < 150) : Tryz.zeroCells84[j]? = some (.string ⟨#[]⟩) := by
 have h := List.all_eq_true.1 zeros_all j (List.mem_range.2 hj)
 split at h
 ·rename_i s e
  have := of_decide_eq_true h
  rw [e]
  cases s
  dsimp only at this
  rw [this]
 ·cases h
theorem zeros_c : Tryz.zeroCells84[150]? = some (.bool false) := by kernel_rfl
theorem zeros_l : Tryz.zeroCells84[151]? = some (.int .i64 0) := by kernel_rfl
theorem disk_new (w : World) : DiskW (w.alloc (.cells Tryz.zeroCells84 84)) w.heap.size (fun _ => ⟨#[]⟩) false 0 := by
 have key : ∀ j, (w.alloc (.cells Tryz.zeroCells84 84)).cell? ⟨w.heap.size, j, none⟩ = Tryz.zeroCells84[j]? := fun j => by
  unfold World.cell?
  rw [heap_alloc_new]
  rfl
 exact ⟨fun j hj => (key j).trans (zeros_at j hj), (key 150).trans zeros_c, (key 151).trans zeros_l, fun i => by simp, fun j => by show (0 : Nat) < 50000; decide, by decide⟩
abbrev newB (w : World) : World := (w.alloc (.cells #[.slice none 0 0, .int .i64 0] 30)).alloc (.cells #[.pointer (some ⟨w.heap.size, 0, none⟩), .int .i64 0, .bool false, .int .i64 0, .bool false] 94)
theorem rb_new (w : World) : Calls Tryz.prog 29 #[] w fun e w' => e = .returned (.pointer (some ⟨w.heap.size + 1, 0, none⟩)) /\ w' = newB w := by
 go_enter Tryz.func29, Tryz.ntmps29
 go_wp2
 go_ret
 exact ⟨rfl, rfl⟩
theorem bp_start {w W0 W1 : World} {D B : Nat} {F : Nat -> Prop} (hD : DiskW W0 D (fun _ => ⟨#[]⟩) false 0) (hw0 : Below w.heap.size w W0) (hD0 : w.heap.size <= D) (hB : BaseW W1 B D 0 false [] 0 F) (hF : ∀ i, F i -> W0.heap.size <= i) (b1 : Below W0.heap.size W0 W1) : BpI w (newB W1) B D (W1.heap.size + 1) W1.heap.size [] false (fun _ => ⟨#[]⟩) false 0 0 F (fun i => i = W1.heap.size) := by
 have a1 := below_box W1 (.cells #[.slice none 0 0, .int .i64 0] 30)
 have r0 : (W1.alloc (.cells #[.slice none 0 0, .int .i64 0] 30)).cell? ⟨W1.heap.size, 0, none⟩ = some (.slice none 0 0) := by simp
 have r1 : (W1.alloc (.cells #[.slice none 0 0, .int .i64 0] 30)).cell? ⟨W1.heap.size, 1, none⟩ = some (.int .i64 0) := by simp
 have t0 : (W1.alloc (.cells #[.slice none 0 0, .int .i64 0] 30)).frozen? ⟨W1.heap.size, 0, none⟩ = false := by simp
 have t1 : (W1.alloc (.cells #[.slice none 0 0, .int .i64 0] 30)).frozen? ⟨W1.heap.size, 1, none⟩ = false := by simp
 have s1 : (W1.alloc (.cells #[.slice none 0 0, .int .i64 0] 30)).heap.size = W1.heap.size + 1 := by simp
 unfold newB
 generalize W1.alloc (.cells #[.slice none 0 0, .int .i64 0] 30) = W2 at *
 have a2 := below_box W2 (.cells #[.pointer (some ⟨W1.heap.size, 0, none⟩), .int .i64 0, .bool false, .int .i64 0, .bool false] 94)
 have q : RefQ W2 W1.heap.size [] 0 (fun i => i = W1.heap.size) := ⟨rfl, .inl ⟨rfl, r0⟩, r1, t0, t1, by simp, by simp, fun i hi => by omega⟩
 have hDl := hD.lt
 have hz := b1.size
 have hw := hw0.size
 have hFl : ∀ i, F i -> i < W1.heap.size := BaseW.lt hB
 have c1 := a1.trans (a2.mono a1.size)
 refine ⟨⟨hB.below c1, (hD.below b1).below c1, holds_nil, fun q => ?_, by decide⟩, ?_, q.below a2, fun q => (by cases q), fun i hi q => ?_, fun q => ?_, fun q => ?_, fun q => ?_, by omega, fun i hi => ?_, by omega, by omega, hD0, ?_⟩
 ·have := hF D q
  omega
 ·rw [<- s1]
  exact ⟨by simp, by simp, by simp, by simp, by simp, fun i => by simp⟩
 ·have := hFl i q
  omega
 ·omega
 ·have := hFl _ q
  omega
 ·omega
 ·have := hF i hi
  omega
 ·have l1 := hw0.trans (b1.mono hw)
  exact l1.trans (c1.mono l1.size)
end Go.Proofs.YtfoojmflbifkpaaGreatDoor
