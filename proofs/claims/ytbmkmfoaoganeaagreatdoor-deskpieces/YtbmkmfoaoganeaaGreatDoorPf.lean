/- Texts of one proof, one behind the other. -/
import Derived.Test.YtbmkmfoaoganeaaGreatDoorPe
import Derived.Test.YtbmkmfoaoganeaaGreatDoorNg
import Derived.Test.YtbmkmfoaoganeaaGreatDoorOa
import Derived.Deep.RegionHeld3
set_option maxRecDepth 100000
set_option maxHeartbeats 16000000
namespace Go.Proofs.YtbmkmfoaoganeaaGreatDoor
open Go.RowKit Go.Maps
theorem desk_dash (s : ByteArray) (w : World) : Calls Tryz.prog 76 #[.string s] w fun e w' => e = .returned (.string (dashB s)) /\ w' = w := by
 unfold dashB
 by_cases h : s.toList = []
 ·rw [if_pos h]
  have hb : (s.toList == []) = true := by rw [h]; rfl
  have hi : s.toList.isEmpty = true := by rw [h]; rfl
  clear h
  go_enter Tryz.func76, Tryz.ntmps76
  go_wp2
  go_ret
  exact ⟨rfl, rfl⟩
 ·rw [if_neg h]
  have hb : (s.toList == []) = false := by simpa using h
  have hi : s.toList.isEmpty = false := by
   cases e : s.toList with
   | nil => exact absurd e h
   | cons a b => rfl
  clear h
  go_enter Tryz.func76, Tryz.ntmps76
  go_wp2
  go_ret
  exact ⟨rfl, rfl⟩
theorem join_none (sep : ByteArray) (w : World) : Calls Tryz.prog 50 #[.slice none 0 0, .string sep] w fun e w' => e = .returned (.string ⟨#[]⟩) /\ w' = w := by
 go_enter Tryz.func50, Tryz.ntmps50
 go_wp2
 go_ret
 exact ⟨rfl, rfl⟩
def keyL (k : Ky) : List UInt8 := Lib.join [Lib.itoa k.kind, Lib.itoa k.a, dashL k.word.data.toList, Lib.itoa k.b] [32]
def pieceL (p : Int × Int × ByteArray) : List UInt8 := Lib.join [Lib.itoa p.1, Lib.itoa p.2.1, p.2.2.data.toList] [32]
theorem join_le : ∀ (l : List (List UInt8)) (sep : List UInt8) (m : Nat), (∀ x, x ∈ l -> x.length <= m) -> (Lib.join l sep).length <= l.length * (m + sep.length)
 | [], sep, m, _ => by simp [Lib.join]
 | [x], sep, m, h => by
  have := h x (by simp)
  simp [Lib.join]
  omega
 | x :: z :: l, sep, m, h => by
  have h1 := h x (by simp)
  have h2 := join_le (z :: l) sep m (fun q hq => h q (List.mem_cons_of_mem _ hq))
  have e : Lib.join (x :: z :: l) sep = x ++ sep ++ Lib.join (z :: l) sep := by simp [Lib.join]
  rw [e]
  simp only [List.length_append, List.length_cons] at *
  have : (l.length + 1 + 1) * (m + sep.length) = (l.length + 1) * (m + sep.length) + (m + sep.length) := by rw [Nat.add_mul, Nat.one_mul]
  omega
theorem four_cells (W : World) (n : Nat) (hn : n = W.heap.size) (a b c d : ByteArray) (j : Nat) (x : ByteArray) (h : [a, b, c, d][j]? = some x) : (W.alloc (.cells #[.string a, .string b, .string c, .string d] 9)).cell? ⟨n, 0 + j, none⟩ = some (.string x) := by
 subst hn
 rcases j with _ | _ | _ | _ | j
 all_goals (simp at h; try (subst h; simp))
theorem three_cells (W : World) (n : Nat) (hn : n = W.heap.size) (a b c : ByteArray) (j : Nat) (x : ByteArray) (h : [a, b, c][j]? = some x) : (W.alloc (.cells #[.string a, .string b, .string c] 9)).cell? ⟨n, 0 + j, none⟩ = some (.string x) := by
 subst hn
 rcases j with _ | _ | _ | j
 all_goals (simp at h; try (subst h; simp))
theorem itoa_21 (n : Int) (h0 : -9223372036854775808 <= n) (h1 : n <= 9223372036854775807) : (Lib.itoa n).length <= 21 := Lib.itoa_length_le n h0 h1
theorem dashL_le (l : List UInt8) : (dashL l).length <= l.length + 1 := by
 unfold dashL
 split <;> simp
theorem kyOk_int {n : Int} (h : (Lit.int .i64 n).wf = true) : -9223372036854775808 <= n /\ n <= 9223372036854775807 := by
 have h' : (decide ((-9223372036854775808 : Int) <= n) && decide (n <= 9223372036854775807)) = true := h
 simp only [Bool.and_eq_true, decide_eq_true_eq] at h'
 exact h'
theorem keyL_le (k : Ky) (hk : KyOk k) (hw : k.word.size <= 30000) : (keyL k).length <= 200000 := by
 unfold keyL
 have ha := kyOk_int hk.kind
 have hb := kyOk_int hk.a
 have hc := kyOk_int hk.b
 have q0 := itoa_21 k.kind ha.1 ha.2
 have q1 := itoa_21 k.a hb.1 hb.2
 have q3 := itoa_21 k.b hc.1 hc.2
 have q2 := dashL_le k.word.data.toList
 have q4 : k.word.data.toList.length = k.word.size := by show k.word.data.toList.length = k.word.data.size; simp
 have := join_le [Lib.itoa k.kind, Lib.itoa k.a, dashL k.word.data.toList, Lib.itoa k.b] [32] 30001 (fun x hx => by
  simp only [List.mem_cons, List.mem_nil_iff, or_false] at hx
  rcases hx with rfl | rfl | rfl | rfl <;> omega)
 simp only [List.length_cons, List.length_nil] at this
 omega
theorem key_text (k : Ky) (w : World) (hk : KyOk k) (hw : k.word.size <= 30000) (ht : Tab w) :
  Calls Tryz.prog 47 #[.agg #[.int .i64 k.kind, .int .i64 k.a, .string k.word, .int .i64 k.b]] w fun e w' => e = .returned (.string ⟨(keyL k).toArray⟩) /\ Below w.heap.size w w' := by
 have hb0 := below_box w (.cells #[.int .i64 k.kind, .int .i64 k.a, .string k.word, .int .i64 k.b] 73)
 have hbx := boxK_new w k
 have HLe := zh (keyL_le k hk hw)
 have HT := zh (ht.carry hb0)
 have HB := zh hb0
 obtain ⟨k0, k1⟩ := kyOk_int hk.kind
 obtain ⟨a0, a1⟩ := kyOk_int hk.a
 obtain ⟨c0, c1⟩ := kyOk_int hk.b
 clear hk hw ht hb0
 go_enter Tryz.func47, Tryz.ntmps47
 go_upto_region 1 with fail
 generalize w.alloc (.cells #[.int .i64 k.kind, .int .i64 k.a, .string k.word, .int .i64 k.b] 73) = W0 at *
 have HI : Hid (∀ (n : Int) (W : World), -9223372036854775808 <= n -> n <= 9223372036854775807 -> Below W0.heap.size W0 W -> Calls Tryz.prog 11 #[.int .i64 n] W fun e w' => e = .returned (.string ⟨(Lib.itoa n).toArray⟩) /\ Below W.heap.size W w') := fun n W h0 h1 hb => itoa n W h0 h1 ((uh HT).carry hb)
 have HB0 := zh (below_drew W0)
 have HSx : Hid (∀ W, Below W0.heap.size W0 W -> W.cell? ⟨w.heap.size, 0, none⟩ = some (.int .i64 k.kind) /\ W.cell? ⟨w.heap.size, 1, none⟩ = some (.int .i64 k.a) /\ W.cell? ⟨w.heap.size, 2, none⟩ = some (.string k.word) /\ W.cell? ⟨w.heap.size, 3, none⟩ = some (.int .i64 k.b)) := fun W hb => ⟨(hbx.below hb).c0, (hbx.below hb).c1, (hbx.below hb).c2, (hbx.below hb).c3⟩
 have hK : Hid ((⟨(keyL k).toArray⟩ : ByteArray) = ⟨(Lib.join (([⟨(Lib.itoa k.kind).toArray⟩, ⟨(Lib.itoa k.a).toArray⟩, dashB k.word, ⟨(Lib.itoa k.b).toArray⟩] : List ByteArray).map (·.data.toList)) (⟨#[32]⟩ : ByteArray).data.toList).toArray⟩) := by
  unfold Hid keyL
  simp [dashB_data]
 have HKd := zh (uh hK)
 clear hbx hK
 refine wp_region_held_drew (S := fun x => x.cell? ⟨w.heap.size, 0, none⟩ = some (.int .i64 k.kind) /\ x.cell? ⟨w.heap.size, 1, none⟩ = some (.int .i64 k.a) /\ x.cell? ⟨w.heap.size, 2, none⟩ = some (.string k.word) /\ x.cell? ⟨w.heap.size, 3, none⟩ = some (.int .i64 k.b)) (by kernel_rfl) (uh HSx _ (uh HB0)) (fun hHeld => ?_)
 refine takeH 0 (h := ?_)
 try simp only [Act.put, sI, sZ, sS]
 refine takeH 1 (h := ?_)
 try simp only [Act.put, sI, sZ, sS]
 refine takeH 3 (h := ?_)
 try simp only [Act.put, sI, sZ, sS]
 refine takeH 4 (h := ?_)
 try simp only [Act.put, sI, sZ, sS]
 refine takeH 6 (h := ?_)
 try simp only [Act.put, sI, sZ, sS]
 refine takeH 7 (h := ?_)
 try simp only [Act.put, sI, sZ, sS]
 refine takeH 9 (h := ?_)
 try simp only [Act.put, sI, sZ, sS]
 refine takeH 10 (h := ?_)
 try simp only [Act.put, sI, sZ, sS]
 refine readyH 2 (h := fun K hK => ?_)
 go_simp
 refine (uh HI k.kind _ k0 k1 (uh HB0)).mono ?_
 rintro e y1 ⟨rfl, b1⟩
 have HB1 := zh ((uh HB0).trans (b1.mono (uh HB0).size))
 clear b1
 refine hK.out _ _ (uh HSx y1 (uh HB1)) (fun hHeld => ?_)
 clear hK K
 try simp only [Act.put, sI, sZ, sS]
 refine readyH 5 (h := fun K hK => ?_)
 go_simp
 refine (uh HI k.a _ a0 a1 (uh HB1)).mono ?_
 rintro e y2 ⟨rfl, b2⟩
 have HB2 := zh ((uh HB1).trans (b2.mono (uh HB1).size))
 clear b2
 refine hK.out _ _ (uh HSx y2 (uh HB2)) (fun hHeld => ?_)
 clear hK K
 try simp only [Act.put, sI, sZ, sS]
 refine readyH 8 (h := fun K hK => ?_)
 go_simp
 refine (desk_dash k.word _).mono ?_
 rintro e y3 ⟨rfl, b3⟩
 have HB3 : Hid (Below W0.heap.size W0 y3) := by rw [b3]; exact uh HB2
 clear b3
 refine hK.out _ _ (uh HSx y3 (uh HB3)) (fun hHeld => ?_)
 clear hK K
 try simp only [Act.put, sI, sZ, sS]
 refine readyH 11 (h := fun K hK => ?_)
 go_simp
 refine (uh HI k.b _ c0 c1 (uh HB3)).mono ?_
 rintro e y4 ⟨rfl, b4⟩
 have HB4 := zh ((uh HB3).trans (b4.mono (uh HB3).size))
 clear b4
 refine hK.out _ _ (uh HSx y4 (uh HB4)) (fun hHeld => ?_)
 clear hK K
 try simp only [Act.put, sI, sZ, sS]
 refine readyH 12 (h := fun K hK => ?_)
 go_simp
 refine hK.out _ _ (uh HSx _ ((uh HB4).alloc (uh HB4).size _)) (fun hHeld => ?_)
 clear hK K
 try simp only [Act.put, sI, sZ, sS]
 have hJ := Tryz.strings_Join y4.heap.size 0 4 [⟨(Lib.itoa k.kind).toArray⟩, ⟨(Lib.itoa k.a).toArray⟩, dashB k.word, ⟨(Lib.itoa k.b).toArray⟩] ⟨#[32]⟩ (y4.alloc (.cells #[.string ⟨(Lib.itoa k.kind).toArray⟩, .string ⟨(Lib.itoa k.a).toArray⟩, .string (dashB k.word), .string ⟨(Lib.itoa k.b).toArray⟩] 9)) (four_cells y4 _ rfl _ _ _ _) (by simp) (by show (4 : Nat) <= _; decide) (by show (4 : Nat) <= 4; decide) (by
  have q := congrArg (fun b : ByteArray => b.data.toList.length) (uh HKd)
  have := uh HLe
  exact Nat.le_trans (Nat.le_of_eq q.symm) (Nat.le_trans this (by decide)))
 rw [<- uh HKd] at hJ
 have HJ := zh hJ
 clear hJ
 refine readyH 13 (h := fun K hK => ?_)
 go_simp
 refine (uh HJ).mono ?_
 rintro e y6 ⟨rfl, b6⟩
 have hb5 := (uh HB4).alloc (uh HB4).size (.cells #[.string ⟨(Lib.itoa k.kind).toArray⟩, .string ⟨(Lib.itoa k.a).toArray⟩, .string (dashB k.word), .string ⟨(Lib.itoa k.b).toArray⟩] 9)
 have HB6 := zh (hb5.trans (b6.mono hb5.size))
 clear b6 hb5
 refine hK.out _ _ (uh HSx y6 (uh HB6)) (fun hHeld => ?_)
 clear hK K
 try simp only [Act.put, sI, sZ, sS]
 refine takeH 14 (h := ?_)
 try simp only [Act.put, sI, sZ, sS]
 refine wpAnyH_done (by kernel_rfl) ?_ _
 clear hHeld
 go_wp2
 go_ret
 exact ⟨rfl, (uh HB).trans ((uh HB6).mono (uh HB).size)⟩
theorem pieceL_le (p : Int × Int × ByteArray) (h0 : -9223372036854775808 <= p.1 /\ p.1 <= 9223372036854775807) (h1 : -9223372036854775808 <= p.2.1 /\ p.2.1 <= 9223372036854775807) (hw : p.2.2.size <= 30000) : (pieceL p).length <= 200000 := by
 unfold pieceL
 have q0 := itoa_21 p.1 h0.1 h0.2
 have q1 := itoa_21 p.2.1 h1.1 h1.2
 have q4 : p.2.2.data.toList.length = p.2.2.size := by show p.2.2.data.toList.length = p.2.2.data.size; simp
 have := join_le [Lib.itoa p.1, Lib.itoa p.2.1, p.2.2.data.toList] [32] 30001 (fun x hx => by
  simp only [List.mem_cons, List.mem_nil_iff, or_false] at hx
  rcases hx with rfl | rfl | rfl <;> omega)
 simp only [List.length_cons, List.length_nil] at this
 omega
theorem piece_text (p : Int × Int × ByteArray) (w : World) (h0 : -9223372036854775808 <= p.1 /\ p.1 <= 9223372036854775807) (h1 : -9223372036854775808 <= p.2.1 /\ p.2.1 <= 9223372036854775807) (hw : p.2.2.size <= 30000) (ht : Tab w) :
  Calls Tryz.prog 72 #[.agg #[.int .i64 p.1, .int .i64 p.2.1, .string p.2.2]] w fun e w' => e = .returned (.string ⟨(pieceL p).toArray⟩) /\ Below w.heap.size w w' := by
 have hb0 := below_box w (.cells #[.int .i64 p.1, .int .i64 p.2.1, .string p.2.2] 107)
 have x0 : (w.alloc (.cells #[.int .i64 p.1, .int .i64 p.2.1, .string p.2.2] 107)).cell? ⟨w.heap.size, 0, none⟩ = some (.int .i64 p.1) := by simp
 have x1 : (w.alloc (.cells #[.int .i64 p.1, .int .i64 p.2.1, .string p.2.2] 107)).cell? ⟨w.heap.size, 1, none⟩ = some (.int .i64 p.2.1) := by simp
 have x2 : (w.alloc (.cells #[.int .i64 p.1, .int .i64 p.2.1, .string p.2.2] 107)).cell? ⟨w.heap.size, 2, none⟩ = some (.string p.2.2) := by simp
 have HLe := zh (pieceL_le p h0 h1 hw)
 have HT := zh (ht.carry hb0)
 have HB := zh hb0
 obtain ⟨a0, a1⟩ := h0
 obtain ⟨c0, c1⟩ := h1
 clear hw ht hb0
 go_enter Tryz.func72, Tryz.ntmps72
 go_upto_region 1 with fail
 generalize w.alloc (.cells #[.int .i64 p.1, .int .i64 p.2.1, .string p.2.2] 107) = W0 at *
 have HI : Hid (∀ (n : Int) (W : World), -9223372036854775808 <= n -> n <= 9223372036854775807 -> Below W0.heap.size W0 W -> Calls Tryz.prog 11 #[.int .i64 n] W fun e w' => e = .returned (.string ⟨(Lib.itoa n).toArray⟩) /\ Below W.heap.size W w') := fun n W h0 h1 hb => itoa n W h0 h1 ((uh HT).carry hb)
 have HB0 := zh (below_drew W0)
 have HSx : Hid (∀ W, Below W0.heap.size W0 W -> W.cell? ⟨w.heap.size, 0, none⟩ = some (.int .i64 p.1) /\ W.cell? ⟨w.heap.size, 1, none⟩ = some (.int .i64 p.2.1) /\ W.cell? ⟨w.heap.size, 2, none⟩ = some (.string p.2.2)) := fun W hb => ⟨(hb.cell (lt_of_cell x0)).trans x0, (hb.cell (lt_of_cell x1)).trans x1, (hb.cell (lt_of_cell x2)).trans x2⟩
 have HKd : Hid ((⟨(pieceL p).toArray⟩ : ByteArray) = ⟨(Lib.join (([⟨(Lib.itoa p.1).toArray⟩, ⟨(Lib.itoa p.2.1).toArray⟩, p.2.2] : List ByteArray).map (·.data.toList)) (⟨#[32]⟩ : ByteArray).data.toList).toArray⟩) := by
  unfold Hid pieceL
  simp
 clear x0 x1 x2
 refine wp_region_held_drew (S := fun x => x.cell? ⟨w.heap.size, 0, none⟩ = some (.int .i64 p.1) /\ x.cell? ⟨w.heap.size, 1, none⟩ = some (.int .i64 p.2.1) /\ x.cell? ⟨w.heap.size, 2, none⟩ = some (.string p.2.2)) (by kernel_rfl) (uh HSx _ (uh HB0)) (fun hHeld => ?_)
 refine takeH 0 (h := ?_)
 try simp only [Act.put, sI, sZ, sS]
 refine takeH 1 (h := ?_)
 try simp only [Act.put, sI, sZ, sS]
 refine takeH 2 (h := ?_)
 try simp only [Act.put, sI, sZ, sS]
 refine takeH 4 (h := ?_)
 try simp only [Act.put, sI, sZ, sS]
 refine takeH 5 (h := ?_)
 try simp only [Act.put, sI, sZ, sS]
 refine takeH 6 (h := ?_)
 try simp only [Act.put, sI, sZ, sS]
 refine takeH 8 (h := ?_)
 try simp only [Act.put, sI, sZ, sS]
 refine takeH 9 (h := ?_)
 try simp only [Act.put, sI, sZ, sS]
 refine readyH 3 (h := fun K hK => ?_)
 go_simp
 refine (uh HI p.1 _ a0 a1 (uh HB0)).mono ?_
 rintro e y1 ⟨rfl, b1⟩
 have HB1 := zh ((uh HB0).trans (b1.mono (uh HB0).size))
 clear b1
 refine hK.out _ _ (uh HSx y1 (uh HB1)) (fun hHeld => ?_)
 clear hK K
 try simp only [Act.put, sI, sZ, sS]
 refine readyH 7 (h := fun K hK => ?_)
 go_simp
 refine (uh HI p.2.1 _ c0 c1 (uh HB1)).mono ?_
 rintro e y2 ⟨rfl, b2⟩
 have HB2 := zh ((uh HB1).trans (b2.mono (uh HB1).size))
 clear b2
 refine hK.out _ _ (uh HSx y2 (uh HB2)) (fun hHeld => ?_)
 clear hK K
 try simp only [Act.put, sI, sZ, sS]
 refine readyH 10 (h := fun K hK => ?_)
 go_simp
 refine hK.out _ _ (uh HSx _ ((uh HB2).alloc (uh HB2).size _)) (fun hHeld => ?_)
 clear hK K
 try simp only [Act.put, sI, sZ, sS]
 have hJ := Tryz.strings_Join y2.heap.size 0 3 [⟨(Lib.itoa p.1).toArray⟩, ⟨(Lib.itoa p.2.1).toArray⟩, p.2.2] ⟨#[32]⟩ (y2.alloc (.cells #[.string ⟨(Lib.itoa p.1).toArray⟩, .string ⟨(Lib.itoa p.2.1).toArray⟩, .string p.2.2] 9)) (three_cells y2 _ rfl _ _ _) (by simp) (by show (3 : Nat) <= _; decide) (by show (3 : Nat) <= 3; decide) (by
  have q := congrArg (fun b : ByteArray => b.data.toList.length) (uh HKd)
  have := uh HLe
  exact Nat.le_trans (Nat.le_of_eq q.symm) (Nat.le_trans this (by decide)))
 rw [<- uh HKd] at hJ
 have HJ := zh hJ
 clear hJ
 refine readyH 11 (h := fun K hK => ?_)
 go_simp
 refine (uh HJ).mono ?_
 rintro e y6 ⟨rfl, b6⟩
 have hb5 := (uh HB2).alloc (uh HB2).size (.cells #[.string ⟨(Lib.itoa p.1).toArray⟩, .string ⟨(Lib.itoa p.2.1).toArray⟩, .string p.2.2] 9)
 have HB6 := zh (hb5.trans (b6.mono hb5.size))
 clear b6 hb5
 refine hK.out _ _ (uh HSx y6 (uh HB6)) (fun hHeld => ?_)
 clear hK K
 try simp only [Act.put, sI, sZ, sS]
 refine takeH 12 (h := ?_)
 try simp only [Act.put, sI, sZ, sS]
 refine wpAnyH_done (by kernel_rfl) ?_ _
 clear hHeld
 go_wp2
 go_ret
 exact ⟨rfl, (uh HB).trans ((uh HB6).mono (uh HB).size)⟩
theorem tell_ints (l : List Int) (tx : Int -> List UInt8) (sep : ByteArray) (w : World) (ad : Option Addr) (g c : Nat) (hl : l.length <= 5000) (hcell : ∀ j, (hj : j < l.length) -> ad = some ⟨g, 0, none⟩ /\ w.cell? ⟨g, j, none⟩ = some (.int .i64 l[j])) (hf : ∀ z, z ∈ l -> ∀ W, Below w.heap.size w W -> Calls Tryz.prog 11 #[.int .i64 z] W fun e w' => e = .returned (.string ⟨(tx z).toArray⟩) /\ Below W.heap.size W w') (hle : ∀ z, z ∈ l -> (tx z).length <= 200000) (hsep : sep.size <= 10) :
  Calls Tryz.prog 57 #[.slice ad l.length c, .func (.func 11) #[] #[], .string sep] w fun e w' => e = .returned (.string ⟨(Lib.join (l.map tx) sep.data.toList).toArray⟩) /\ Below w.heap.size w w' := by
 have HC := zh hcell
 have HF := zh hf
 have HLe := zh hle
 obtain ⟨n, hn⟩ : ∃ n, n = l.length := ⟨_, rfl⟩
 have HN := zh hn
 rw [<- hn] at hl ⊢
 clear hcell hf hle hn
 go_enter Tryz.func57, Tryz.ntmps57
 go_wp2_with fail
 go_loopw [7, 12] (fun t i x => ∃ k : Nat, k <= n /\ i = .int .i64 k /\ x.ownsRow w.heap.size 9 1 t ((l.take k).map fun z => (⟨(tx z).toArray⟩ : ByteArray)).length (((l.take k).map fun z => (⟨(tx z).toArray⟩ : ByteArray)).map Value.string) /\ Below w.heap.size w x /\ (k = 0 -> t = .slice none 0 0)) (fun _ i _ => n - (intOf i).toNat)
 case atStart => exact ⟨0, Nat.zero_le _, rfl, by simpa using World.ownsRow_nil _ _ _ _, Below.refl _ _, fun _ => rfl⟩
 case round =>
  obtain ⟨k, hk, rfl, hown, hb, hnil⟩ := hrel
  have HNil := zh hnil
  clear hnil
  by_cases hlt : k < n
  ·have hlt' : (k : Int) < (n : Int) := by omega
   have hk0 : (0 : Int) <= (k : Int) := by omega
   have HN1 : Hid (k < l.length) := by rw [<- uh HN]; exact hlt
   obtain ⟨rfl, x0⟩ := uh HC k (uh HN1)
   have q0 := (hb.cell (p := _) (lt_of_cell x0)).trans x0
   clear x0
   have hz := hb.size
   have HFz := zh (uh HF _ (List.getElem_mem (uh HN1)))
   have htk : l.take (k + 1) = l.take k ++ [l[k]] := List.take_succ_eq_append_getElem (uh HN1)
   have HK : Hid ((l.take (k + 1)).map (fun z => (⟨(tx z).toArray⟩ : ByteArray)) = (l.take k).map (fun z => (⟨(tx z).toArray⟩ : ByteArray)) ++ [⟨(tx l[k]).toArray⟩]) := by unfold Hid; rw [htk, List.map_append]; rfl
   have hlk : ((l.take k).map fun z => (⟨(tx z).toArray⟩ : ByteArray)).length < 1099511627776 := by simp; omega
   have HB := zh hb
   have HO := zh hown
   clear hb hown htk HC HF HLe
   obtain ⟨G, hG⟩ : ∃ G, G = (l.take k).map fun z => (⟨(tx z).toArray⟩ : ByteArray) := ⟨_, rfl⟩
   rw [<- hG] at HO HK hlk
   clear hG
   generalize l[k] = z at *
   generalize tx z = tz at *
   skip
   have HBb := zh (Below.refl wr.heap.size wr)
   have HB1 := zh ((uh HB).trans ((uh HBb).mono (uh HB).size))
   have HFw := zh (uh HFz _ (uh HB1))
   go_wp2_with fail
   refine (uh HFw).mono ?_
   rintro e w2 ⟨rfl, b2⟩
   have B2 := zh ((uh HBb).trans (b2.mono (uh HBb).size))
   have hz2 := (uh B2).size
   have O2 := zh (ownsRow_carry (uh HO) (uh B2))
   clear b2 HFz HFw
   go_wp2_with (at_builtin; refine wpList_appS _ rfl (.tmp 16) (.tmp 20) rfl w.heap.size _ G rfl ((uh O2).alloc _) w2.heap.size ⟨tz.toArray⟩ rfl ?d0 hlk ?d3 ?_)
   case d0 => simp
   case d3 => simp; omega
   intro v' wn k1 k2
   have HBN := zh (append_step hz (uh HB) (uh B2) hz (uh HO) k2)
   have HON : Hid (wn.ownsRow w.heap.size 9 1 v' ((l.take (k + 1)).map fun z => (⟨(tx z).toArray⟩ : ByteArray)).length (((l.take (k + 1)).map fun z => (⟨(tx z).toArray⟩ : ByteArray)).map Value.string)) := by unfold Hid; rw [uh HK]; simpa using k1
   clear k1 k2
   go_wp2
   go_roundw
   case rel => exact ⟨k + 1, by omega, by go_num, uh HON, uh HBN, fun e => absurd e (by omega)⟩
   case measure => simp [intOf]; omega
  ·have hlt' : ¬ (k : Int) < (n : Int) := by omega
   have hkl : l.take k = l := List.take_of_length_le (by have := uh HN; omega)
   rw [hkl] at hown
   have HB := zh hb
   by_cases h0 : n = 0
   ·have hle0 : l = [] := List.eq_nil_of_length_eq_zero (by rw [<- uh HN]; exact h0)
    have hv : u7 = .slice none 0 0 := uh HNil (by omega)
    subst hv
    clear hown hb hkl HC HF HLe
    go_wp2_with fail
    refine (join_none sep wr).mono ?_
    rintro e w2 ⟨rfl, rfl⟩
    go_wp2
    go_ret
    exact ⟨by rw [hle0]; rfl, uh HB⟩
   ·obtain ⟨g', cp, rfl, q1, q2, q3⟩ := own_cells hown (by intro e; simp at e; rw [e] at HN; exact h0 (uh HN))
    have hmap : (l.map fun z => (⟨(tx z).toArray⟩ : ByteArray)).map (·.data.toList) = l.map tx := by simp
    have hlen : (Lib.join ((l.map fun z => (⟨(tx z).toArray⟩ : ByteArray)).map (·.data.toList)) sep.data.toList).length <= 140737488355328 := by
     rw [hmap]
     have h1 := join_le (l.map tx) sep.data.toList 200000 (fun x hx => by
      obtain ⟨z, hz, rfl⟩ := List.mem_map.1 hx
      exact uh HLe z hz)
     have h2 : sep.data.toList.length = sep.size := by show sep.data.toList.length = sep.data.size; simp
     rw [List.length_map, h2, <- uh HN] at h1
     have h3 : n * (200000 + sep.size) <= 5000 * 200010 := Nat.mul_le_mul hl (by omega)
     omega
    have HJ := zh (Tryz.strings_Join g' 0 cp (l.map fun z => (⟨(tx z).toArray⟩ : ByteArray)) sep wr q3 q2 (by simp; have := uh HN; omega) q1 hlen)
    rw [hmap] at HJ
    simp only [List.length_map] at HJ ⊢
    clear hb hown hkl hlen q1 q2 q3 HC HF HLe hmap
    go_wp2_with fail
    refine (uh HJ).mono ?_
    rintro e w2 ⟨rfl, b2⟩
    have HB2 := zh ((uh HB).trans (b2.mono (uh HB).size))
    clear b2
    go_wp2
    go_ret
    exact ⟨rfl, uh HB2⟩
theorem tell_keys (l : List Ky) (tx : Ky -> List UInt8) (sep : ByteArray) (w : World) (ad : Option Addr) (g c : Nat) (hl : l.length <= 5000) (hcell : ∀ j, (hj : j < l.length) -> ad = some ⟨g, 0, none⟩ /\ w.cell? ⟨g, j * 4, none⟩ = some (.int .i64 l[j].kind) /\ w.cell? ⟨g, j * 4 + 1, none⟩ = some (.int .i64 l[j].a) /\ w.cell? ⟨g, j * 4 + 2, none⟩ = some (.string l[j].word) /\ w.cell? ⟨g, j * 4 + 3, none⟩ = some (.int .i64 l[j].b)) (hf : ∀ z, z ∈ l -> ∀ W, Below w.heap.size w W -> Calls Tryz.prog 47 #[.agg #[.int .i64 z.kind, .int .i64 z.a, .string z.word, .int .i64 z.b]] W fun e w' => e = .returned (.string ⟨(tx z).toArray⟩) /\ Below W.heap.size W w') (hle : ∀ z, z ∈ l -> (tx z).length <= 200000) (hsep : sep.size <= 10) :
  Calls Tryz.prog 45 #[.slice ad l.length c, .func (.func 47) #[] #[], .string sep] w fun e w' => e = .returned (.string ⟨(Lib.join (l.map tx) sep.data.toList).toArray⟩) /\ Below w.heap.size w w' := by
 have HC := zh hcell
 have HF := zh hf
 have HLe := zh hle
 obtain ⟨n, hn⟩ : ∃ n, n = l.length := ⟨_, rfl⟩
 have HN := zh hn
 rw [<- hn] at hl ⊢
 clear hcell hf hle hn
 go_enter Tryz.func45, Tryz.ntmps45
 go_wp2_with fail
 go_loopw [7, 12] (fun t i x => ∃ k : Nat, k <= n /\ i = .int .i64 k /\ x.ownsRow w.heap.size 9 1 t ((l.take k).map fun z => (⟨(tx z).toArray⟩ : ByteArray)).length (((l.take k).map fun z => (⟨(tx z).toArray⟩ : ByteArray)).map Value.string) /\ Below w.heap.size w x /\ (k = 0 -> t = .slice none 0 0)) (fun _ i _ => n - (intOf i).toNat)
 case atStart => exact ⟨0, Nat.zero_le _, rfl, by simpa using World.ownsRow_nil _ _ _ _, Below.refl _ _, fun _ => rfl⟩
 case round =>
  obtain ⟨k, hk, rfl, hown, hb, hnil⟩ := hrel
  have HNil := zh hnil
  clear hnil
  by_cases hlt : k < n
  ·have hlt' : (k : Int) < (n : Int) := by omega
   have hk0 : (0 : Int) <= (k : Int) := by omega
   have HN1 : Hid (k < l.length) := by rw [<- uh HN]; exact hlt
   obtain ⟨rfl, x0, x1, x2, x3⟩ := uh HC k (uh HN1)
   have q0 := (hb.cell (p := _) (lt_of_cell x0)).trans x0
   have q1 := (hb.cell (p := _) (lt_of_cell x1)).trans x1
   have q2 := (hb.cell (p := _) (lt_of_cell x2)).trans x2
   have q3 := (hb.cell (p := _) (lt_of_cell x3)).trans x3
   clear x0 x1 x2 x3
   have hz := hb.size
   have HFz := zh (uh HF _ (List.getElem_mem (uh HN1)))
   have htk : l.take (k + 1) = l.take k ++ [l[k]] := List.take_succ_eq_append_getElem (uh HN1)
   have HK : Hid ((l.take (k + 1)).map (fun z => (⟨(tx z).toArray⟩ : ByteArray)) = (l.take k).map (fun z => (⟨(tx z).toArray⟩ : ByteArray)) ++ [⟨(tx l[k]).toArray⟩]) := by unfold Hid; rw [htk, List.map_append]; rfl
   have hlk : ((l.take k).map fun z => (⟨(tx z).toArray⟩ : ByteArray)).length < 1099511627776 := by simp; omega
   have HB := zh hb
   have HO := zh hown
   clear hb hown htk HC HF HLe
   obtain ⟨G, hG⟩ : ∃ G, G = (l.take k).map fun z => (⟨(tx z).toArray⟩ : ByteArray) := ⟨_, rfl⟩
   rw [<- hG] at HO HK hlk
   clear hG
   generalize l[k] = z at *
   generalize tx z = tz at *
   go_upto_region 5 with fail
   have HBb := zh (below_box wr (.cells #[.int .i64 z.kind, .int .i64 z.a, .string z.word, .int .i64 z.b] 73))
   have HB1 := zh ((uh HB).trans ((uh HBb).mono (uh HB).size))
   have HFw := zh (uh HFz _ (uh HB1))
   go_wp2_with fail
   refine (uh HFw).mono ?_
   rintro e w2 ⟨rfl, b2⟩
   have B2 := zh ((uh HBb).trans (b2.mono (uh HBb).size))
   have hz2 := (uh B2).size
   have O2 := zh (ownsRow_carry (uh HO) (uh B2))
   clear b2 HFz HFw
   go_wp2_with (at_builtin; refine wpList_appS _ rfl (.tmp 16) (.tmp 20) rfl w.heap.size _ G rfl ((uh O2).alloc _) w2.heap.size ⟨tz.toArray⟩ rfl ?d0 hlk ?d3 ?_)
   case d0 => simp
   case d3 => simp; omega
   intro v' wn k1 k2
   have HBN := zh (append_step hz (uh HB) (uh B2) hz (uh HO) k2)
   have HON : Hid (wn.ownsRow w.heap.size 9 1 v' ((l.take (k + 1)).map fun z => (⟨(tx z).toArray⟩ : ByteArray)).length (((l.take (k + 1)).map fun z => (⟨(tx z).toArray⟩ : ByteArray)).map Value.string)) := by unfold Hid; rw [uh HK]; simpa using k1
   clear k1 k2
   go_wp2
   go_roundw
   case rel => exact ⟨k + 1, by omega, by go_num, uh HON, uh HBN, fun e => absurd e (by omega)⟩
   case measure => simp [intOf]; omega
  ·have hlt' : ¬ (k : Int) < (n : Int) := by omega
   have hkl : l.take k = l := List.take_of_length_le (by have := uh HN; omega)
   rw [hkl] at hown
   have HB := zh hb
   by_cases h0 : n = 0
   ·have hle0 : l = [] := List.eq_nil_of_length_eq_zero (by rw [<- uh HN]; exact h0)
    have hv : u7 = .slice none 0 0 := uh HNil (by omega)
    subst hv
    clear hown hb hkl HC HF HLe
    go_wp2_with fail
    refine (join_none sep wr).mono ?_
    rintro e w2 ⟨rfl, rfl⟩
    go_wp2
    go_ret
    exact ⟨by rw [hle0]; rfl, uh HB⟩
   ·obtain ⟨g', cp, rfl, q1, q2, q3⟩ := own_cells hown (by intro e; simp at e; rw [e] at HN; exact h0 (uh HN))
    have hmap : (l.map fun z => (⟨(tx z).toArray⟩ : ByteArray)).map (·.data.toList) = l.map tx := by simp
    have hlen : (Lib.join ((l.map fun z => (⟨(tx z).toArray⟩ : ByteArray)).map (·.data.toList)) sep.data.toList).length <= 140737488355328 := by
     rw [hmap]
     have h1 := join_le (l.map tx) sep.data.toList 200000 (fun x hx => by
      obtain ⟨z, hz, rfl⟩ := List.mem_map.1 hx
      exact uh HLe z hz)
     have h2 : sep.data.toList.length = sep.size := by show sep.data.toList.length = sep.data.size; simp
     rw [List.length_map, h2, <- uh HN] at h1
     have h3 : n * (200000 + sep.size) <= 5000 * 200010 := Nat.mul_le_mul hl (by omega)
     omega
    have HJ := zh (Tryz.strings_Join g' 0 cp (l.map fun z => (⟨(tx z).toArray⟩ : ByteArray)) sep wr q3 q2 (by simp; have := uh HN; omega) q1 hlen)
    rw [hmap] at HJ
    simp only [List.length_map] at HJ ⊢
    clear hb hown hkl hlen q1 q2 q3 HC HF HLe hmap
    go_wp2_with fail
    refine (uh HJ).mono ?_
    rintro e w2 ⟨rfl, b2⟩
    have HB2 := zh ((uh HB).trans (b2.mono (uh HB).size))
    clear b2
    go_wp2
    go_ret
    exact ⟨rfl, uh HB2⟩
theorem tell_pieces (l : List (Int × Int × ByteArray)) (tx : (Int × Int × ByteArray) -> List UInt8) (sep : ByteArray) (w : World) (ad : Option Addr) (g c : Nat) (hl : l.length <= 5000) (hcell : ∀ j, (hj : j < l.length) -> ad = some ⟨g, 0, none⟩ /\ w.cell? ⟨g, j * 3, none⟩ = some (.int .i64 l[j].1) /\ w.cell? ⟨g, j * 3 + 1, none⟩ = some (.int .i64 l[j].2.1) /\ w.cell? ⟨g, j * 3 + 2, none⟩ = some (.string l[j].2.2)) (hf : ∀ z, z ∈ l -> ∀ W, Below w.heap.size w W -> Calls Tryz.prog 72 #[.agg #[.int .i64 z.1, .int .i64 z.2.1, .string z.2.2]] W fun e w' => e = .returned (.string ⟨(tx z).toArray⟩) /\ Below W.heap.size W w') (hle : ∀ z, z ∈ l -> (tx z).length <= 200000) (hsep : sep.size <= 10) :
  Calls Tryz.prog 69 #[.slice ad l.length c, .func (.func 72) #[] #[], .string sep] w fun e w' => e = .returned (.string ⟨(Lib.join (l.map tx) sep.data.toList).toArray⟩) /\ Below w.heap.size w w' := by
 have HC := zh hcell
 have HF := zh hf
 have HLe := zh hle
 obtain ⟨n, hn⟩ : ∃ n, n = l.length := ⟨_, rfl⟩
 have HN := zh hn
 rw [<- hn] at hl ⊢
 clear hcell hf hle hn
 go_enter Tryz.func69, Tryz.ntmps69
 go_wp2_with fail
 go_loopw [7, 12] (fun t i x => ∃ k : Nat, k <= n /\ i = .int .i64 k /\ x.ownsRow w.heap.size 9 1 t ((l.take k).map fun z => (⟨(tx z).toArray⟩ : ByteArray)).length (((l.take k).map fun z => (⟨(tx z).toArray⟩ : ByteArray)).map Value.string) /\ Below w.heap.size w x /\ (k = 0 -> t = .slice none 0 0)) (fun _ i _ => n - (intOf i).toNat)
 case atStart => exact ⟨0, Nat.zero_le _, rfl, by simpa using World.ownsRow_nil _ _ _ _, Below.refl _ _, fun _ => rfl⟩
 case round =>
  obtain ⟨k, hk, rfl, hown, hb, hnil⟩ := hrel
  have HNil := zh hnil
  clear hnil
  by_cases hlt : k < n
  ·have hlt' : (k : Int) < (n : Int) := by omega
   have hk0 : (0 : Int) <= (k : Int) := by omega
   have HN1 : Hid (k < l.length) := by rw [<- uh HN]; exact hlt
   obtain ⟨rfl, x0, x1, x2⟩ := uh HC k (uh HN1)
   have q0 := (hb.cell (p := _) (lt_of_cell x0)).trans x0
   have q1 := (hb.cell (p := _) (lt_of_cell x1)).trans x1
   have q2 := (hb.cell (p := _) (lt_of_cell x2)).trans x2
   clear x0 x1 x2
   have hz := hb.size
   have HFz := zh (uh HF _ (List.getElem_mem (uh HN1)))
   have htk : l.take (k + 1) = l.take k ++ [l[k]] := List.take_succ_eq_append_getElem (uh HN1)
   have HK : Hid ((l.take (k + 1)).map (fun z => (⟨(tx z).toArray⟩ : ByteArray)) = (l.take k).map (fun z => (⟨(tx z).toArray⟩ : ByteArray)) ++ [⟨(tx l[k]).toArray⟩]) := by unfold Hid; rw [htk, List.map_append]; rfl
   have hlk : ((l.take k).map fun z => (⟨(tx z).toArray⟩ : ByteArray)).length < 1099511627776 := by simp; omega
   have HB := zh hb
   have HO := zh hown
   clear hb hown htk HC HF HLe
   obtain ⟨G, hG⟩ : ∃ G, G = (l.take k).map fun z => (⟨(tx z).toArray⟩ : ByteArray) := ⟨_, rfl⟩
   rw [<- hG] at HO HK hlk
   clear hG
   generalize l[k] = z at *
   generalize tx z = tz at *
   go_upto_region 5 with fail
   have HBb := zh (below_box wr (.cells #[.int .i64 z.1, .int .i64 z.2.1, .string z.2.2] 107))
   have HB1 := zh ((uh HB).trans ((uh HBb).mono (uh HB).size))
   have HFw := zh (uh HFz _ (uh HB1))
   go_wp2_with fail
   refine (uh HFw).mono ?_
   rintro e w2 ⟨rfl, b2⟩
   have B2 := zh ((uh HBb).trans (b2.mono (uh HBb).size))
   have hz2 := (uh B2).size
   have O2 := zh (ownsRow_carry (uh HO) (uh B2))
   clear b2 HFz HFw
   go_wp2_with (at_builtin; refine wpList_appS _ rfl (.tmp 16) (.tmp 20) rfl w.heap.size _ G rfl ((uh O2).alloc _) w2.heap.size ⟨tz.toArray⟩ rfl ?d0 hlk ?d3 ?_)
   case d0 => simp
   case d3 => simp; omega
   intro v' wn k1 k2
   have HBN := zh (append_step hz (uh HB) (uh B2) hz (uh HO) k2)
   have HON : Hid (wn.ownsRow w.heap.size 9 1 v' ((l.take (k + 1)).map fun z => (⟨(tx z).toArray⟩ : ByteArray)).length (((l.take (k + 1)).map fun z => (⟨(tx z).toArray⟩ : ByteArray)).map Value.string)) := by unfold Hid; rw [uh HK]; simpa using k1
   clear k1 k2
   go_wp2
   go_roundw
   case rel => exact ⟨k + 1, by omega, by go_num, uh HON, uh HBN, fun e => absurd e (by omega)⟩
   case measure => simp [intOf]; omega
  ·have hlt' : ¬ (k : Int) < (n : Int) := by omega
   have hkl : l.take k = l := List.take_of_length_le (by have := uh HN; omega)
   rw [hkl] at hown
   have HB := zh hb
   by_cases h0 : n = 0
   ·have hle0 : l = [] := List.eq_nil_of_length_eq_zero (by rw [<- uh HN]; exact h0)
    have hv : u7 = .slice none 0 0 := uh HNil (by omega)
    subst hv
    clear hown hb hkl HC HF HLe
    go_wp2_with fail
    refine (join_none sep wr).mono ?_
    rintro e w2 ⟨rfl, rfl⟩
    go_wp2
    go_ret
    exact ⟨by rw [hle0]; rfl, uh HB⟩
   ·obtain ⟨g', cp, rfl, q1, q2, q3⟩ := own_cells hown (by intro e; simp at e; rw [e] at HN; exact h0 (uh HN))
    have hmap : (l.map fun z => (⟨(tx z).toArray⟩ : ByteArray)).map (·.data.toList) = l.map tx := by simp
    have hlen : (Lib.join ((l.map fun z => (⟨(tx z).toArray⟩ : ByteArray)).map (·.data.toList)) sep.data.toList).length <= 140737488355328 := by
     rw [hmap]
     have h1 := join_le (l.map tx) sep.data.toList 200000 (fun x hx => by
      obtain ⟨z, hz, rfl⟩ := List.mem_map.1 hx
      exact uh HLe z hz)
     have h2 : sep.data.toList.length = sep.size := by show sep.data.toList.length = sep.data.size; simp
     rw [List.length_map, h2, <- uh HN] at h1
     have h3 : n * (200000 + sep.size) <= 5000 * 200010 := Nat.mul_le_mul hl (by omega)
     omega
    have HJ := zh (Tryz.strings_Join g' 0 cp (l.map fun z => (⟨(tx z).toArray⟩ : ByteArray)) sep wr q3 q2 (by simp; have := uh HN; omega) q1 hlen)
    rw [hmap] at HJ
    simp only [List.length_map] at HJ ⊢
    clear hb hown hkl hlen q1 q2 q3 HC HF HLe hmap
    go_wp2_with fail
    refine (uh HJ).mono ?_
    rintro e w2 ⟨rfl, b2⟩
    have HB2 := zh ((uh HB).trans (b2.mono (uh HB).size))
    clear b2
    go_wp2
    go_ret
    exact ⟨rfl, uh HB2⟩
theorem sure_graph (p : Option Addr) (e0 : Int) (w : World) (hg : ErrorType w) : Calls Tryz.prog 37 #[.pointer p, errV e0] w fun e w' => e = (if e0 = 0 then .returned (.pointer p) else thrown e0) /\ Below w.heap.size w w' := by
 have HC := zh (check_any e0 w hg)
 clear hg
 by_cases h : e0 = 0
 ·subst h
  rw [if_pos rfl] at HC ⊢
  go_enter Tryz.func37, Tryz.ntmps37
  go_wp2_with fail
  refine (uh HC).mono ?_
  rintro e w1 ⟨rfl, b1⟩
  have HB := zh b1
  clear b1 HC
  go_wp2
  go_ret
  exact ⟨rfl, uh HB⟩
 ·rw [if_neg h] at HC ⊢
  go_enter Tryz.func37, Tryz.ntmps37
  go_wp2_with fail
  refine (uh HC).mono ?_
  rintro e w1 ⟨rfl, b1⟩
  have HB := zh b1
  clear b1 HC
  go_wp2
  exact ⟨rfl, rfl, uh HB⟩
theorem sure_base (p : Option Addr) (e0 : Int) (w : World) (hg : ErrorType w) : Calls Tryz.prog 62 #[.pointer p, errV e0] w fun e w' => e = (if e0 = 0 then .returned (.pointer p) else thrown e0) /\ Below w.heap.size w w' := by
 have HC := zh (check_any e0 w hg)
 clear hg
 by_cases h : e0 = 0
 ·subst h
  rw [if_pos rfl] at HC ⊢
  go_enter Tryz.func62, Tryz.ntmps62
  go_wp2_with fail
  refine (uh HC).mono ?_
  rintro e w1 ⟨rfl, b1⟩
  have HB := zh b1
  clear b1 HC
  go_wp2
  go_ret
  exact ⟨rfl, uh HB⟩
 ·rw [if_neg h] at HC ⊢
  go_enter Tryz.func62, Tryz.ntmps62
  go_wp2_with fail
  refine (uh HC).mono ?_
  rintro e w1 ⟨rfl, b1⟩
  have HB := zh b1
  clear b1 HC
  go_wp2
  exact ⟨rfl, rfl, uh HB⟩
theorem sure_texts (p : Option Addr) (n c : Nat) (e0 : Int) (w : World) (hg : ErrorType w) : Calls Tryz.prog 51 #[.slice p n c, errV e0] w fun e w' => e = (if e0 = 0 then .returned (.slice p n c) else thrown e0) /\ Below w.heap.size w w' := by
 have HC := zh (check_any e0 w hg)
 clear hg
 by_cases h : e0 = 0
 ·subst h
  rw [if_pos rfl] at HC ⊢
  go_enter Tryz.func51, Tryz.ntmps51
  go_wp2_with fail
  refine (uh HC).mono ?_
  rintro e w1 ⟨rfl, b1⟩
  have HB := zh b1
  clear b1 HC
  go_wp2
  go_ret
  exact ⟨rfl, uh HB⟩
 ·rw [if_neg h] at HC ⊢
  go_enter Tryz.func51, Tryz.ntmps51
  go_wp2_with fail
  refine (uh HC).mono ?_
  rintro e w1 ⟨rfl, b1⟩
  have HB := zh b1
  clear b1 HC
  go_wp2
  exact ⟨rfl, rfl, uh HB⟩
theorem sure_ints (p : Option Addr) (n c : Nat) (e0 : Int) (w : World) (hg : ErrorType w) : Calls Tryz.prog 58 #[.slice p n c, errV e0] w fun e w' => e = (if e0 = 0 then .returned (.slice p n c) else thrown e0) /\ Below w.heap.size w w' := by
 have HC := zh (check_any e0 w hg)
 clear hg
 by_cases h : e0 = 0
 ·subst h
  rw [if_pos rfl] at HC ⊢
  go_enter Tryz.func58, Tryz.ntmps58
  go_wp2_with fail
  refine (uh HC).mono ?_
  rintro e w1 ⟨rfl, b1⟩
  have HB := zh b1
  clear b1 HC
  go_wp2
  go_ret
  exact ⟨rfl, uh HB⟩
 ·rw [if_neg h] at HC ⊢
  go_enter Tryz.func58, Tryz.ntmps58
  go_wp2_with fail
  refine (uh HC).mono ?_
  rintro e w1 ⟨rfl, b1⟩
  have HB := zh b1
  clear b1 HC
  go_wp2
  exact ⟨rfl, rfl, uh HB⟩
theorem sure_keys (p : Option Addr) (n c : Nat) (e0 : Int) (w : World) (hg : ErrorType w) : Calls Tryz.prog 60 #[.slice p n c, errV e0] w fun e w' => e = (if e0 = 0 then .returned (.slice p n c) else thrown e0) /\ Below w.heap.size w w' := by
 have HC := zh (check_any e0 w hg)
 clear hg
 by_cases h : e0 = 0
 ·subst h
  rw [if_pos rfl] at HC ⊢
  go_enter Tryz.func60, Tryz.ntmps60
  go_wp2_with fail
  refine (uh HC).mono ?_
  rintro e w1 ⟨rfl, b1⟩
  have HB := zh b1
  clear b1 HC
  go_wp2
  go_ret
  exact ⟨rfl, uh HB⟩
 ·rw [if_neg h] at HC ⊢
  go_enter Tryz.func60, Tryz.ntmps60
  go_wp2_with fail
  refine (uh HC).mono ?_
  rintro e w1 ⟨rfl, b1⟩
  have HB := zh b1
  clear b1 HC
  go_wp2
  exact ⟨rfl, rfl, uh HB⟩
theorem sure_pieces (p : Option Addr) (n c : Nat) (e0 : Int) (w : World) (hg : ErrorType w) : Calls Tryz.prog 70 #[.slice p n c, errV e0] w fun e w' => e = (if e0 = 0 then .returned (.slice p n c) else thrown e0) /\ Below w.heap.size w w' := by
 have HC := zh (check_any e0 w hg)
 clear hg
 by_cases h : e0 = 0
 ·subst h
  rw [if_pos rfl] at HC ⊢
  go_enter Tryz.func70, Tryz.ntmps70
  go_wp2_with fail
  refine (uh HC).mono ?_
  rintro e w1 ⟨rfl, b1⟩
  have HB := zh b1
  clear b1 HC
  go_wp2
  go_ret
  exact ⟨rfl, uh HB⟩
 ·rw [if_neg h] at HC ⊢
  go_enter Tryz.func70, Tryz.ntmps70
  go_wp2_with fail
  refine (uh HC).mono ?_
  rintro e w1 ⟨rfl, b1⟩
  have HB := zh b1
  clear b1 HC
  go_wp2
  exact ⟨rfl, rfl, uh HB⟩
theorem sure_ops (p : Option Addr) (n c : Nat) (e0 : Int) (w : World) (hg : ErrorType w) : Calls Tryz.prog 93 #[.slice p n c, errV e0] w fun e w' => e = (if e0 = 0 then .returned (.slice p n c) else thrown e0) /\ Below w.heap.size w w' := by
 have HC := zh (check_any e0 w hg)
 clear hg
 by_cases h : e0 = 0
 ·subst h
  rw [if_pos rfl] at HC ⊢
  go_enter Tryz.func93, Tryz.ntmps93
  go_wp2_with fail
  refine (uh HC).mono ?_
  rintro e w1 ⟨rfl, b1⟩
  have HB := zh b1
  clear b1 HC
  go_wp2
  go_ret
  exact ⟨rfl, uh HB⟩
 ·rw [if_neg h] at HC ⊢
  go_enter Tryz.func93, Tryz.ntmps93
  go_wp2_with fail
  refine (uh HC).mono ?_
  rintro e w1 ⟨rfl, b1⟩
  have HB := zh b1
  clear b1 HC
  go_wp2
  exact ⟨rfl, rfl, uh HB⟩
theorem sure_text (s : ByteArray) (e0 : Int) (w : World) (hg : ErrorType w) : Calls Tryz.prog 74 #[.string s, errV e0] w fun e w' => e = (if e0 = 0 then .returned (.string s) else thrown e0) /\ Below w.heap.size w w' := by
 have HC := zh (check_any e0 w hg)
 clear hg
 by_cases h : e0 = 0
 ·subst h
  rw [if_pos rfl] at HC ⊢
  go_enter Tryz.func74, Tryz.ntmps74
  go_wp2_with fail
  refine (uh HC).mono ?_
  rintro e w1 ⟨rfl, b1⟩
  have HB := zh b1
  clear b1 HC
  go_wp2
  go_ret
  exact ⟨rfl, uh HB⟩
 ·rw [if_neg h] at HC ⊢
  go_enter Tryz.func74, Tryz.ntmps74
  go_wp2_with fail
  refine (uh HC).mono ?_
  rintro e w1 ⟨rfl, b1⟩
  have HB := zh b1
  clear b1 HC
  go_wp2
  exact ⟨rfl, rfl, uh HB⟩
def faultL (n : Int) : List UInt8 := [101, 114, 114, 111, 114, 32] ++ Lib.itoa n
theorem desk_fault (n : Int) (w : World) (h0 : -9223372036854775808 <= n) (h1 : n <= 9223372036854775807) (ht : Tab w) :
  Calls Tryz.prog 5 #[.iface 25 (.int .i64 n)] w fun e w' => e = .returned (.string ⟨(faultL n).toArray⟩) /\ Below w.heap.size w w' := by
 have HI := zh (itoa n w h0 h1 ht)
 have hsz : (⟨(Lib.itoa n).toArray⟩ : ByteArray).size <= 21 := by
  show (Lib.itoa n).toArray.size <= 21
  have := itoa_21 n h0 h1
  simpa using this
 have HE : Hid ((⟨#[101, 114, 114, 111, 114, 32]⟩ : ByteArray) ++ ⟨(Lib.itoa n).toArray⟩ = ⟨(faultL n).toArray⟩) := by
  unfold Hid faultL
  apply ByteArray.ext
  apply Array.toList_inj.1
  simp
 have ha : ∀ w : World, (Instr.typeAssert (.iface 25 (.int .i64 n)) 20 25 true).run Tryz.prog w = .ok (.tuple #[.int .i64 n, .bool true]) w := fun w => by kernel_rfl
 clear h0 h1 ht
 generalize (⟨(Lib.itoa n).toArray⟩ : ByteArray) = tx at *
 go_enter Tryz.func5, Tryz.ntmps5
 go_wp2_with fail
 refine (uh HI).mono ?_
 rintro e w1 ⟨rfl, b1⟩
 have HB := zh b1
 clear b1 HI
 go_wp2
 go_ret
 exact ⟨by rw [<- uh HE]; rfl, uh HB⟩
end Go.Proofs.YtbmkmfoaoganeaaGreatDoor
