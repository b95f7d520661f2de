/- Texts of one proof, one behind the other. -/
import Derived.Test.YtbmkmfoaoganeaaGreatDoorNg
import Derived.Test.YtbmkmfoaoganeaaGreatDoorShelf2
import Derived.Lib.AtoiErrMem
set_option maxRecDepth 100000
set_option maxHeartbeats 16000000
namespace Go.Proofs.YtbmkmfoaoganeaaGreatDoor
open Go.RowKit
def Libs (w : World) : Prop :=
 (∃ m, w.cell? ⟨0, 0, none⟩ = some (.int .i64 m)) /\ (∃ tp p, w.var? Tryz.prog "strconv.ErrSyntax" = some #[.iface tp p]) /\ (∃ tp p, w.var? Tryz.prog "strconv.ErrRange" = some #[.iface tp p])
theorem Libs.carry {w w' : World} (h : Libs w) (hb : Below w.heap.size w w') : Libs w' := by
 obtain ⟨⟨m, h1⟩, ⟨tp, p, h2⟩, tq, q, h3⟩ := h
 exact ⟨⟨m, (hb.cell (lt_of_cell h1)).trans h1⟩, ⟨tp, p, var_carry h2 hb⟩, tq, q, var_carry h3 hb⟩
theorem atoi_ok (s : ByteArray) (v : Int) (w : World) (hs : s.size <= 100000) (h : Lib.atoiAll s.data.toList = .ok v) :
  Calls Tryz.prog 154 #[.string s] w fun e w' => e = .returned (.tuple #[.int .i64 v, .nilIface]) /\ Below w.heap.size w w' :=
 (Tryz.strconv_Atoi_ok s (by omega) v h w).mono fun e w' ⟨he, hw⟩ => ⟨he, by
  rcases hw with rfl | ⟨t, rfl⟩
  ·exact Below.refl _ _
  ·exact Lib.bytesWorld_below _ _ _⟩
def AtoiBad (w : World) (e : Ending) (w' : World) : Prop := ∃ v N, e = .returned (.tuple #[.int .i64 v, .iface 230 (.pointer (some ⟨N, 0, none⟩))]) /\ Below w.heap.size w w'
theorem atoi_bad (s : ByteArray) (w : World) (hs : s.size <= 100000) (h : ∀ v, Lib.atoiAll s.data.toList ≠ .ok v) (hl : Libs w) :
  Calls Tryz.prog 154 #[.string s] w (AtoiBad w) := by
 obtain ⟨_, ⟨tp, p, h2⟩, tq, q, h3⟩ := hl
 cases hh : Lib.atoiAll s.data.toList
 ·exact absurd hh (h _)
 ·exact (Any.strconv_Atoi_syntax_var Tryz.laysC172 s (by omega) hh tp p w h2).mono fun e w' ⟨N, he, _, _, hb⟩ => ⟨0, N, he, hb⟩
 ·exact (Any.strconv_Atoi_range_var Tryz.laysC172 s (by omega) hh tq q w h3).mono fun e w' ⟨N, he, _, _, hb⟩ => ⟨_, N, he, hb⟩
def wordsB (s : ByteArray) : List ByteArray := Lib.splitB ⟨#[32]⟩ 0 (min 8 (s.size + 1) - 1) s
theorem size_list (s : ByteArray) : s.size = s.data.toList.length := Array.length_toList.symm
theorem opL_len (q : Fop) : (opL q).length = (Lib.itoa q.kind).length + (Lib.itoa q.a).length + (dashL q.word.data.toList).length + (Lib.itoa q.b).length + (Lib.itoa q.lo).length + (Lib.itoa q.hi).length + (dashL q.value.data.toList).length + 6 := by
 unfold opL fieldsL
 rw [join_two, join_two, join_two, join_two, join_two, join_two, Lib.join_one]
 simp
 omega
theorem wordsB_of (s : ByteArray) (q : Fop) (hq : opB q = true) (h : s.data.toList = opL q) : (wordsB s).map (·.data.toList) = fieldsL q := by
 unfold wordsB
 rw [Lib.splitB_data]
 show Lib.splitK [32] 0 _ s.data.toList = _
 rw [h]
 refine split_wr q hq _ ?_
 have : 13 <= s.size := by
  rw [size_list, h]
  have hne : ∀ n : Int, 1 <= (Lib.itoa n).length := by
   intro n
   unfold Lib.itoa
   split
   ·simp
   ·rw [Lib.decDigits_length]; exact Lib.nDigits_pos _
  have hd : ∀ l : List UInt8, 1 <= (dashL l).length := by
   intro l
   unfold dashL
   split
   ·simp
   ·cases l with
    | nil => contradiction
    | cons _ _ => simp
  have h1 := hne q.kind
  have h2 := hne q.a
  have h3 := hd q.word.data.toList
  have h4 := hne q.b
  have h5 := hne q.lo
  have h6 := hne q.hi
  have h7 := hd q.value.data.toList
  rw [opL_len]
  omega
 omega
def textB (s : ByteArray) : ByteArray := if s.toList = [45] then ⟨#[]⟩ else s
theorem textB_data (s : ByteArray) : (textB s).data.toList = textL s.data.toList := by
 unfold textB textL
 rw [ByteArray.toList_eq]
 split <;> simp_all
theorem textB_size (s : ByteArray) : (textB s).size <= s.size := by
 unfold textB
 split
 ·exact Nat.zero_le _
 ·exact Nat.le_refl _
theorem fact_text (s : ByteArray) (w : World) : Calls Tryz.prog 183 #[.string s] w fun e w' => e = .returned (.string (textB s)) /\ w' = w := by
 by_cases h : s.toList = [45]
 ·have E : Hid (textB s = ⟨#[]⟩) := by unfold Hid textB; rw [if_pos h]
  have h' : (s.toList == [45]) = true := by simp [h]
  clear h
  go_enter Tryz.func183, Tryz.ntmps183
  go_wp2
  go_ret
  exact ⟨ret_string (uh E), rfl⟩
 ·have E : Hid (textB s = s) := by unfold Hid textB; rw [if_neg h]
  have h' : (s.toList == [45]) = false := by simp [h]
  go_enter Tryz.func183, Tryz.ntmps183
  go_wp2
  go_ret
  exact ⟨ret_string (uh E), rfl⟩
def ReadOne (s : ByteArray) (w : World) (e : Ending) (w' : World) : Prop :=
 ∃ (o : Fop) (ok : Bool), e = .returned (.tuple #[opV o, .bool ok]) /\ (o.word.size <= s.size /\ o.value.size <= s.size) /\ (∀ q, opB q = true -> s.data.toList = opL q -> ok = true /\ o = q) /\ Below w.heap.size w w'
def zeroOp : Fop := ⟨0, 0, ⟨#[]⟩, 0, 0, 0, ⟨#[]⟩⟩
theorem wordsB_small (s : ByteArray) : ∀ p, p ∈ wordsB s -> p.size <= s.size := by
 have key : ∀ (k : Nat) (t : ByteArray), ∀ p, p ∈ Lib.splitB ⟨#[32]⟩ 0 k t -> p.size <= t.size := by
  intro k
  induction k with
  | zero => intro t p hp; simp [Lib.splitB] at hp; rw [hp]; exact Nat.le_refl _
  | succ k ih =>
   intro t p hp
   unfold Lib.splitB at hp
   split at hp
   ·simp at hp; rw [hp]; exact Nat.le_refl _
   ·rcases List.mem_cons.1 hp with rfl | hp
    ·rw [ByteArray.size_extract]; omega
    ·have := ih _ p hp
     rw [ByteArray.size_extract] at this
     omega
 exact key _ s
theorem split_cell (w : World) (ps : List ByteArray) (N j : Nat) (p : ByteArray) (h : ps[j]? = some p) : (w.alloc (.cells (Lib.cellsOf ps N) 9)).cell? ⟨w.heap.size, j, none⟩ = some (.string p) := by
 rw [World.cell?_alloc_at _ _ _ _ (by simp)]
 unfold Lib.cellsOf
 rw [gA, List.getElem?_append_left (by
  rw [List.length_map]
  rcases Nat.lt_or_ge j ps.length with k | k
  ·exact k
  ·rw [List.getElem?_eq_none k] at h; cases h), List.getElem?_map, h]
 rfl
def RdInv (w : World) (ps : List ByteArray) (vs : List Int) (x : World) : Prop :=
 Below w.heap.size w x /\ (∀ j p, ps[j]? = some p -> x.cell? ⟨w.heap.size + 1, j, none⟩ = some (.string p)) /\
 (∀ j, j < 5 -> x.cell? ⟨w.heap.size + 1 + 1, j, none⟩ = some (.int .i64 (vs.getD j 0)) /\ x.frozen? ⟨w.heap.size + 1 + 1, j, none⟩ = false) /\
 (∀ j v, (opCells zeroOp)[j]? = some v -> x.cell? ⟨w.heap.size, j, none⟩ = some v /\ x.frozen? ⟨w.heap.size, j, none⟩ = false)
theorem RdInv.carry {w : World} {ps : List ByteArray} {vs : List Int} {x y : World} (h : RdInv w ps vs x) (hb : Below x.heap.size x y) : RdInv w ps vs y := by
 obtain ⟨h1, h2, h3, h4⟩ := h
 refine ⟨h1.trans (hb.mono h1.size), fun j p hp => (hb.cell (lt_of_cell (h2 j p hp))).trans (h2 j p hp), fun j hj => ?_, fun j v hv => ?_⟩
 ·obtain ⟨c, f⟩ := h3 j hj
  exact ⟨(hb.cell (lt_of_cell c)).trans c, (hb.frozen (lt_of_cell c)).trans f⟩
 ·obtain ⟨c, f⟩ := h4 j v hv
  exact ⟨(hb.cell (lt_of_cell c)).trans c, (hb.frozen (lt_of_cell c)).trans f⟩
theorem RdInv.step {w : World} {ps : List ByteArray} {vs : List Int} {x : World} (h : RdInv w ps vs x) (v : Int) : RdInv w ps (vs ++ [v]) (x.setCell ⟨w.heap.size + 1 + 1, vs.length, none⟩ (.int .i64 v)) := by
 obtain ⟨h1, h2, h3, h4⟩ := h
 refine ⟨h1.setCell (by simp; omega) _, fun j p hp => ?_, fun j hj => ?_, fun j u hu => ?_⟩
 ·rw [zo _ _ _ _ (by simp)]; exact h2 j p hp
 ·rw [World.frozen?_setCell]
  refine ⟨?_, (h3 j hj).2⟩
  by_cases e : j = vs.length
  ·subst e
   rw [World.cell?_setCell_same' _ _ _ (by rw [(h3 _ hj).1]; rfl)]
   simp
  ·rw [zo _ _ _ _ (fun h => e (by simpa using h.symm)), (h3 j hj).1]
   congr 2
   rcases Nat.lt_or_ge j vs.length with k | k
   ·simp [List.getD, List.getElem?_append_left k]
   ·have : vs.length + 1 <= j := by omega
    simp [List.getD, List.getElem?_eq_none k, List.getElem?_append_right k]
    rw [List.getElem?_eq_none (by simp; omega)]
    rfl
 ·rw [World.frozen?_setCell, zo _ _ _ _ (by simp <;> omega)]
  exact h4 j u hu
theorem seven {α : Type} (l : List α) (h : l.length = 7) : ∃ a b c d e f g, l = [a, b, c, d, e, f, g] := by
 match l, h with
 | [a, b, c, d, e, f, g], _ => exact ⟨a, b, c, d, e, f, g, rfl⟩
def numWords (ps : List ByteArray) : List ByteArray := [ps.getD 0 ⟨#[]⟩, ps.getD 1 ⟨#[]⟩, ps.getD 3 ⟨#[]⟩, ps.getD 4 ⟨#[]⟩, ps.getD 5 ⟨#[]⟩]
theorem split8 (s : ByteArray) (w : World) (hs : s.size <= 100000) (hl : Libs w) (o : Obj) :
  Calls Tryz.prog 182 #[.string s, .string ⟨#[32]⟩, .int .i64 8] (w.alloc o) fun e w' => e = .returned (.slice (some ⟨w.heap.size + 1, 0, none⟩) (wordsB s).length (min 8 (s.size + 1))) /\ w' = (w.alloc o).alloc (.cells (Lib.cellsOf (wordsB s) (min 8 (s.size + 1))) 9) := by
 obtain ⟨⟨m, hm⟩, _⟩ := hl
 have h := Tryz.strings_SplitN s ⟨#[32]⟩ 8 m (w.alloc o) (by omega) ((World.cell?_alloc_lt _ _ _ (lt_of_cell hm)).trans hm) (by decide) (by omega) (by omega)
 refine h.mono fun e w' ⟨h1, h2⟩ => ⟨?_, h2⟩
 rw [h1]
 simp [wordsB]
theorem read_few (s : ByteArray) (w : World) (hs : s.size <= 100000) (hl : Libs w) (h7 : ¬ (wordsB s).length = 7) :
  Calls Tryz.prog 138 #[.string s] w (ReadOne s w) := by
 have HS := zh (fun o => split8 s w hs hl o)
 have h7' : (((wordsB s).length : Int) == 7) = false := by simp; omega
 have HN : Hid (∀ q, opB q = true -> s.data.toList = opL q -> false = true /\ zeroOp = q) := by
  intro q hq hsq
  have := congrArg List.length (wordsB_of s q hq hsq)
  simp [fieldsL] at this
  exact absurd this h7
 clear h7 hl
 go_enter Tryz.func138, Tryz.ntmps138
 go_wp2_with fail
 refine (uh HS _).mono ?_
 rintro e w1 ⟨rfl, hw1⟩
 subst hw1
 clear HS
 go_wp2
 refine bodyPost_ret (v := .tuple #[opV zeroOp, .bool false]) (by simp [results, Tryz.results138, go_sem, opV, opCells, zeroOp]) rfl ⟨zeroOp, false, rfl, ⟨Nat.zero_le _, Nat.zero_le _⟩, uh HN, ?_⟩
 exact ((Below.refl _ _).alloc zr _).alloc (by simp) _
theorem str5_0 (a b c d e : ByteArray) (w : World) : (Instr.index 246 (.agg #[.string a, .string b, .string c, .string d, .string e]) (.int .i64 0)).run Tryz.prog w = .ok (.string a) w := by kernel_rfl
theorem str5_1 (a b c d e : ByteArray) (w : World) : (Instr.index 246 (.agg #[.string a, .string b, .string c, .string d, .string e]) (.int .i64 1)).run Tryz.prog w = .ok (.string b) w := by kernel_rfl
theorem str5_2 (a b c d e : ByteArray) (w : World) : (Instr.index 246 (.agg #[.string a, .string b, .string c, .string d, .string e]) (.int .i64 2)).run Tryz.prog w = .ok (.string c) w := by kernel_rfl
theorem str5_3 (a b c d e : ByteArray) (w : World) : (Instr.index 246 (.agg #[.string a, .string b, .string c, .string d, .string e]) (.int .i64 3)).run Tryz.prog w = .ok (.string d) w := by kernel_rfl
theorem str5_4 (a b c d e : ByteArray) (w : World) : (Instr.index 246 (.agg #[.string a, .string b, .string c, .string d, .string e]) (.int .i64 4)).run Tryz.prog w = .ok (.string e) w := by kernel_rfl
def set7 (w : World) (B : Nat) (a b c d e f g : Value) : World :=
 ((((((w.setCell ⟨B, 0, none⟩ a).setCell ⟨B, 1, none⟩ b).setCell ⟨B, 2, none⟩ c).setCell ⟨B, 3, none⟩ d).setCell ⟨B, 4, none⟩ e).setCell ⟨B, 5, none⟩ f).setCell ⟨B, 6, none⟩ g
theorem set7_cells (w : World) (B : Nat) (a b c d e f g : Value) (h : ∀ j, j < 7 -> (w.cell? ⟨B, j, none⟩).isSome = true) :
  (set7 w B a b c d e f g).cell? ⟨B, 0, none⟩ = some a /\ (set7 w B a b c d e f g).cell? ⟨B, 1, none⟩ = some b /\ (set7 w B a b c d e f g).cell? ⟨B, 2, none⟩ = some c /\ (set7 w B a b c d e f g).cell? ⟨B, 3, none⟩ = some d /\
  (set7 w B a b c d e f g).cell? ⟨B, 4, none⟩ = some e /\ (set7 w B a b c d e f g).cell? ⟨B, 5, none⟩ = some f /\ (set7 w B a b c d e f g).cell? ⟨B, 6, none⟩ = some g := by
 have o : ∀ (x : World) (i j : Nat) (v : Value), i ≠ j -> (x.setCell ⟨B, i, none⟩ v).cell? ⟨B, j, none⟩ = x.cell? ⟨B, j, none⟩ := fun x i j v hij => zo _ _ _ _ (fun q => hij (by injection q))
 have s : ∀ (x : World) (i : Nat) (v : Value), (x.cell? ⟨B, i, none⟩).isSome = true -> (x.setCell ⟨B, i, none⟩ v).cell? ⟨B, i, none⟩ = some v := fun x i v hx => World.cell?_setCell_same' _ _ _ hx
 unfold set7
 refine ⟨?_, ?_, ?_, ?_, ?_, ?_, ?_⟩
 ·rw [o _ 6 0 _ (by decide), o _ 5 0 _ (by decide), o _ 4 0 _ (by decide), o _ 3 0 _ (by decide), o _ 2 0 _ (by decide), o _ 1 0 _ (by decide), s _ 0 _ (h 0 (by decide))]
 ·rw [o _ 6 1 _ (by decide), o _ 5 1 _ (by decide), o _ 4 1 _ (by decide), o _ 3 1 _ (by decide), o _ 2 1 _ (by decide), s _ 1 _ (by rw [o _ 0 1 _ (by decide)]; exact h 1 (by decide))]
 ·rw [o _ 6 2 _ (by decide), o _ 5 2 _ (by decide), o _ 4 2 _ (by decide), o _ 3 2 _ (by decide), s _ 2 _ (by rw [o _ 1 2 _ (by decide), o _ 0 2 _ (by decide)]; exact h 2 (by decide))]
 ·rw [o _ 6 3 _ (by decide), o _ 5 3 _ (by decide), o _ 4 3 _ (by decide), s _ 3 _ (by rw [o _ 2 3 _ (by decide), o _ 1 3 _ (by decide), o _ 0 3 _ (by decide)]; exact h 3 (by decide))]
 ·rw [o _ 6 4 _ (by decide), o _ 5 4 _ (by decide), s _ 4 _ (by rw [o _ 3 4 _ (by decide), o _ 2 4 _ (by decide), o _ 1 4 _ (by decide), o _ 0 4 _ (by decide)]; exact h 4 (by decide))]
 ·rw [o _ 6 5 _ (by decide), s _ 5 _ (by rw [o _ 4 5 _ (by decide), o _ 3 5 _ (by decide), o _ 2 5 _ (by decide), o _ 1 5 _ (by decide), o _ 0 5 _ (by decide)]; exact h 5 (by decide))]
 ·rw [s _ 6 _ (by rw [o _ 5 6 _ (by decide), o _ 4 6 _ (by decide), o _ 3 6 _ (by decide), o _ 2 6 _ (by decide), o _ 1 6 _ (by decide), o _ 0 6 _ (by decide)]; exact h 6 (by decide))]
theorem set7_below {w x : World} {B : Nat} (h : Below B w x) (a b c d e f g : Value) : Below B w (set7 x B a b c d e f g) :=
 ((((((h.setCell zr _).setCell zr _).setCell zr _).setCell zr _).setCell zr _).setCell zr _).setCell zr _
theorem RdInv.there {w : World} {ps : List ByteArray} {vs : List Int} {x : World} (h : RdInv w ps vs x) (j : Nat) (hj : j < 7) : (x.cell? ⟨w.heap.size, j, none⟩).isSome = true := by
 have h4 := h.2.2.2
 have : j < (opCells zeroOp).length := hj
 rw [(h4 j _ (List.getElem?_eq_getElem this)).1]; rfl
theorem RdInv.res {w : World} {ps : List ByteArray} {vs : List Int} {x : World} (h : RdInv w ps vs x) :
  (x.cell? ⟨w.heap.size, 0, none⟩ = some (.int .i64 0) /\ x.cell? ⟨w.heap.size, 1, none⟩ = some (.int .i64 0) /\ x.cell? ⟨w.heap.size, 2, none⟩ = some (.string ⟨#[]⟩) /\ x.cell? ⟨w.heap.size, 3, none⟩ = some (.int .i64 0) /\ x.cell? ⟨w.heap.size, 4, none⟩ = some (.int .i64 0) /\ x.cell? ⟨w.heap.size, 5, none⟩ = some (.int .i64 0) /\ x.cell? ⟨w.heap.size, 6, none⟩ = some (.string ⟨#[]⟩)) /\
  (x.frozen? ⟨w.heap.size, 0, none⟩ = false /\ x.frozen? ⟨w.heap.size, 1, none⟩ = false /\ x.frozen? ⟨w.heap.size, 2, none⟩ = false /\ x.frozen? ⟨w.heap.size, 3, none⟩ = false /\ x.frozen? ⟨w.heap.size, 4, none⟩ = false /\ x.frozen? ⟨w.heap.size, 5, none⟩ = false /\ x.frozen? ⟨w.heap.size, 6, none⟩ = false) := by
 have h4 := h.2.2.2
 exact ⟨⟨(h4 0 _ rfl).1, (h4 1 _ rfl).1, (h4 2 _ rfl).1, (h4 3 _ rfl).1, (h4 4 _ rfl).1, (h4 5 _ rfl).1, (h4 6 _ rfl).1⟩, (h4 0 _ rfl).2, (h4 1 _ rfl).2, (h4 2 _ rfl).2, (h4 3 _ rfl).2, (h4 4 _ rfl).2, (h4 5 _ rfl).2, (h4 6 _ rfl).2⟩
def ReadTo (ps : List ByteArray) (vs : List Int) : Prop := ∀ (j : Nat) (v : Int) (t : ByteArray), vs[j]? = some v -> (numWords ps)[j]? = some t -> Lib.atoiAll t.data.toList = .ok v
theorem ReadTo.snoc {ps : List ByteArray} {vs : List Int} (h : ReadTo ps vs) (v : Int) (hv : ∀ t, (numWords ps)[vs.length]? = some t -> Lib.atoiAll t.data.toList = .ok v) : ReadTo ps (vs ++ [v]) := by
 intro j u t hj ht
 rcases Nat.lt_or_ge j vs.length with k | k
 ·rw [List.getElem?_append_left k] at hj
  exact h j u t hj ht
 ·rw [List.getElem?_append_right k] at hj
  have : j = vs.length := by
   rcases Nat.lt_or_ge (j - vs.length) 1 with q | q
   ·omega
   ·rw [List.getElem?_eq_none (by simpa using q)] at hj; cases hj
  subst this
  simp at hj
  subst hj
  exact hv t ht
theorem words_are (s : ByteArray) (p0 p1 p2 p3 p4 p5 p6 : ByteArray) (hps : wordsB s = [p0, p1, p2, p3, p4, p5, p6]) (q : Fop) (hq : opB q = true) (h : s.data.toList = opL q) :
  p0.data.toList = Lib.itoa q.kind /\ p1.data.toList = Lib.itoa q.a /\ p2.data.toList = dashL q.word.data.toList /\ p3.data.toList = Lib.itoa q.b /\ p4.data.toList = Lib.itoa q.lo /\ p5.data.toList = Lib.itoa q.hi /\ p6.data.toList = dashL q.value.data.toList := by
 have := wordsB_of s q hq h
 rw [hps] at this
 simpa [fieldsL] using this
theorem bytes_eq {a b : ByteArray} (h : a.data.toList = b.data.toList) : a = b := by
 cases a; cases b
 simp only [ByteArray.mk.injEq]
 exact Array.toList_inj.1 h
theorem nums_are (q : Fop) (hq : opB q = true) : Lib.atoiAll (Lib.itoa q.kind) = .ok q.kind /\ Lib.atoiAll (Lib.itoa q.a) = .ok q.a /\ Lib.atoiAll (Lib.itoa q.b) = .ok q.b /\ Lib.atoiAll (Lib.itoa q.lo) = .ok q.lo /\ Lib.atoiAll (Lib.itoa q.hi) = .ok q.hi := by
 obtain ⟨h1, h2, h3, h4, _, _⟩ := op_parts q hq
 exact ⟨atoi_itoa _ (by omega) (by omega), atoi_itoa _ (by omega) (by omega), atoi_itoa _ (by omega) (by omega), atoi_itoa _ (by omega) (by omega), atoi_itoa _ (by omega) (by omega)⟩
theorem no_number (s : ByteArray) (p0 p1 p2 p3 p4 p5 p6 : ByteArray) (hps : wordsB s = [p0, p1, p2, p3, p4, p5, p6]) (t : ByteArray) (ht : t = p0 \/ t = p1 \/ t = p3 \/ t = p4 \/ t = p5) (hv : ∀ v, Lib.atoiAll t.data.toList ≠ .ok v) :
  ∀ q, opB q = true -> s.data.toList = opL q -> false = true /\ zeroOp = q := by
 intro q hq h
 obtain ⟨w0, w1, _, w3, w4, w5, _⟩ := words_are s p0 p1 p2 p3 p4 p5 p6 hps q hq h
 obtain ⟨n0, n1, n3, n4, n5⟩ := nums_are q hq
 exfalso
 rcases ht with rfl | rfl | rfl | rfl | rfl
 ·exact hv _ (w0 ▸ n0)
 ·exact hv _ (w1 ▸ n1)
 ·exact hv _ (w3 ▸ n3)
 ·exact hv _ (w4 ▸ n4)
 ·exact hv _ (w5 ▸ n5)
theorem all_read (s : ByteArray) (p0 p1 p2 p3 p4 p5 p6 : ByteArray) (hps : wordsB s = [p0, p1, p2, p3, p4, p5, p6]) (v0 v1 v2 v3 v4 : Int) (h : ReadTo [p0, p1, p2, p3, p4, p5, p6] [v0, v1, v2, v3, v4]) :
  ∀ q, opB q = true -> s.data.toList = opL q -> true = true /\ (⟨v0, v1, textB p2, v2, v3, v4, textB p6⟩ : Fop) = q := by
 intro q hq hs
 refine ⟨rfl, ?_⟩
 obtain ⟨w0, w1, w2, w3, w4, w5, w6⟩ := words_are s p0 p1 p2 p3 p4 p5 p6 hps q hq hs
 obtain ⟨n0, n1, n3, n4, n5⟩ := nums_are q hq
 obtain ⟨_, _, _, _, g2, g6⟩ := op_parts q hq
 have e0 := h 0 v0 p0 rfl rfl
 have e1 := h 1 v1 p1 rfl rfl
 have e2 := h 2 v2 p3 rfl rfl
 have e3 := h 3 v3 p4 rfl rfl
 have e4 := h 4 v4 p5 rfl rfl
 rw [w0, n0] at e0
 rw [w1, n1] at e1
 rw [w3, n3] at e2
 rw [w4, n4] at e3
 rw [w5, n5] at e4
 injection e0 with e0
 injection e1 with e1
 injection e2 with e2
 injection e3 with e3
 injection e4 with e4
 have t2 : textB p2 = q.word := bytes_eq (by rw [textB_data, w2, text_dash _ g2])
 have t6 : textB p6 = q.value := bytes_eq (by rw [textB_data, w6, text_dash _ g6])
 cases q
 simp_all
def KyHeld (A N S : Nat) (a0 a1 : Int) (t : ByteArray) (a2 a3 a4 : Int) (p6 : ByteArray) (x : World) : Prop :=
 (x.cell? ⟨A, 0, none⟩ = some (.int .i64 a0) /\ x.cell? ⟨A, 1, none⟩ = some (.int .i64 a1) /\ x.cell? ⟨A, 2, none⟩ = some (.string t) /\ x.cell? ⟨A, 3, none⟩ = some (.int .i64 a2)) /\
 x.cell? ⟨N, 3, none⟩ = some (.int .i64 a3) /\ x.cell? ⟨N, 4, none⟩ = some (.int .i64 a4) /\ x.cell? ⟨S, 6, none⟩ = some (.string p6)
def NHeld (w : World) (a0 a1 a2 a3 a4 : Int) (p2 p6 : ByteArray) (w0 x : World) : Prop :=
 (x.cell? ⟨w.heap.size + 1 + 1, 0, none⟩ = some (.int .i64 a0) /\ x.cell? ⟨w.heap.size + 1 + 1, 1, none⟩ = some (.int .i64 a1) /\ x.cell? ⟨w.heap.size + 1 + 1, 2, none⟩ = some (.int .i64 a2) /\ x.cell? ⟨w.heap.size + 1 + 1, 3, none⟩ = some (.int .i64 a3) /\ x.cell? ⟨w.heap.size + 1 + 1, 4, none⟩ = some (.int .i64 a4)) /\
 x.cell? ⟨w.heap.size + 1, 2, none⟩ = some (.string p2) /\ x.cell? ⟨w.heap.size + 1, 6, none⟩ = some (.string p6) /\ Below w0.heap.size w0 x
theorem NHeld.carry {w : World} {a0 a1 a2 a3 a4 : Int} {p2 p6 : ByteArray} {w0 x y : World} (h : NHeld w a0 a1 a2 a3 a4 p2 p6 w0 x) (hb : Below x.heap.size x y) : NHeld w a0 a1 a2 a3 a4 p2 p6 w0 y := by
 obtain ⟨⟨h1, h2, h3, h4, h5⟩, h6, h7, h8⟩ := h
 have t : ∀ {p : Addr} {v : Value}, x.cell? p = some v -> y.cell? p = some v := fun {p v} e => (hb.cell (p := p) (lt_of_cell e)).trans e
 exact ⟨⟨t h1, t h2, t h3, t h4, t h5⟩, t h6, t h7, h8.trans (hb.mono h8.size)⟩
theorem read_seven (s : ByteArray) (w : World) (hs : s.size <= 100000) (hl : Libs w) (p0 p1 p2 p3 p4 p5 p6 : ByteArray) (hps : wordsB s = [p0, p1, p2, p3, p4, p5, p6]) :
  Calls Tryz.prog 138 #[.string s] w (ReadOne s w) := by
 have HS := zh (fun o => split8 s w hs hl o)
 have hsm := wordsB_small s
 have HI : Hid (RdInv w [p0, p1, p2, p3, p4, p5, p6] [] (((w.alloc (.cells #[.int .i64 0, .int .i64 0, .string ⟨#[]⟩, .int .i64 0, .int .i64 0, .int .i64 0, .string ⟨#[]⟩] 188)).alloc (.cells (Lib.cellsOf (wordsB s) (min 8 (s.size + 1))) 9)).alloc (.cells #[.int .i64 0, .int .i64 0, .int .i64 0, .int .i64 0, .int .i64 0] 245))) := by
  unfold Hid RdInv
  refine ⟨(((Below.refl _ _).alloc zr _).alloc (by simp) _).alloc (by simp; omega) _, fun j p hp => ?_, fun j hj => ?_, fun j v hv => ?_⟩
  ·rw [World.cell?_alloc_lt _ _ _ (by simp)]
   have := split_cell (w.alloc (.cells #[.int .i64 0, .int .i64 0, .string ⟨#[]⟩, .int .i64 0, .int .i64 0, .int .i64 0, .string ⟨#[]⟩] 188)) (wordsB s) (min 8 (s.size + 1)) j p (by rw [hps]; exact hp)
   simpa using this
  ·rcases j with _ | _ | _ | _ | _ | j
   all_goals (first | (simp [go_sem]; done) | omega)
  ·rcases j with _ | _ | _ | _ | _ | _ | _ | j
   all_goals (simp [opCells, zeroOp] at hv)
   all_goals (subst hv; simp [go_sem])
 rw [hps] at hsm HS HI
 have HPS := zh hps
 have HM : Hid (p0.size <= 100000 /\ p1.size <= 100000 /\ p3.size <= 100000 /\ p4.size <= 100000 /\ p5.size <= 100000) := by
  have := hsm p0 (by simp); have := hsm p1 (by simp); have := hsm p3 (by simp); have := hsm p4 (by simp); have := hsm p5 (by simp)
  unfold Hid; omega
 have HZ := zh (And.intro (Nat.le_trans (textB_size p2) (hsm p2 (by simp))) (Nat.le_trans (textB_size p6) (hsm p6 (by simp))))
 have HL := zh hl
 have HR := zh (fun t ht hv => no_number s p0 p1 p2 p3 p4 p5 p6 hps t ht hv)
 have HA := zh (fun v0 v1 v2 v3 v4 => all_read s p0 p1 p2 p3 p4 p5 p6 hps v0 v1 v2 v3 v4)
 clear hps hsm hl
 simp only [List.length_cons, List.length_nil, Nat.reduceAdd] at HS
 go_enter Tryz.func138, Tryz.ntmps138
 go_wp2_with fail
 refine (uh HS _).mono ?_
 rintro e w1 ⟨rfl, hw1⟩
 subst hw1
 clear HS
 go_wp2
 generalize (((w.alloc (.cells #[.int .i64 0, .int .i64 0, .string ⟨#[]⟩, .int .i64 0, .int .i64 0, .int .i64 0, .string ⟨#[]⟩] 188)).alloc (.cells (Lib.cellsOf [p0, p1, p2, p3, p4, p5, p6] (min 8 (s.size + 1))) 9)).alloc (.cells #[.int .i64 0, .int .i64 0, .int .i64 0, .int .i64 0, .int .i64 0] 245)) = W at HI ⊢
 have c0 := (uh HI).2.1 0 p0 rfl
 have c1 := (uh HI).2.1 1 p1 rfl
 have c3 := (uh HI).2.1 3 p3 rfl
 have c4 := (uh HI).2.1 4 p4 rfl
 have c5 := (uh HI).2.1 5 p5 rfl
 go_quiet (fail)
 have HI2 := zh ((uh HI).carry (⟨rfl, rfl, rfl, Nat.le_refl _, fun _ _ => rfl⟩ : Below W.heap.size W (W.drewN nq)))
 change Exit.then _ _ _ _ (W.drewN nq)
 generalize W.drewN nq = X at HI2 ⊢
 clear c0 c1 c3 c4 c5 HI
 go_wp2
 go_loopw [33] (fun i x => ∃ vs : List Int, vs.length <= 5 /\ i = .int .i64 vs.length /\ ReadTo [p0, p1, p2, p3, p4, p5, p6] vs /\ RdInv w [p0, p1, p2, p3, p4, p5, p6] vs x) (fun i _ => 5 - (intOf i).toNat)
 case atStart => exact ⟨[], by simp, rfl, fun j v t h => by simp at h, uh HI2⟩
 case round =>
  obtain ⟨vs, hk, rfl, hto, hinv⟩ := hrel
  have HT := zh hto
  have HN := zh hinv
  clear hto hinv HI2
  rcases vs with _ | ⟨a0, _ | ⟨a1, _ | ⟨a2, _ | ⟨a3, _ | ⟨a4, _ | ⟨a5, vs⟩⟩⟩⟩⟩⟩
  ·have ix := fun W => str5_0 p0 p1 p3 p4 p5 W
   by_cases hv : ∃ v, Lib.atoiAll p0.data.toList = .ok v
   ·obtain ⟨v, hv⟩ := hv
    have HC := zh (atoi_ok p0 v wr (uh HM).1 hv)
    have HT2 := zh ((uh HT).snoc v (fun t ht => by simp [numWords] at ht; subst ht; exact hv))
    clear hv
    go_wp2_with fail
    refine (uh HC).mono ?_
    rintro e w2 ⟨rfl, b2⟩
    have h2 := (uh HN).carry b2
    have d1 := (h2.2.2.1 0 (by omega)).1
    have f1 := (h2.2.2.1 0 (by omega)).2
    have H3 := zh (h2.step v)
    clear h2 b2 HC
    go_wp2
    exact ⟨⟨[] ++ [v], by simp, rfl, uh HT2, uh H3⟩, by simp [intOf]⟩
   ·have HC := zh (atoi_bad p0 wr (uh HM).1 (fun v h => hv ⟨v, h⟩) ((uh HL).carry (uh HN).1))
    have HQ := zh (uh HR p0 (Or.inl rfl) (fun v h => hv ⟨v, h⟩))
    clear hv
    go_wp2_with fail
    refine (uh HC).mono ?_
    rintro e w2 ⟨v, N, rfl, b2⟩
    have h2 := (uh HN).carry b2
    obtain ⟨⟨r0, r1, r2, r3, r4, r5, r6⟩, g0, g1, g2, g3, g4, g5, g6⟩ := h2.res
    have q := set7_cells w2 w.heap.size (.int .i64 0) (.int .i64 0) (.string ⟨#[]⟩) (.int .i64 0) (.int .i64 0) (.int .i64 0) (.string ⟨#[]⟩) (fun j hj => h2.there j hj)
    have HB3 := zh (set7_below h2.1 (.int .i64 0) (.int .i64 0) (.string ⟨#[]⟩) (.int .i64 0) (.int .i64 0) (.int .i64 0) (.string ⟨#[]⟩))
    clear h2 b2 HC
    unfold set7 at q HB3
    obtain ⟨q0, q1, q2, q3, q4, q5, q6⟩ := q
    have Q := zh (And.intro q0 (And.intro q1 (And.intro q2 (And.intro q3 (And.intro q4 (And.intro q5 q6))))))
    clear q0 q1 q2 q3 q4 q5 q6
    go_wp2
    obtain ⟨q0, q1, q2, q3, q4, q5, q6⟩ := uh Q
    exact bodyPost_ret (v := .tuple #[opV zeroOp, .bool false]) (by simp [results, Tryz.results138, go_sem, opV, opCells, zeroOp, q0, q1, q2, q3, q4, q5, q6]) rfl ⟨zeroOp, false, rfl, ⟨Nat.zero_le _, Nat.zero_le _⟩, uh HQ, uh HB3⟩
  ·have ix := fun W => str5_1 p0 p1 p3 p4 p5 W
   by_cases hv : ∃ v, Lib.atoiAll p1.data.toList = .ok v
   ·obtain ⟨v, hv⟩ := hv
    have HC := zh (atoi_ok p1 v wr (uh HM).2.1 hv)
    have HT2 := zh ((uh HT).snoc v (fun t ht => by simp [numWords] at ht; subst ht; exact hv))
    clear hv
    go_wp2_with fail
    refine (uh HC).mono ?_
    rintro e w2 ⟨rfl, b2⟩
    have h2 := (uh HN).carry b2
    have d1 := (h2.2.2.1 1 (by omega)).1
    have f1 := (h2.2.2.1 1 (by omega)).2
    have H3 := zh (h2.step v)
    clear h2 b2 HC
    go_wp2
    exact ⟨⟨[a0] ++ [v], by simp, rfl, uh HT2, uh H3⟩, by simp [intOf]⟩
   ·have HC := zh (atoi_bad p1 wr (uh HM).2.1 (fun v h => hv ⟨v, h⟩) ((uh HL).carry (uh HN).1))
    have HQ := zh (uh HR p1 (Or.inr (Or.inl rfl)) (fun v h => hv ⟨v, h⟩))
    clear hv
    go_wp2_with fail
    refine (uh HC).mono ?_
    rintro e w2 ⟨v, N, rfl, b2⟩
    have h2 := (uh HN).carry b2
    obtain ⟨⟨r0, r1, r2, r3, r4, r5, r6⟩, g0, g1, g2, g3, g4, g5, g6⟩ := h2.res
    have q := set7_cells w2 w.heap.size (.int .i64 0) (.int .i64 0) (.string ⟨#[]⟩) (.int .i64 0) (.int .i64 0) (.int .i64 0) (.string ⟨#[]⟩) (fun j hj => h2.there j hj)
    have HB3 := zh (set7_below h2.1 (.int .i64 0) (.int .i64 0) (.string ⟨#[]⟩) (.int .i64 0) (.int .i64 0) (.int .i64 0) (.string ⟨#[]⟩))
    clear h2 b2 HC
    unfold set7 at q HB3
    obtain ⟨q0, q1, q2, q3, q4, q5, q6⟩ := q
    have Q := zh (And.intro q0 (And.intro q1 (And.intro q2 (And.intro q3 (And.intro q4 (And.intro q5 q6))))))
    clear q0 q1 q2 q3 q4 q5 q6
    go_wp2
    obtain ⟨q0, q1, q2, q3, q4, q5, q6⟩ := uh Q
    exact bodyPost_ret (v := .tuple #[opV zeroOp, .bool false]) (by simp [results, Tryz.results138, go_sem, opV, opCells, zeroOp, q0, q1, q2, q3, q4, q5, q6]) rfl ⟨zeroOp, false, rfl, ⟨Nat.zero_le _, Nat.zero_le _⟩, uh HQ, uh HB3⟩
  ·have ix := fun W => str5_2 p0 p1 p3 p4 p5 W
   by_cases hv : ∃ v, Lib.atoiAll p3.data.toList = .ok v
   ·obtain ⟨v, hv⟩ := hv
    have HC := zh (atoi_ok p3 v wr (uh HM).2.2.1 hv)
    have HT2 := zh ((uh HT).snoc v (fun t ht => by simp [numWords] at ht; subst ht; exact hv))
    clear hv
    go_wp2_with fail
    refine (uh HC).mono ?_
    rintro e w2 ⟨rfl, b2⟩
    have h2 := (uh HN).carry b2
    have d1 := (h2.2.2.1 2 (by omega)).1
    have f1 := (h2.2.2.1 2 (by omega)).2
    have H3 := zh (h2.step v)
    clear h2 b2 HC
    go_wp2
    exact ⟨⟨[a0, a1] ++ [v], by simp, rfl, uh HT2, uh H3⟩, by simp [intOf]⟩
   ·have HC := zh (atoi_bad p3 wr (uh HM).2.2.1 (fun v h => hv ⟨v, h⟩) ((uh HL).carry (uh HN).1))
    have HQ := zh (uh HR p3 (Or.inr (Or.inr (Or.inl rfl))) (fun v h => hv ⟨v, h⟩))
    clear hv
    go_wp2_with fail
    refine (uh HC).mono ?_
    rintro e w2 ⟨v, N, rfl, b2⟩
    have h2 := (uh HN).carry b2
    obtain ⟨⟨r0, r1, r2, r3, r4, r5, r6⟩, g0, g1, g2, g3, g4, g5, g6⟩ := h2.res
    have q := set7_cells w2 w.heap.size (.int .i64 0) (.int .i64 0) (.string ⟨#[]⟩) (.int .i64 0) (.int .i64 0) (.int .i64 0) (.string ⟨#[]⟩) (fun j hj => h2.there j hj)
    have HB3 := zh (set7_below h2.1 (.int .i64 0) (.int .i64 0) (.string ⟨#[]⟩) (.int .i64 0) (.int .i64 0) (.int .i64 0) (.string ⟨#[]⟩))
    clear h2 b2 HC
    unfold set7 at q HB3
    obtain ⟨q0, q1, q2, q3, q4, q5, q6⟩ := q
    have Q := zh (And.intro q0 (And.intro q1 (And.intro q2 (And.intro q3 (And.intro q4 (And.intro q5 q6))))))
    clear q0 q1 q2 q3 q4 q5 q6
    go_wp2
    obtain ⟨q0, q1, q2, q3, q4, q5, q6⟩ := uh Q
    exact bodyPost_ret (v := .tuple #[opV zeroOp, .bool false]) (by simp [results, Tryz.results138, go_sem, opV, opCells, zeroOp, q0, q1, q2, q3, q4, q5, q6]) rfl ⟨zeroOp, false, rfl, ⟨Nat.zero_le _, Nat.zero_le _⟩, uh HQ, uh HB3⟩
  ·have ix := fun W => str5_3 p0 p1 p3 p4 p5 W
   by_cases hv : ∃ v, Lib.atoiAll p4.data.toList = .ok v
   ·obtain ⟨v, hv⟩ := hv
    have HC := zh (atoi_ok p4 v wr (uh HM).2.2.2.1 hv)
    have HT2 := zh ((uh HT).snoc v (fun t ht => by simp [numWords] at ht; subst ht; exact hv))
    clear hv
    go_wp2_with fail
    refine (uh HC).mono ?_
    rintro e w2 ⟨rfl, b2⟩
    have h2 := (uh HN).carry b2
    have d1 := (h2.2.2.1 3 (by omega)).1
    have f1 := (h2.2.2.1 3 (by omega)).2
    have H3 := zh (h2.step v)
    clear h2 b2 HC
    go_wp2
    exact ⟨⟨[a0, a1, a2] ++ [v], by simp, rfl, uh HT2, uh H3⟩, by simp [intOf]⟩
   ·have HC := zh (atoi_bad p4 wr (uh HM).2.2.2.1 (fun v h => hv ⟨v, h⟩) ((uh HL).carry (uh HN).1))
    have HQ := zh (uh HR p4 (Or.inr (Or.inr (Or.inr (Or.inl rfl)))) (fun v h => hv ⟨v, h⟩))
    clear hv
    go_wp2_with fail
    refine (uh HC).mono ?_
    rintro e w2 ⟨v, N, rfl, b2⟩
    have h2 := (uh HN).carry b2
    obtain ⟨⟨r0, r1, r2, r3, r4, r5, r6⟩, g0, g1, g2, g3, g4, g5, g6⟩ := h2.res
    have q := set7_cells w2 w.heap.size (.int .i64 0) (.int .i64 0) (.string ⟨#[]⟩) (.int .i64 0) (.int .i64 0) (.int .i64 0) (.string ⟨#[]⟩) (fun j hj => h2.there j hj)
    have HB3 := zh (set7_below h2.1 (.int .i64 0) (.int .i64 0) (.string ⟨#[]⟩) (.int .i64 0) (.int .i64 0) (.int .i64 0) (.string ⟨#[]⟩))
    clear h2 b2 HC
    unfold set7 at q HB3
    obtain ⟨q0, q1, q2, q3, q4, q5, q6⟩ := q
    have Q := zh (And.intro q0 (And.intro q1 (And.intro q2 (And.intro q3 (And.intro q4 (And.intro q5 q6))))))
    clear q0 q1 q2 q3 q4 q5 q6
    go_wp2
    obtain ⟨q0, q1, q2, q3, q4, q5, q6⟩ := uh Q
    exact bodyPost_ret (v := .tuple #[opV zeroOp, .bool false]) (by simp [results, Tryz.results138, go_sem, opV, opCells, zeroOp, q0, q1, q2, q3, q4, q5, q6]) rfl ⟨zeroOp, false, rfl, ⟨Nat.zero_le _, Nat.zero_le _⟩, uh HQ, uh HB3⟩
  ·have ix := fun W => str5_4 p0 p1 p3 p4 p5 W
   by_cases hv : ∃ v, Lib.atoiAll p5.data.toList = .ok v
   ·obtain ⟨v, hv⟩ := hv
    have HC := zh (atoi_ok p5 v wr (uh HM).2.2.2.2 hv)
    have HT2 := zh ((uh HT).snoc v (fun t ht => by simp [numWords] at ht; subst ht; exact hv))
    clear hv
    go_wp2_with fail
    refine (uh HC).mono ?_
    rintro e w2 ⟨rfl, b2⟩
    have h2 := (uh HN).carry b2
    have d1 := (h2.2.2.1 4 (by omega)).1
    have f1 := (h2.2.2.1 4 (by omega)).2
    have H3 := zh (h2.step v)
    clear h2 b2 HC
    go_wp2
    exact ⟨⟨[a0, a1, a2, a3] ++ [v], by simp, rfl, uh HT2, uh H3⟩, by simp [intOf]⟩
   ·have HC := zh (atoi_bad p5 wr (uh HM).2.2.2.2 (fun v h => hv ⟨v, h⟩) ((uh HL).carry (uh HN).1))
    have HQ := zh (uh HR p5 (Or.inr (Or.inr (Or.inr (Or.inr rfl)))) (fun v h => hv ⟨v, h⟩))
    clear hv
    go_wp2_with fail
    refine (uh HC).mono ?_
    rintro e w2 ⟨v, N, rfl, b2⟩
    have h2 := (uh HN).carry b2
    obtain ⟨⟨r0, r1, r2, r3, r4, r5, r6⟩, g0, g1, g2, g3, g4, g5, g6⟩ := h2.res
    have q := set7_cells w2 w.heap.size (.int .i64 0) (.int .i64 0) (.string ⟨#[]⟩) (.int .i64 0) (.int .i64 0) (.int .i64 0) (.string ⟨#[]⟩) (fun j hj => h2.there j hj)
    have HB3 := zh (set7_below h2.1 (.int .i64 0) (.int .i64 0) (.string ⟨#[]⟩) (.int .i64 0) (.int .i64 0) (.int .i64 0) (.string ⟨#[]⟩))
    clear h2 b2 HC
    unfold set7 at q HB3
    obtain ⟨q0, q1, q2, q3, q4, q5, q6⟩ := q
    have Q := zh (And.intro q0 (And.intro q1 (And.intro q2 (And.intro q3 (And.intro q4 (And.intro q5 q6))))))
    clear q0 q1 q2 q3 q4 q5 q6
    go_wp2
    obtain ⟨q0, q1, q2, q3, q4, q5, q6⟩ := uh Q
    exact bodyPost_ret (v := .tuple #[opV zeroOp, .bool false]) (by simp [results, Tryz.results138, go_sem, opV, opCells, zeroOp, q0, q1, q2, q3, q4, q5, q6]) rfl ⟨zeroOp, false, rfl, ⟨Nat.zero_le _, Nat.zero_le _⟩, uh HQ, uh HB3⟩
  ·have HTo := zh (uh HA a0 a1 a2 a3 a4 (uh HT))
   have HH : Hid (NHeld w a0 a1 a2 a3 a4 p2 p6 wr wr) := by
    have h2 := (uh HN).2.1
    have h3 := (uh HN).2.2.1
    exact ⟨⟨(h3 0 (by omega)).1, (h3 1 (by omega)).1, (h3 2 (by omega)).1, (h3 3 (by omega)).1, (h3 4 (by omega)).1⟩, h2 2 p2 rfl, h2 6 p6 rfl, Below.refl _ _⟩
   clear HT HA HR HM HL HPS hk
   go_wp2
   go_region_held3 (fun x => (x.cell? ⟨w.heap.size + 1 + 1, 0, none⟩ = some (.int .i64 a0) /\ x.cell? ⟨w.heap.size + 1 + 1, 1, none⟩ = some (.int .i64 a1) /\ x.cell? ⟨w.heap.size + 1 + 1, 2, none⟩ = some (.int .i64 a2) /\ x.cell? ⟨w.heap.size + 1 + 1, 3, none⟩ = some (.int .i64 a3) /\ x.cell? ⟨w.heap.size + 1 + 1, 4, none⟩ = some (.int .i64 a4)) /\
     x.cell? ⟨w.heap.size + 1, 2, none⟩ = some (.string p2) /\ x.cell? ⟨w.heap.size + 1, 6, none⟩ = some (.string p6) /\ Below wr.heap.size wr x)
    (first | exact NHeld.carry (uh HH) (below_drew _) | (refine NHeld.carry (by assumption) ?_; exact below_box _ _) | assumption | exact NHeld.carry (uh HH) (below_alloc_drew _ _))
    (first
     | (go_at_call 183; refine (fact_text _ _).mono ?_; rintro e w3 ⟨rfl, rfl⟩))
   all_goals
    rename_i hh
    clear hh
    have hYe : ∃ Y, Y = (wr.alloc (.cells #[.int .i64 a0, .int .i64 a1, .string (textB p2), .int .i64 a2] 73)).drew := ⟨_, rfl⟩
    obtain ⟨Y, hY⟩ := hYe
    rw [<- hY]
    have b4 : Below wr.heap.size wr Y := by rw [hY]; exact below_alloc_drew _ _
    have H4 := (uh HN).carry b4
    have hk0 : Y.cell? ⟨wr.heap.size, 0, none⟩ = some (.int .i64 a0) := by rw [hY]; exact (World.cell?_alloc_at _ _ _ _ (by simp)).trans rfl
    have hk1 : Y.cell? ⟨wr.heap.size, 1, none⟩ = some (.int .i64 a1) := by rw [hY]; exact (World.cell?_alloc_at _ _ _ _ (by simp)).trans rfl
    have hk2 : Y.cell? ⟨wr.heap.size, 2, none⟩ = some (.string (textB p2)) := by rw [hY]; exact (World.cell?_alloc_at _ _ _ _ (by simp)).trans rfl
    have hk3 : Y.cell? ⟨wr.heap.size, 3, none⟩ = some (.int .i64 a2) := by rw [hY]; exact (World.cell?_alloc_at _ _ _ _ (by simp)).trans rfl
    have HKH : Hid (KyHeld wr.heap.size (w.heap.size + 1 + 1) (w.heap.size + 1) a0 a1 (textB p2) a2 a3 a4 p6 Y) :=
     ⟨⟨hk0, hk1, hk2, hk3⟩, (H4.2.2.1 3 (by omega)).1, (H4.2.2.1 4 (by omega)).1, H4.2.1 6 p6 rfl⟩
    obtain ⟨⟨r0, r1, r2, r3, r4, r5, r6⟩, g0, g1, g2, g3, g4, g5, g6⟩ := H4.res
    have q := set7_cells Y w.heap.size (.int .i64 a0) (.int .i64 a1) (.string (textB p2)) (.int .i64 a2) (.int .i64 a3) (.int .i64 a4) (.string (textB p6)) (fun j hj => H4.there j hj)
    have HB3 := zh (set7_below H4.1 (.int .i64 a0) (.int .i64 a1) (.string (textB p2)) (.int .i64 a2) (.int .i64 a3) (.int .i64 a4) (.string (textB p6)))
    have hlt1 : w.heap.size ≠ wr.heap.size := by
     have := lt_of_cell ((uh HN).2.2.1 0 (by omega)).1
     simp at this
     omega
    clear hY hk0 hk1 hk2 hk3 H4 HH b4 HN
    have Q := zh q
    clear q
    obtain ⟨⟨k0, k1, k2, k3⟩, k4, k5, k6⟩ := uh HKH
    clear HKH
    have hne2 : w.heap.size ≠ w.heap.size + 1 + 1 := by omega
    go_wp2
    go_region_held3 (fun x => (x.cell? ⟨wr.heap.size, 0, none⟩ = some (.int .i64 a0) /\ x.cell? ⟨wr.heap.size, 1, none⟩ = some (.int .i64 a1) /\ x.cell? ⟨wr.heap.size, 2, none⟩ = some (.string (textB p2)) /\ x.cell? ⟨wr.heap.size, 3, none⟩ = some (.int .i64 a2)) /\
      x.cell? ⟨w.heap.size + 1 + 1, 3, none⟩ = some (.int .i64 a3) /\ x.cell? ⟨w.heap.size + 1 + 1, 4, none⟩ = some (.int .i64 a4) /\ x.cell? ⟨w.heap.size + 1, 6, none⟩ = some (.string p6))
     (go_keep)
     (first
      | (go_at_call 183; refine (fact_text _ _).mono ?_; rintro e w3 ⟨rfl, rfl⟩))
    all_goals
     rename_i hh
     clear hh r0 r1 r2 r3 r4 r5 r6 g0 g1 g2 g3 g4 g5 g6 k0 k1 k2 k3 k4 k5 k6 hne2 hlt1
     change Exit.then _ _ _ _ (set7 Y w.heap.size (.int .i64 a0) (.int .i64 a1) (.string (textB p2)) (.int .i64 a2) (.int .i64 a3) (.int .i64 a4) (.string (textB p6))).drew
     generalize set7 Y w.heap.size (.int .i64 a0) (.int .i64 a1) (.string (textB p2)) (.int .i64 a2) (.int .i64 a3) (.int .i64 a4) (.string (textB p6)) = Z at Q HB3 ⊢
     obtain ⟨q0, q1, q2, q3, q4, q5, q6⟩ := uh Q
     clear Q
     go_wp2
     exact bodyPost_ret (v := .tuple #[opV ⟨a0, a1, textB p2, a2, a3, a4, textB p6⟩, .bool true]) (by simp [results, Tryz.results138, go_sem, opV, opCells, q0, q1, q2, q3, q4, q5, q6]) rfl ⟨⟨a0, a1, textB p2, a2, a3, a4, textB p6⟩, true, rfl, uh HZ, fun q hq hsq => ⟨rfl, (uh HTo q hq hsq).2⟩, (uh HB3).trans ⟨rfl, rfl, rfl, Nat.le_refl _, fun _ _ => rfl⟩⟩
  ·simp at hk
theorem fact_read (s : ByteArray) (w : World) (hs : s.size <= 100000) (hl : Libs w) : Calls Tryz.prog 138 #[.string s] w (ReadOne s w) := by
 by_cases h7 : (wordsB s).length = 7
 ·obtain ⟨p0, p1, p2, p3, p4, p5, p6, hps⟩ := seven _ h7
  exact read_seven s w hs hl p0 p1 p2 p3 p4 p5 p6 hps
 ·exact read_few s w hs hl h7
end Go.Proofs.YtbmkmfoaoganeaaGreatDoor
