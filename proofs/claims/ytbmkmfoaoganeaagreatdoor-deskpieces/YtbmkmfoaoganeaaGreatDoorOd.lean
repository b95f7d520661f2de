/- Texts of one proof, one behind the other. -/
import Derived.Test.YtbmkmfoaoganeaaGreatDoorNg
import Derived.Test.YtbmkmfoaoganeaaGreatDoorNd
import Derived.Test.YtbmkmfoaoganeaaGreatDoorOa
import Derived.Test.YtbmkmfoaoganeaaGreatDoorShelfK
import Derived.Test.YtbmkmfoaoganeaaGreatDoorOc
import Derived.Test.YtbmkmfoaoganeaaGreatDoorOb
import Derived.Deep.RegionHeld3
import Derived.Lib.Small
import Derived.Sort.Grow
import Derived.Deep.Draws
import Derived.Deep.DeepCutAuto
set_option maxRecDepth 100000
set_option maxHeartbeats 16000000
namespace Go.Proofs.YtbmkmfoaoganeaaGreatDoor
open Go.RowKit
theorem nan_string (s : ByteArray) (w : World) : Calls Tryz.prog 205 #[.string s] w fun e w' => e = .returned (.bool false) /\ w' = w := by
 go_enter Tryz.func205, Tryz.ntmps205
 go_wp2
 go_ret
 exact ⟨ret_bool (by simp), rfl⟩
def compareS (x y : ByteArray) : Int := if Op.bytesLess x.toList y.toList then -1 else if x.toList == y.toList then 0 else 1
theorem compare_string (x y : ByteArray) (w : World) : Calls Tryz.prog 151 #[.string x, .string y] w fun e w' => e = .returned (.int .i64 (compareS x y)) /\ w' = w := by
 have HN := zh (fun n W => nan_string n W)
 cases h1 : Op.bytesLess x.toList y.toList
 ·cases h2 : (x.toList == y.toList)
  ·have e : compareS x y = 1 := by simp only [compareS, h1, h2]; rfl
   rw [e]
   clear e
   go_enter Tryz.func151, Tryz.ntmps151
   go_wp2_with (go_at_call 205; refine (uh HN _ _).mono ?_; rintro e w' ⟨rfl, rfl⟩)
   go_ret
   exact ⟨rfl, rfl⟩
  ·have e : compareS x y = 0 := by simp only [compareS, h1, h2]; rfl
   rw [e]
   clear e
   go_enter Tryz.func151, Tryz.ntmps151
   go_wp2_with (go_at_call 205; refine (uh HN _ _).mono ?_; rintro e w' ⟨rfl, rfl⟩)
   go_ret
   exact ⟨rfl, rfl⟩
 ·have e : compareS x y = -1 := by simp only [compareS, h1]; rfl
  rw [e]
  clear e
  go_enter Tryz.func151, Tryz.ntmps151
  go_wp2_with (go_at_call 205; refine (uh HN _ _).mono ?_; rintro e w' ⟨rfl, rfl⟩)
  go_ret
  exact ⟨rfl, rfl⟩
def keyCmp (k a : Int) (s : ByteArray) (b k' a' : Int) (s' : ByteArray) (b' : Int) : Int :=
 orL [Lib.compareInt k k', Lib.compareInt a a', compareS s s', Lib.compareInt b b']
theorem bl_irrefl : ∀ (x : List UInt8), Op.bytesLess x x = false
 | [] => rfl
 | a :: x => by simp [Op.bytesLess, bl_irrefl x]
theorem bl_asymm : ∀ (x y : List UInt8), Op.bytesLess x y = true -> Op.bytesLess y x = false
 | _, [], h => by simp [Op.bytesLess] at h
 | [], _ :: _, _ => by simp [Op.bytesLess]
 | a :: x, b :: y, h => by
   simp only [Op.bytesLess, Bool.or_eq_true, Bool.and_eq_true, decide_eq_true_eq, beq_iff_eq] at h
   simp only [Op.bytesLess, Bool.or_eq_false_iff, Bool.and_eq_false_iff, decide_eq_false_iff_not, beq_eq_false_iff_ne]
   rcases h with h | ⟨rfl, h⟩
   ·rw [UInt8.lt_iff_toNat_lt] at h
    exact ⟨by rw [UInt8.lt_iff_toNat_lt]; omega, .inl (fun e => by rw [e] at h; omega)⟩
   ·exact ⟨by rw [UInt8.lt_iff_toNat_lt]; omega, .inr (bl_asymm x y h)⟩
theorem bl_total : ∀ (x y : List UInt8), Op.bytesLess x y = false -> Op.bytesLess y x = false -> x = y
 | [], [], _, _ => rfl
 | [], _ :: _, h, _ => by simp [Op.bytesLess] at h
 | _ :: _, [], _, h => by simp [Op.bytesLess] at h
 | a :: x, b :: y, h, k => by
   simp only [Op.bytesLess, Bool.or_eq_false_iff, Bool.and_eq_false_iff, decide_eq_false_iff_not, beq_eq_false_iff_ne, UInt8.lt_iff_toNat_lt] at h k
   have e : a = b := UInt8.toNat_inj.1 (by omega)
   subst e
   rw [bl_total x y (h.2.resolve_left (fun q => q rfl)) (k.2.resolve_left (fun q => q rfl))]
theorem bl_trans : ∀ (x y z : List UInt8), Op.bytesLess x y = true -> Op.bytesLess y z = true -> Op.bytesLess x z = true
 | _, [], _, h, _ => by simp [Op.bytesLess] at h
 | _, _ :: _, [], _, h => by simp [Op.bytesLess] at h
 | [], _ :: _, _ :: _, _, _ => by simp [Op.bytesLess]
 | a :: x, b :: y, c :: z, h, k => by
   simp only [Op.bytesLess, Bool.or_eq_true, Bool.and_eq_true, decide_eq_true_eq, beq_iff_eq, UInt8.lt_iff_toNat_lt] at h k ⊢
   rcases h with h | ⟨rfl, h⟩
   ·rcases k with k | ⟨rfl, k⟩
    ·left; omega
    ·left; exact h
   ·rcases k with k | ⟨rfl, k⟩
    ·left; exact k
    ·exact .inr ⟨rfl, bl_trans x y z h k⟩
def Tri (p q r : Int) : Prop := (p <= 0 -> q <= 0 -> r <= 0 /\ (r = 0 -> p = 0 /\ q = 0)) /\ (p = 0 -> q = 0 -> r = 0)
theorem int_turn (x y : Int) : Lib.compareInt x y = - Lib.compareInt y x := by unfold Lib.compareInt; split <;> split <;> (try split) <;> omega
theorem int_zero (x y : Int) : Lib.compareInt x y = 0 ↔ x = y := by unfold Lib.compareInt; split <;> (try split) <;> omega
theorem int_tri (x y z : Int) : Tri (Lib.compareInt x y) (Lib.compareInt y z) (Lib.compareInt x z) := by
 unfold Lib.compareInt Tri
 split <;> split <;> split <;> (try split) <;> (try split) <;> (try split) <;> omega
theorem str_cases (x y : ByteArray) : (Op.bytesLess x.toList y.toList = true /\ Op.bytesLess y.toList x.toList = false /\ x.toList ≠ y.toList /\ compareS x y = -1) \/ (x.toList = y.toList /\ compareS x y = 0) \/ (Op.bytesLess y.toList x.toList = true /\ Op.bytesLess x.toList y.toList = false /\ x.toList ≠ y.toList /\ compareS x y = 1) := by
 unfold compareS
 cases h : Op.bytesLess x.toList y.toList with
 | true =>
  have hne : x.toList ≠ y.toList := fun e => by rw [e, bl_irrefl] at h; cases h
  exact .inl ⟨rfl, bl_asymm _ _ h, hne, by simp⟩
 | false =>
  cases k : Op.bytesLess y.toList x.toList with
  | true =>
   have hne : x.toList ≠ y.toList := fun e => by rw [e, bl_irrefl] at k; cases k
   exact .inr (.inr ⟨rfl, rfl, hne, by simp [hne]⟩)
  | false => exact .inr (.inl ⟨bl_total _ _ h k, by simp [bl_total _ _ h k]⟩)
theorem str_turn (x y : ByteArray) : compareS x y = - compareS y x := by
 rcases str_cases x y with ⟨a, b, c, d⟩ | ⟨a, d⟩ | ⟨a, b, c, d⟩ <;> rcases str_cases y x with ⟨a', b', c', d'⟩ | ⟨a', d'⟩ | ⟨a', b', c', d'⟩ <;> rw [d, d'] <;> first | rfl | (exfalso; simp_all)
theorem str_zero (x y : ByteArray) : compareS x y = 0 ↔ x.toList = y.toList := by
 rcases str_cases x y with ⟨_, _, c, d⟩ | ⟨a, d⟩ | ⟨_, _, c, d⟩ <;> rw [d] <;> simp [*]
theorem str_tri (x y z : ByteArray) : Tri (compareS x y) (compareS y z) (compareS x z) := by
 rcases str_cases x y with ⟨a, b, c, d⟩ | ⟨a, d⟩ | ⟨a, b, c, d⟩ <;> rcases str_cases y z with ⟨a', b', c', d'⟩ | ⟨a', d'⟩ | ⟨a', b', c', d'⟩
 all_goals (unfold Tri; rw [d, d'])
 ·have t := bl_trans _ _ _ a a'
  rcases str_cases x z with ⟨_, _, _, e⟩ | ⟨u, e⟩ | ⟨u, v, _, e⟩
  ·rw [e]; decide
  ·rw [u, bl_irrefl] at t; cases t
  ·rw [v] at t; cases t
 ·rw [a'] at a
  rcases str_cases x z with ⟨_, _, _, e⟩ | ⟨u, e⟩ | ⟨u, v, _, e⟩
  ·rw [e]; decide
  ·rw [u, bl_irrefl] at a; cases a
  ·rw [v] at a; cases a
 ·exact ⟨fun _ h => absurd h (by decide), fun h => absurd h (by decide)⟩
 ·rw [<- a] at a'
  rcases str_cases x z with ⟨_, _, _, e⟩ | ⟨u, e⟩ | ⟨u, v, _, e⟩
  ·rw [e]; decide
  ·rw [u, bl_irrefl] at a'; cases a'
  ·rw [v] at a'; cases a'
 ·have e : compareS x z = 0 := (str_zero x z).2 (a.trans a')
  rw [e]; decide
 all_goals exact ⟨fun h h' => absurd (And.intro h h') (by decide), fun h h' => absurd (And.intro h h') (by decide)⟩
theorem Tri.or {p q r P Q R : Int} (h : Tri p q r) (H : Tri P Q R) : Tri (if p = 0 then P else p) (if q = 0 then Q else q) (if r = 0 then R else r) := by
 unfold Tri at *
 split <;> split <;> split <;> omega
theorem orL4 (p q r s : Int) : orL [p, q, r, s] = if p = 0 then (if q = 0 then (if r = 0 then (if s = 0 then 0 else s) else r) else q) else p := rfl
theorem key_turn (k a : Int) (s : ByteArray) (b k' a' : Int) (s' : ByteArray) (b' : Int) : keyCmp k a s b k' a' s' b' = - keyCmp k' a' s' b' k a s b := by
 unfold keyCmp
 rw [orL4, orL4, int_turn k k', int_turn a a', str_turn s s', int_turn b b']
 split <;> split <;> (try split) <;> (try split) <;> (try split) <;> (try split) <;> (try split) <;> (try split) <;> omega
theorem key_zero (k a : Int) (s : ByteArray) (b k' a' : Int) (s' : ByteArray) (b' : Int) : keyCmp k a s b k' a' s' b' = 0 ↔ k = k' /\ a = a' /\ s.toList = s'.toList /\ b = b' := by
 unfold keyCmp
 rw [orL4, <- int_zero k k', <- int_zero a a', <- str_zero s s', <- int_zero b b']
 split <;> (try split) <;> (try split) <;> (try split) <;> omega
theorem key_tri (k a : Int) (s : ByteArray) (b k' a' : Int) (s' : ByteArray) (b' k'' a'' : Int) (s'' : ByteArray) (b'' : Int) : Tri (keyCmp k a s b k' a' s' b') (keyCmp k' a' s' b' k'' a'' s'' b'') (keyCmp k a s b k'' a'' s'' b'') := by
 unfold keyCmp
 rw [orL4, orL4, orL4]
 exact (int_tri k k' k'').or ((int_tri a a' a'').or ((str_tri s s' s'').or ((int_tri b b' b'').or (by unfold Tri; decide))))
end Go.Proofs.YtbmkmfoaoganeaaGreatDoor

namespace Go.Proofs.YtbmkmfoaoganeaaGreatDoor
open Go.RowKit Go.Sort
def Gd (w x : World) : Prop := ∃ q os, x = grow (w.drewN q) os
theorem Gd.refl (w : World) : Gd w w := ⟨0, #[], by unfold grow World.drewN; simp⟩
theorem Gd.alloc {w x : World} (h : Gd w x) (o : Obj) : Gd w (x.alloc o) := by
 obtain ⟨q, os, rfl⟩ := h
 exact ⟨q, os ++ #[o], by rw [alloc_eq_grow, grow_grow]⟩
theorem Gd.drew {w x : World} (h : Gd w x) : Gd w x.drew := by
 obtain ⟨q, os, rfl⟩ := h
 exact ⟨q + 1, os, rfl⟩
theorem Gd.below {w x : World} (h : Gd w x) : Below w.heap.size w x := by
 obtain ⟨q, os, rfl⟩ := h
 refine ⟨rfl, rfl, rfl, by simp [grow, World.drewN], fun k hk => ?_⟩
 show (w.heap ++ os)[k]? = w.heap[k]?
 rw [Array.getElem?_append_left hk]
theorem Gd.trans {a b c : World} (h : Gd a b) (k : Gd b c) : Gd a c := by
 obtain ⟨q, os, rfl⟩ := h
 obtain ⟨q', os', rfl⟩ := k
 refine ⟨q + q', os ++ os', ?_⟩
 simp [grow, World.drewN, Array.append_assoc, Nat.add_assoc]
def TwoKeysG (B C : Nat) (k a : Int) (s : ByteArray) (b k' a' : Int) (s' : ByteArray) (b' : Int) (w0 w : World) : Prop :=
 (w.cell? ⟨B, 0, none⟩ = some (.int .i64 k) /\ w.cell? ⟨B, 1, none⟩ = some (.int .i64 a) /\ w.cell? ⟨B, 2, none⟩ = some (.string s) /\ w.cell? ⟨B, 3, none⟩ = some (.int .i64 b)) /\
 w.cell? ⟨C, 0, none⟩ = some (.int .i64 k') /\ w.cell? ⟨C, 1, none⟩ = some (.int .i64 a') /\ w.cell? ⟨C, 2, none⟩ = some (.string s') /\ w.cell? ⟨C, 3, none⟩ = some (.int .i64 b') /\ Gd w0 w
theorem TwoKeysG.carry {B C : Nat} {k a : Int} {s : ByteArray} {b k' a' : Int} {s' : ByteArray} {b' : Int} {w0 w w' : World} (h : TwoKeysG B C k a s b k' a' s' b' w0 w) (hb : Gd w w') : TwoKeysG B C k a s b k' a' s' b' w0 w' := by
 obtain ⟨⟨h1, h2, h3, h4⟩, h5, h6, h7, h8, h9⟩ := h
 have t : ∀ {x : Addr} {v : Value}, w.cell? x = some v -> w'.cell? x = some v := fun {x v} e => (hb.below.cell (p := x) (lt_of_cell e)).trans e
 exact ⟨⟨t h1, t h2, t h3, t h4⟩, t h5, t h6, t h7, t h8, h9.trans hb⟩
theorem four_cellsG (W : World) (x y z u : Int) : ∀ k, (hk : k < [x, y, z, u].length) -> (W.alloc (.cells #[.int .i64 x, .int .i64 y, .int .i64 z, .int .i64 u] 3)).cell? ⟨W.heap.size, 0 + k, none⟩ = some (.int .i64 [x, y, z, u][k]) := by
 intro k hk
 have hk' : k < 4 := hk
 rcases k with _ | _ | _ | _ | k
 ·simp
 ·simp
 ·simp
 ·simp
 ·omega
theorem fact_CompareG (k a : Int) (s : ByteArray) (b k' a' : Int) (s' : ByteArray) (b' : Int) (w : World) :
  Calls Tryz.prog 110 #[.agg #[.int .i64 k, .int .i64 a, .string s, .int .i64 b], .agg #[.int .i64 k', .int .i64 a', .string s', .int .i64 b']] w fun e w' =>
   e = .returned (.int .i64 (keyCmp k a s b k' a' s' b')) /\ Gd w w' := by
 have HT : Hid (TwoKeysG w.heap.size (w.heap.size + 1) k a s b k' a' s' b' w ((w.alloc (.cells #[.int .i64 k, .int .i64 a, .string s, .int .i64 b] 73)).alloc (.cells #[.int .i64 k', .int .i64 a', .string s', .int .i64 b'] 73))) := by
  unfold Hid TwoKeysG
  refine ⟨⟨?_, ?_, ?_, ?_⟩, ?_, ?_, ?_, ?_, ((Gd.refl _).alloc _).alloc _⟩
  all_goals simp
 unfold keyCmp
 go_enter Tryz.func110, Tryz.ntmps110
 go_wp2
 generalize ((w.alloc (.cells #[.int .i64 k, .int .i64 a, .string s, .int .i64 b] 73)).alloc (.cells #[.int .i64 k', .int .i64 a', .string s', .int .i64 b'] 73)) = W at HT ⊢
 go_region_held3 (fun x => (x.cell? ⟨w.heap.size, 0, none⟩ = some (.int .i64 k) /\ x.cell? ⟨w.heap.size, 1, none⟩ = some (.int .i64 a) /\ x.cell? ⟨w.heap.size, 2, none⟩ = some (.string s) /\ x.cell? ⟨w.heap.size, 3, none⟩ = some (.int .i64 b)) /\
   x.cell? ⟨w.heap.size + 1, 0, none⟩ = some (.int .i64 k') /\ x.cell? ⟨w.heap.size + 1, 1, none⟩ = some (.int .i64 a') /\ x.cell? ⟨w.heap.size + 1, 2, none⟩ = some (.string s') /\ x.cell? ⟨w.heap.size + 1, 3, none⟩ = some (.int .i64 b') /\ Gd w x)
  (first | exact TwoKeysG.carry (uh HT) (Gd.refl _).drew | (refine TwoKeysG.carry (by assumption) ?_; exact (Gd.refl _).alloc _) | assumption)
  (first
   | (go_at_call 116; refine (compare_int _ _ _).mono ?_; rintro e w1 ⟨rfl, rfl⟩)
   | (go_at_call 151; refine (compare_string _ _ _).mono ?_; rintro e w1 ⟨rfl, rfl⟩)
   | (go_at_call 150; refine (or_int [Lib.compareInt k k', Lib.compareInt a a', compareS s s', Lib.compareInt b b'] _ 0 _ _ (by simp) ?_).mono ?_; (exact four_cellsG _ _ _ _ _); rintro e w1 ⟨rfl, rfl⟩))
 rename_i hh
 have HB := zh hh.2.2.2.2.2
 clear hh
 go_wp2
 go_ret
 exact ⟨rfl, uh HB⟩
end Go.Proofs.YtbmkmfoaoganeaaGreatDoor

namespace Go.Proofs.YtbmkmfoaoganeaaGreatDoor
open Go.RowKit Go.Sort Go.Shelf Go.Lib
def encY (k : Ky) : List Value := [.int .i64 k.kind, .int .i64 k.a, .string k.word, .int .i64 k.b]
def encYs (l : List Ky) : List Value := l.flatMap encY
theorem encYs_length (l : List Ky) : (encYs l).length = l.length * 4 := by
 induction l with
 | nil => rfl
 | cons x l ih =>
  show (encY x ++ encYs l).length = _
  rw [List.length_append, ih]
  simp [encY]
  omega
theorem encYs_snoc (l : List Ky) (k : Ky) : encYs (l ++ [k]) = encYs l ++ encY k := by simp [encYs]
def noKy : Ky := ⟨0, 0, ByteArray.empty, 0⟩
theorem encYs_get (l : List Ky) (t : Nat) (h : t < l.length * 4) : (encYs l)[t]? = some ((encY ((l[t / 4]?).getD noKy))[t % 4]!) := by
 induction l generalizing t with
 | nil => simp at h
 | cons x l ih =>
  have e : encYs (x :: l) = encY x ++ encYs l := rfl
  rw [e]
  match t with
  | 0 => simp [encY]
  | 1 => simp [encY]
  | 2 => simp [encY]
  | 3 => simp [encY]
  | t + 4 =>
   have := ih t (by simp at h; omega)
   rw [show (t + 4) / 4 = t / 4 + 1 by omega, show (t + 4) % 4 = t % 4 by omega]
   rw [List.getElem?_append_right (by simp [encY])]
   simpa [encY] using this
theorem get_bangY [Inhabited Ky] (l : List Ky) (i : Nat) (h : i < l.length) : l.toArray[i]! = (l[i]?).getD noKy := by
 simp [h]
theorem flat_encY [Inhabited Ky] (l : List Ky) : (flatK encY 4 l.toArray).toList = encYs l := by
 apply List.ext_getElem?
 intro t
 by_cases h : t < l.length * 4
 ·rw [encYs_get l t h]
  have hs : t < (flatK encY 4 l.toArray).size := by simpa using h
  rw [Array.getElem?_toList, Array.getElem?_eq_getElem hs]
  have := get_flatK encY 4 l.toArray t (by simpa using h)
  rw [getElem!_pos _ t hs] at this
  rw [this, get_bangY l (t / 4) (by omega)]
 ·rw [List.getElem?_eq_none (by simp; omega), List.getElem?_eq_none (by rw [encYs_length]; omega)]
def cfY (x y : Ky) : Int := keyCmp x.kind x.a x.word x.b y.kind y.a y.word y.b
theorem keys_cmpLays [Inhabited Ky] (blk off size : Nat) (w : World) : CmpLays Tryz.prog 110 #[] encY 4 cfY blk off size w :=
 fun _ _ _ _ x y => fact_CompareG x.kind x.a x.word x.b y.kind y.a y.word y.b _
theorem cfY_zero {x y : Ky} : cfY x y = 0 ↔ x = y := by
 unfold cfY
 rw [key_zero]
 constructor
 ·rintro ⟨h1, h2, h3, h4⟩
  obtain ⟨a, b, c, d⟩ := x
  obtain ⟨a', b', c', d'⟩ := y
  dsimp only at h1 h2 h3 h4
  rw [ByteArray.toList_eq, ByteArray.toList_eq] at h3
  have : c = c' := ByteArray.ext (Array.toList_inj.1 h3)
  subst h1 h2 h4 this
  rfl
 ·rintro rfl
  exact ⟨rfl, rfl, rfl, rfl⟩
theorem cfY_turn (x y : Ky) : cfY x y = - cfY y x := key_turn _ _ _ _ _ _ _ _
theorem cfY_tri (x y z : Ky) : Tri (cfY x y) (cfY y z) (cfY x z) := key_tri _ _ _ _ _ _ _ _ _ _ _ _
theorem ltKey (x y : Ky) : ltOf cfY x y = decide (cfY x y < 0) := rfl
theorem swoKey : SWO (ltOf cfY) := by
 refine ⟨fun x => ?_, fun x y z h1 h2 => ?_, fun x y z h1 h2 => ?_⟩
 ·rw [ltKey, cfY_zero.2 rfl]; rfl
 ·rw [ltKey] at *
  have t := cfY_tri x y z
  simp at *
  have := t.1 (by omega) (by omega)
  omega
 ·rw [ltKey] at *
  have t := cfY_tri z y x
  have e1 := cfY_turn x y
  have e2 := cfY_turn y z
  have e3 := cfY_turn x z
  simp at *
  have := t.1 (by omega) (by omega)
  omega
theorem keys_sort (l : List Ky) (v : Value) (w : World) (base : Nat) (hlen : l.length < 1099511627776) (hown : w.ownsRow base 73 4 v l.length (encYs l)) :
  Calls Tryz.prog 109 #[v, .func (.func 110) #[] #[]] w fun e w' => e = .returned (.tuple #[]) /\ ∃ l', l'.Perm l /\ l'.Pairwise (fun a b => cfY a b <= 0) /\ w'.ownsRow base 73 4 v l'.length (encYs l') /\ w.grownBy w' v.ownBlock := by
 have hI : Inhabited Ky := ⟨noKy⟩
 rcases hown.2 with ⟨rfl, h0⟩ | ⟨g, cap, cur, rfl, hbg, hg, hnc, hcm, hcs, htake⟩
 ·have hz : l = [] := List.eq_nil_of_length_eq_zero h0
  subst hz
  have hcon := AnyF.slices_SortFunc_none Tryz.sortKeys none 0 (.func (.func 110) #[] #[]) w
  change Calls Tryz.prog 109 _ _ _ at hcon
  refine hcon.mono ?_
  rintro e w' ⟨rfl, rfl⟩
  exact ⟨rfl, [], List.Perm.refl _, List.Pairwise.nil, hown, ⟨rfl, rfl, rfl, Nat.le_refl _, fun _ _ _ => rfl⟩⟩
 ·have hgl : g < w.heap.size := (Array.getElem?_eq_some_iff.1 hg).1
  have hH : HoldsK encY 4 w g 0 l.toArray := by
   intro j hj
   have hj' : j < l.length * 4 := by simpa using hj
   refine ⟨?_, ?_⟩
   ·rw [Nat.zero_add, hown.cellAt j hj', encYs_get l j hj', get_flatK encY 4 l.toArray j (by simpa using hj'), get_bangY l (j / 4) (by omega)]
    rfl
   ·exact hown.frozenAt (0 + j)
  have eg : ∀ args w, (callFunc 110 args).run Tryz.prog w = .ok (.enter 110 args) w := enters_of Tryz.func110 (by kernel_rfl) rfl
  have hcon := AnyQ.slices_SortFunc Tryz.sortKeys 4 Tryz.isAgg73 Tryz.sizeOf73 encY (fun _ => rfl) (fun x v hv => by simp [encY] at hv; rcases hv with rfl | rfl | rfl | rfl <;> rfl) cfY swoKey 110 #[] g 0 cap l.toArray w eg (keys_cmpLays g 0 l.toArray.size w) hH hgl (by simp; omega)
  change Calls Tryz.prog 109 _ _ _ at hcon
  simp only [List.size_toArray] at hcon
  refine hcon.mono ?_
  rintro e w' ⟨rfl, d', n, os, hp, hs, rfl⟩
  have hsz : d'.size = l.length := by have := hp.1; simpa using this
  have hperm : d'.toList.Perm l := by
   have := hp.2.2
   have e1 : d'.extract 0 l.length = d' := by rw [<- hsz]; simp
   have e2 : l.toArray.extract 0 l.length = l.toArray := by simp
   rw [e1, e2] at this
   exact this
  have hl2 : d'.toList.length = l.length := by simpa using hsz
  refine ⟨rfl, d'.toList, hperm, ?_, ?_, grownBy_sortedG _⟩
  ·rw [List.pairwise_iff_getElem]
   intro i j hi hj hij
   have hj' : j < d'.size := by simpa using hj
   have hi' : i < d'.size := by simpa using hi
   have := hs i j (Nat.zero_le _) hij (by simpa [hsz] using hj')
   rw [ltKey] at this
   simp [hj', hi'] at this
   have e := cfY_turn d'[i] d'[j]
   simp
   omega
  ·have hb := heap_sortedG (n := n) (os := os) (flatK encY 4 d') hg
   have hfl : (flatK encY 4 d').toList = encYs d'.toList := flat_encY d'.toList
   have hfs : (flatK encY 4 d').size = l.length * 4 := by simp [hsz]
   refine ⟨by rw [encYs_length], .inr ⟨g, cap, _, by rw [hl2], hbg, hb, by omega, hcm, by simp [putCells, hcs], ?_⟩⟩
   rw [hl2, <- hfs, take_putCellsG _ _ (by rw [hfs, hcs]; exact Nat.mul_le_mul_right _ hnc), hfl]
end Go.Proofs.YtbmkmfoaoganeaaGreatDoor

namespace Go.Proofs.YtbmkmfoaoganeaaGreatDoor
open Go.RowKit Go.Maps
def RowY (y : World) (base : Nat) (v : Value) (L : List Ky) : Prop := y.ownsRow base 73 4 v L.length (encYs L)
theorem RowY.carry {w w' : World} {base : Nat} {v : Value} {L : List Ky} (h : RowY w base v L) (hb : Below w.heap.size w w') : RowY w' base v L := ownsRow_carry h hb
theorem infoY : (Tryz.prog.info? 73).map (fun i => (i.zero, i.size, i.bytes)) = some (some (.agg #[.int .i64 0, .int .i64 0, .string ⟨#[]⟩, .int .i64 0]), 4, 40) := by kernel_rfl
theorem wpList_appY (w : World) {ops : Array Oper} {rest : List Oper} {o : Oper} {a : Act} {Q : Exit -> Act -> World -> Prop} (hgd : o.guard = none) (s x : Operand)
  (ho : o.op = .call { callee := .builtin .append, args := #[s, x], argTypes := #[74, 74] })
  (base : Nat) (v : Value) (L : List Ky) (hs : a.eval s = v) (hown : RowY w base v L)
  (b : Nat) (k : Ky) (hx : a.eval x = .slice (some ⟨b, 0, none⟩) 1 1) (hc : BoxK b k w)
  (hlen : L.length <= 100000) (hbase : base <= w.heap.size)
  (h : ∀ v' w', RowY w' base v' (L ++ [k]) -> w.grownBy w' v.ownBlock -> wpList Tryz.prog ops Q rest (a.put o.dst v') w') : wpList Tryz.prog ops Q (o :: rest) a w := by
 obtain ⟨i0, hi0, hz0, hz1, hz2⟩ := info_parts infoY
 refine wpList_append_own w hgd s x 74 ho base 73 i0 (.agg #[.int .i64 0, .int .i64 0, .string ⟨#[]⟩, .int .i64 0]) 4 40 Tryz.underlying74 hi0 hz0 hz1 hz2 rfl (by decide) v L.length (encYs L) hs hown ⟨b, 0, none⟩ 1 1 (encY k) hx rfl ?_ ?_ ?_ ?_ hbase ?_
 ·intro j u hj
  match j, hj with
  | 0, hj => simp [encY] at hj; subst hj; simpa [Addr.add] using hc.c0
  | 1, hj => simp [encY] at hj; subst hj; simpa [Addr.add] using hc.c1
  | 2, hj => simp [encY] at hj; subst hj; simpa [Addr.add] using hc.c2
  | 3, hj => simp [encY] at hj; subst hj; simpa [Addr.add] using hc.c3
 ·intro u hu
  simp [encY] at hu
  rcases hu with rfl | rfl | rfl | rfl <;> rfl
 ·unfold maxLen; omega
 ·omega
 ·intro v' w' k1 k2 _
  refine h v' w' ?_ k2
  unfold RowY
  rw [encYs_snoc]
  simpa using k1
def KeysSay (w : World) (S : Ky -> Int -> Int -> ByteArray) (at_ t : Int) (e : Ending) (w' : World) : Prop :=
 ∃ v L, e = .returned (.tuple #[v, .nilIface]) /\ RowY w' w.heap.size v L /\ L.Pairwise (fun a b => cfY a b < 0) /\ (∀ k, k ∈ L ↔ S k at_ t ≠ ByteArray.empty) /\ L.length <= 4000 /\ Below w.heap.size w w'
theorem said_any {X : List (Ky × Nat)} {Ln : Nat -> List Ver × Int} {now known bd : Int} {S : Ky -> Int -> Int -> ByteArray} (h : Pst X Ln now known bd S) {k : Ky} {at_ t : Int} (h1 : known <= at_) (h2 : at_ <= now) (hR : rightB t (t + 1) = true) {out : List (Int × Int × ByteArray)} (ho : saidX X Ln k at_ at_ t (t + 1) out) : (0 < out.length ↔ S k at_ t ≠ ByteArray.empty) := by
 rcases said_value h h1 h2 hR ho with ⟨rfl, e⟩ | ⟨p, r, rfl, e⟩
 ·simp [e]
 ·constructor
  ·intro _
   rw [<- e]
   obtain ⟨o, ho, hp⟩ := ho
   rcases ho with ⟨x, hx, rfl, q⟩ | ⟨_, q⟩
   ·have : p ∈ saidV (Ln x.2).1 at_ at_ t (t + 1) := by rw [<- q]; exact hp.mem_iff.1 (by simp)
    unfold saidV at this
    obtain ⟨v, hv, rfl⟩ := List.mem_map.1 this
    have hv' := (List.mem_filter.1 hv).1
    rw [metV_iff hR] at hv'
    exact (h.ok x hx).val v hv'.1
   ·rw [q] at hp
    cases List.perm_nil.1 hp
  ·intro _; simp
structure KyI (w : World) (P : Pl) (m r n : Nat) (now known bd : Int) (S : Ky -> Int -> Int -> ByteArray) (at_ t : Int) (X : List (Ky × Nat)) (Ln : Nat -> List Ver × Int) (Fs : Nat -> Nat -> Prop) (D : DataW Unit) (left was : Lit -> Bool) (cnt : Nat) (u : Value) (L : List Ky) (y : World) : Prop where
 past : PastX y P now known (some m) X Ln Fs
 rg : y.ranges Tryz.prog 73 ptrElem m r n D left cnt
 row : RowY y (r + 1) u L
 mem : ∀ k, k ∈ L ↔ (∃ x, x ∈ X /\ x.1 = k) /\ was (litK k) = false /\ S k at_ t ≠ ByteArray.empty
 nodup : L.Nodup
 low : Below w.heap.size w y
 pr : ∀ i, pastF P (some m) X Fs i -> i < r
 wr : w.heap.size <= r
 rs : r < y.heap.size
theorem nodup_sorted {l l' : List Ky} (hp : l'.Perm l) (hn : l.Nodup) (hs : l'.Pairwise (fun a b => cfY a b <= 0)) : l'.Pairwise (fun a b => cfY a b < 0) := by
 have hn' : l'.Nodup := hp.symm.nodup hn
 refine (hs.and hn').imp ?_
 rintro a b ⟨h1, h2⟩
 have : cfY a b ≠ 0 := fun e => h2 (cfY_zero.1 e)
 omega
theorem nodup_short {X : List (Ky × Nat)} {L : List Ky} (hn : L.Nodup) (h : ∀ k, k ∈ L -> ∃ x, x ∈ X /\ x.1 = k) : L.length <= X.length := by
 have := nodup_len L (X.map Prod.fst) hn (fun k hk => by
  obtain ⟨x, hx, e⟩ := h k hk
  exact List.mem_map.2 ⟨x, hx, e⟩)
 simpa using this
theorem KyI.below {w : World} {P : Pl} {m r n : Nat} {now known bd : Int} {S : Ky -> Int -> Int -> ByteArray} {at_ t : Int} {X : List (Ky × Nat)} {Ln : Nat -> List Ver × Int} {Fs : Nat -> Nat -> Prop} {D : DataW Unit} {left was : Lit -> Bool} {cnt : Nat} {u : Value} {L : List Ky} {y y' : World} (h : KyI w P m r n now known bd S at_ t X Ln Fs D left was cnt u L y) (hb : Below y.heap.size y y') : KyI w P m r n now known bd S at_ t X Ln Fs D left was cnt u L y' :=
 ⟨h.past.below hb, ranges_below h.rg hb, h.row.carry hb, h.mem, h.nodup, h.low.trans (hb.mono h.low.size), h.pr, h.wr, Nat.lt_of_lt_of_le h.rs hb.size⟩
theorem KyI.came {w : World} {P : Pl} {m r n : Nat} {now known bd : Int} {S : Ky -> Int -> Int -> ByteArray} {at_ t : Int} {X : List (Ky × Nat)} {Ln : Nat -> List Ver × Int} {Fs : Nat -> Nat -> Prop} {D : DataW Unit} {left was : Lit -> Bool} {cnt : Nat} {u : Value} {L : List Ky} {y y' : World} {cnt' : Nat} {left' : Lit -> Bool} (h : KyI w P m r n now known bd S at_ t X Ln Fs D left was cnt u L y) (hg : y.grownBy y' (some r)) (hrg : y'.ranges Tryz.prog 73 ptrElem m r n D left' cnt') : KyI w P m r n now known bd S at_ t X Ln Fs D left' was cnt' u L y' := by
 have hk := keeps_grown hg
 refine ⟨h.past.keeps hk (fun i hi e => by cases e; exact Nat.lt_irrefl _ (h.pr _ hi)), hrg, World.ownsRow.kept h.row hg ?_, h.mem, h.nodup, h.low.trans (keeps_below hk (fun i e => by cases e; exact h.wr) h.low.size), h.pr, h.wr, Nat.lt_of_lt_of_le h.rs hg.size⟩
 rcases e : u.ownBlock with _ | g
 ·exact .inl rfl
 ·refine .inr (fun q => ?_)
  have := (World.ownsRow.lt h.row g e).1
  cases q
  omega
theorem KyI.skip {w : World} {P : Pl} {m r n : Nat} {now known bd : Int} {S : Ky -> Int -> Int -> ByteArray} {at_ t : Int} {X : List (Ky × Nat)} {Ln : Nat -> List Ver × Int} {Fs : Nat -> Nat -> Prop} {D : DataW Unit} {left : Lit -> Bool} {cnt : Nat} {u : Value} {L : List Ky} {y : World} {k : Ky} (h : KyI w P m r n now known bd S at_ t X Ln Fs D (fun z => left z && !z.sameKey (litK k)) left cnt u L y) (hX : ∀ x, x ∈ X -> KyOk x.1) (hk : KyOk k) (hn : S k at_ t = ByteArray.empty) : KyI w P m r n now known bd S at_ t X Ln Fs D (fun z => left z && !z.sameKey (litK k)) (fun z => left z && !z.sameKey (litK k)) cnt u L y := by
 refine ⟨h.past, h.rg, h.row, fun k' => ?_, h.nodup, h.low, h.pr, h.wr, h.rs⟩
 rw [h.mem k']
 constructor
 ·rintro ⟨a, b, c⟩
  exact ⟨a, by simp [b], c⟩
 ·rintro ⟨a, b, c⟩
  refine ⟨a, ?_, c⟩
  cases e : left (litK k') with
  | false => rfl
  | true =>
   simp [e] at b
   obtain ⟨x, hx, rfl⟩ := a
   have e2 : litK x.1 = litK k := WideAt.sameKey_eq b
   rcases Classical.em (x.1 = k) with q | q
   ·rw [q] at c; exact absurd hn c
   ·exact absurd e2 (litK_ne (hX x hx) hk q)
theorem KyI.add {w : World} {P : Pl} {m r n : Nat} {now known bd : Int} {S : Ky -> Int -> Int -> ByteArray} {at_ t : Int} {X : List (Ky × Nat)} {Ln : Nat -> List Ver × Int} {Fs : Nat -> Nat -> Prop} {D : DataW Unit} {left : Lit -> Bool} {cnt : Nat} {u : Value} {L : List Ky} {y y' : World} {k : Ky} {v' : Value} (h : KyI w P m r n now known bd S at_ t X Ln Fs D (fun z => left z && !z.sameKey (litK k)) left cnt u L y) (hX : ∀ x, x ∈ X -> KyOk x.1) (hk : KyOk k) (hx : ∃ x, x ∈ X /\ x.1 = k) (hl : left (litK k) = true) (hn : S k at_ t ≠ ByteArray.empty) (hg : y.grownBy y' u.ownBlock) (hr : RowY y' (r + 1) v' (L ++ [k])) : KyI w P m r n now known bd S at_ t X Ln Fs D (fun z => left z && !z.sameKey (litK k)) (fun z => left z && !z.sameKey (litK k)) cnt v' (L ++ [k]) y' := by
 have hkp := keeps_grown hg
 have hge : ∀ i, some i = u.ownBlock -> r + 1 <= i := fun i e => (World.ownsRow.lt h.row i e.symm).1
 refine ⟨h.past.keeps hkp (fun i hi e => by have := hge i e; have := h.pr i hi; omega), ranges_keeps h.rg hkp (fun e => by have := hge m e; have := h.pr m (.inr (.inl rfl)); omega) (fun e => by have := hge r e; omega), hr, fun k' => ?_, ?_, h.low.trans (keeps_below hkp (fun i e => by have := hge i e; have := h.wr; omega) h.low.size), h.pr, h.wr, Nat.lt_of_lt_of_le h.rs hg.size⟩
 ·rw [List.mem_append, List.mem_singleton, h.mem k']
  constructor
  ·rintro (⟨a, b, c⟩ | rfl)
   ·exact ⟨a, by simp [b], c⟩
   ·exact ⟨hx, by simp [WideAt.sameKey_self (keyedK.key (keyOf_key _ hk))], hn⟩
  ·rintro ⟨a, b, c⟩
   cases e : left (litK k') with
   | false => exact .inl ⟨a, rfl, c⟩
   | true =>
    simp [e] at b
    obtain ⟨x, hx', rfl⟩ := a
    have e2 : litK x.1 = litK k := WideAt.sameKey_eq b
    rcases Classical.em (x.1 = k) with q | q
    ·exact .inr q
    ·exact absurd e2 (litK_ne (hX x hx') hk q)
 ·rw [List.nodup_append]
  refine ⟨h.nodup, by simp, fun a ha b hb => ?_⟩
  rw [List.mem_singleton] at hb
  subst hb
  rintro rfl
  have := ((h.mem a).1 ha).2.1
  rw [hl] at this
  cases this
theorem pieces_len {w : World} {base : Nat} {v : Value} {l : List (Int × Int × ByteArray)} (h : w.ownsRow base 107 3 v l.length (encP l)) : ∃ ad c, v = .slice ad l.length c := by
 obtain ⟨_, ad, c, e, _⟩ := own_pieces h
 exact ⟨ad, c, e⟩
theorem keys_ok {w : World} {P : Pl} {now known bd : Int} {S : Ky -> Int -> Int -> ByteArray} {F : Nat -> Prop} (h : PastW w P now known bd S F) (hb1 : bd <= 4000) (at_ t : Int) (h0 : 0 <= at_) (h1 : known <= at_) (h2 : at_ <= now) (t0 : -1099511627776 <= t) (t1 : t < 1099511627776) :
  Calls Tryz.prog 61 #[.pointer (some ⟨P.b, P.o, none⟩), .int .i64 at_, .int .i64 t] w (KeysSay w S at_ t) := by
 obtain ⟨mv, X, Ln, Fs, hX, hS, hlen, hF⟩ := h
 have hR : rightB t (t + 1) = true := decide_eq_true ⟨t0, by omega, by omega⟩
 have hce : errV (countErr now known at_) = .nilIface := by
  have : countErr now known at_ = 0 := by unfold countErr; rw [if_neg (by omega), if_neg (by omega)]
  rw [this]; rfl
 have HC := zh (past_count hX.c0 hX.c1 at_)
 rw [hce] at HC
 have HM := zh (fun W => past_moment t W t0 t1)
 have HRt := zh (fun W => span_Right t (t + 1) W)
 rw [hR] at HRt
 have HRr := zh hR
 have HX := zh hX
 have HS := zh hS
 clear hX hS hF hce hR
 go_enter Tryz.func61, Tryz.ntmps61
 go_wp2_with fail
 refine (uh HC).mono ?_
 rintro e W1 ⟨rfl, hW1⟩
 obtain rfl : w = W1 := hW1.symm
 clear hW1
 go_wp2_with fail
 refine (uh HM _).mono ?_
 rintro e W2 ⟨rfl, b2⟩
 go_wp2_with fail
 refine (uh HRt _).mono ?_
 rintro e W3 ⟨rfl, hW3⟩
 have b3 : Below W2.heap.size W2 W3 := by rw [hW3]; exact below_box _ _
 have HB3 := zh (b2.trans (b3.mono b2.size))
 have HX3 := zh ((uh HX).below (uh HB3))
 have c2 := (uh HX3).c2
 clear b2 b3 hW3 HC HRt HX
 cases mv with
 | none =>
  have hrg := run_range_nilMap (P := Tryz.prog) W3 126 73 198 Tryz.underlying126
  have hnx := fun ty => run_next_nilMap (P := Tryz.prog) W3 ty 0 0 #[]
  have HXn : Hid (X = []) := by
   rcases (uh HX3).map with ⟨_, e⟩ | ⟨m, D, e, _⟩
   ·exact e
   ·cases e
  have HB4 := zh ((uh HB3).trans ((below_box W3 (.mapIter none 0 #[] 0)).mono (uh HB3).size))
  have HSo := zh (keys_sort [] (.slice none 0 0) (W3.alloc (.mapIter none 0 #[] 0)) w.heap.size (by decide) (World.ownsRow_nil _ _ _ _))
  clear HX3 HM
  go_wp2
  refine wp_loop_rounds 1 ?_
  rw [rounds_succ]
  go_wp2_with fail
  refine (uh HSo).mono ?_
  rintro e W5 ⟨rfl, l', hp, _, ho, hg⟩
  have HR : Hid (KeysSay w S at_ t (.returned (.tuple #[.slice none 0 0, .nilIface])) W5) := by
   obtain rfl := hp.eq_nil
   refine ⟨_, [], rfl, ho, List.Pairwise.nil, fun k => ?_, by decide, (uh HB4).trans (below_grown_none hg |>.mono (uh HB4).size)⟩
   have hn := (uh HS).none k (by rw [uh HXn]; simp) at_ h1 h2 t
   simp [hn]
  clear hp ho hg HSo HB4
  go_wp2
  go_ret2
  exact uh HR
 | some m =>
  obtain ⟨D, hown, hK⟩ := (uh HX3).map_own
  have HO := zh hown
  have HK := zh hK
  clear hown hK
  go_wp2_with (first | (at_range; refine wpList_range_own _ rfl _ 126 rfl 73 198 keyedK Tryz.underlying126 ptrElem m X.length D rfl (uh HO) ?_; intro w0 hrg0 hg0 hs0))
  try go_frame
  have HS0 : Hid (KyI w P m W3.heap.size X.length now known bd S at_ t X Ln Fs D (Maps.has D) (Maps.has D) (Maps.size D) (.slice none 0 0) [] w0) := by
   have hb0 := below_grown_none hg0
   refine ⟨(uh HX3).below hb0, hrg0, World.ownsRow_nil _ _ _ _, fun k => ?_, List.nodup_nil, (uh HB3).trans (hb0.mono (uh HB3).size), (uh HX3).lt, (uh HB3).size, by omega⟩
   constructor
   ·intro q; cases q
   ·rintro ⟨⟨x, hx, rfl⟩, q, _⟩
    rw [(uh HK).has x hx] at q
    cases q
  clear hrg0 hg0 hs0 HO HX3 HB3 c2
  go_loopw [9] (fun u y => ∃ left cnt L, KyI w P m W3.heap.size X.length now known bd S at_ t X Ln Fs D left left cnt u L y) (fun _ y => y.rangeLeft m W3.heap.size)
  case atStart => exact ⟨_, _, [], uh HS0⟩
  case round =>
   clear HS0
   obtain ⟨left, cnt, L, hI⟩ := hrel
   have HI := zh hI
   clear hI
   go_wp2_with (first | (at_next; refine wpList_next_ranges _ rfl _ rfl 73 keyedK ptrElem keyV Value.pointer key_shape ptrElem_inv m W3.heap.size X.length D left cnt rfl (uh HI).rg ?done ?more))
   case done =>
    intro _ hl0
    have hsl : ∃ ad c, u9 = .slice ad L.length c := row_slice (show World.ownsRow _ _ _ _ _ _ _ from (uh HI).row)
    obtain ⟨ad, c, rfl⟩ := hsl
    have hshort := nodup_short (uh HI).nodup (fun k hk => (((uh HI).mem k).1 hk).1)
    have HSo := zh (keys_sort L _ wr (W3.heap.size + 1) (by omega) (uh HI).row)
    have HL0 := zh hl0
    have HSh := zh hshort
    have hwr := (uh HI).wr
    clear hl0 hshort
    go_wp2_with fail
    refine (uh HSo).mono ?_
    rintro e W5 ⟨rfl, l', hp, hs, ho, hg⟩
    have hl' : l'.length = L.length := hp.length_eq
    have HR : Hid (KeysSay w S at_ t (.returned (.tuple #[.slice ad L.length c, .nilIface])) W5) := by
     refine ⟨_, l', rfl, ownsRow_rebase ho (by omega), nodup_sorted hp (uh HI).nodup hs, fun k => ?_, by rw [hl']; have := uh HSh; omega, ?_⟩
     ·rw [hp.mem_iff, (uh HI).mem k]
      constructor
      ·exact fun q => q.2.2
      ·intro q
       refine ⟨?_, uh HL0 _, q⟩
       rcases Classical.em (∃ x, x ∈ X /\ x.1 = k) with z | z
       ·exact z
       ·exact absurd ((uh HS).none k (fun x hx e => z ⟨x, hx, e⟩) at_ h1 h2 t) q
     ·refine (uh HI).low.grown hg (uh HI).low.size (fun i hi => ?_)
      have := (World.ownsRow.lt (uh HI).row i hi).1
      omega
    clear hp hs ho hg HSo HI
    go_wp2
    go_ret2
    exact uh HR
   case more =>
    intro k c kl y ps w1 cnt1 hkey hlx hv hat hrg1 hlt hg1 hs1 hen
    obtain ⟨k', ek, hok, rfl⟩ := keyOf_key_inv hkey
    obtain rfl := keyV_inj ek
    obtain ⟨lb, hx, hc⟩ := (uh HK).met hok hv hat
    injection hc with hc
    subst hc
    unfold keyV at hen ⊢
    have HL1 := zh ((uh HI).came hg1 hrg1)
    have HB2 := zh (below_box w1 (.cells #[.int .i64 k.kind, .int .i64 k.a, .string k.word, .int .i64 k.b] 73))
    have HL2 := zh ((uh HL1).below (uh HB2))
    have HBx := zh (boxK_new w1 k)
    have HMs := zh hlt
    have HCt := zh (uh HI).rg.left_eq
    have HLk := zh hlx
    have k0 := (uh HBx).c0
    have k1 := (uh HBx).c1
    have k2 := (uh HBx).c2
    have k3 := (uh HBx).c3
    clear hkey hv hat hrg1 hlt hlx hg1 hs1 HI HL1 HB2 ek
    go_upto_region 10 with fail
    generalize hW2 : w1.alloc (.cells #[.int .i64 k.kind, .int .i64 k.a, .string k.word, .int .i64 k.b] 73) = W4 at *
    clear hW2
    generalize w1.heap.size = bx at *
    go_cut [39] (fun s39 wx => s39 = .bool (decide (S k at_ t ≠ ByteArray.empty)) /\ KyI w P m W3.heap.size X.length now known bd S at_ t X Ln Fs D (fun z => left z && !z.sameKey (litK k)) left cnt1 u9 L wx /\ BoxK bx k wx)
    case first =>
     go_region_held3 (fun y => y.cell? ⟨bx, 0, none⟩ = some (.int .i64 k.kind) /\ y.cell? ⟨bx, 1, none⟩ = some (.int .i64 k.a) /\ y.cell? ⟨bx, 2, none⟩ = some (.string k.word) /\ y.cell? ⟨bx, 3, none⟩ = some (.int .i64 k.b))
      (first | exact vs2 | exact vs1 | exact ⟨k0, k1, k2, k3⟩)
      (first
       | (go_at_call 99; refine (past_said ((uh HL2).past.below bm') (uh HS) hb1 k hok at_ at_ t (t + 1)).mono ?_; rintro e Ws ⟨out, hxo, v, rfl, ho, bs⟩; have vs2 : Ws.cell? ⟨bx, 0, none⟩ = some (.int .i64 k.kind) /\ Ws.cell? ⟨bx, 1, none⟩ = some (.int .i64 k.a) /\ Ws.cell? ⟨bx, 2, none⟩ = some (.string k.word) /\ Ws.cell? ⟨bx, 3, none⟩ = some (.int .i64 k.b) := ⟨(vk1.below bs).c0, (vk1.below bs).c1, (vk1.below bs).c2, (vk1.below bs).c3⟩; obtain ⟨ad, c, rfl⟩ := pieces_len ho)
       | (go_at_call 108; refine (uh HM _).mono ?_; rintro e Wm ⟨rfl, bm⟩; have bm' := (below_drew W4).trans bm; have vk1 := (uh HBx).below bm'; have vs1 : Wm.cell? ⟨bx, 0, none⟩ = some (.int .i64 k.kind) /\ Wm.cell? ⟨bx, 1, none⟩ = some (.int .i64 k.a) /\ Wm.cell? ⟨bx, 2, none⟩ = some (.string k.word) /\ Wm.cell? ⟨bx, 3, none⟩ = some (.int .i64 k.b) := ⟨vk1.c0, vk1.c1, vk1.c2, vk1.c3⟩))
     have HW := zh ((uh HL2).below (bm'.trans (bs.mono bm'.size)))
     have HBw := zh (vk1.below bs)
     have HAn := zh (said_any (uh HS) h1 h2 (uh HRr) hxo)
     clear vs1 vs2 vk1 bm bm' bs ho hxo HL2 HBx k0 k1 k2 k3
     go_wp2
     go_meet
     case rel =>
      refine ⟨?_, uh HW, uh HBw⟩
      have e : decide (S k at_ t ≠ ByteArray.empty) = decide (0 < out.length) := by
       by_cases q : S k at_ t = ByteArray.empty
       ·have z : ¬ 0 < out.length := fun z => (uh HAn).1 z q
        rw [decide_eq_false (fun z => z q), decide_eq_false z]
       ·have z : 0 < out.length := (uh HAn).2 q
        rw [decide_eq_true q, decide_eq_true z]
      rw [e]
    case rest =>
     obtain ⟨rfl, hI5, hB5⟩ := hcut
     have HI5 := zh hI5
     have HB5 := zh hB5
     clear hI5 hB5 HL2 HBx k0 k1 k2 k3
     by_cases q : S k at_ t = ByteArray.empty
     ·rw [decide_eq_false (fun z => z q)]
      have HI6 := zh ((uh HI5).skip (uh HK).ok hok q)
      have HCn : Hid (wc.rangeLeft m W3.heap.size < wr.rangeLeft m W3.heap.size) := by
       have := uh HMs
       show _ < _
       rw [(uh HI6).rg.left_eq, uh HCt]
       omega
      clear HI5 HB5 q hen
      go_wp2
      go_roundw
      case rel => exact ⟨_, _, _, uh HI6⟩
      case measure => exact uh HCn
     ·rw [decide_eq_true q]
      have k0 := (uh HB5).c0
      have k1 := (uh HB5).c1
      have k2 := (uh HB5).c2
      have k3 := (uh HB5).c3
      have HB6 := zh (below_box wc (.cells #[.int .i64 k.kind, .int .i64 k.a, .string k.word, .int .i64 k.b] 73))
      have HI6 := zh ((uh HI5).below (uh HB6))
      have HBx6 := zh (boxK_new wc k)
      have HSh := zh (nodup_short (uh HI5).nodup (fun k hk => (((uh HI5).mem k).1 hk).1))
      clear HI5 HB5
      go_wp2_with (first
       | (at_builtin; refine wpList_appY _ rfl (.tmp 40) (.tmp 42) rfl (W3.heap.size + 1) _ L rfl (uh HI6).row wc.heap.size k rfl (uh HBx6) ?d1 ?d2 ?_))
      case d1 => have := uh HSh; omega
      case d2 => have := (uh HI6).rs; omega
      intro v9 W7 r1 r2
      have HI7 := zh ((uh HI6).add (uh HK).ok hok ⟨(k, lb), hx, rfl⟩ (uh HLk) q r2 r1)
      obtain ⟨ad7, cap7, rfl⟩ := row_slice (show World.ownsRow _ _ _ _ _ _ _ from r1)
      have HCn : Hid (W7.rangeLeft m W3.heap.size < wr.rangeLeft m W3.heap.size) := by
       have := uh HMs
       show _ < _
       rw [(uh HI7).rg.left_eq, uh HCt]
       omega
      clear r1 r2 HI6 HBx6 HB6 k0 k1 k2 k3 q hen
      go_wp2
      go_roundw
      case rel => exact ⟨_, _, _, uh HI7⟩
      case measure => exact uh HCn
end Go.Proofs.YtbmkmfoaoganeaaGreatDoor
