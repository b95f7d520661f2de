/- Texts of one proof, one behind the other. -/
import Derived.Test.YtbmkmfoaoganeaaGreatDoorProg
import Derived.WalkKit
import Derived.WalkSpells
import Derived.WalkLawsBesides
import Derived.Deep.QuietTactic
import Derived.BigQuiet
import Derived.Deep.RegionHeld3
import Derived.Lib.Small
import Derived.Lib.Split
import Derived.Lib.Join
import Derived.Lib.ItoaLen
import Derived.Lib.AtoiAll
import Derived.Lib.ParseIntB
import Derived.Laws.StructEq
import Derived.Laws.AppendOwn
import Derived.StillTail
import Derived.Deep.RegionHeld
import Derived.Deep.AppendLies
import Derived.Laws.OwnMore
set_option maxRecDepth 100000
set_option maxHeartbeats 16000000
namespace Go.Proofs.YtbmkmfoaoganeaaGreatDoor
open Go.RowKit
theorem zr {n : Nat} : n ≤ n := Nat.le_refl n
abbrev zo := @World.cell?_setCell_other
abbrev zs := @World.cell?_setCell_same
theorem gA {α : Type} {l : List α} {i : Nat} : l.toArray[i]? = l[i]? := List.getElem?_toArray
theorem gZ {α : Type} {a : α} {l : List α} : (a :: l)[0]? = some a := List.getElem?_cons_zero
theorem gS {α : Type} {a : α} {l : List α} {i : Nat} : (a :: l)[i + 1]? = l[i]? := List.getElem?_cons_succ
theorem sI {α : Type} {l : List α} {i : Nat} {a : α} : l.toArray.setIfInBounds i a = (l.set i a).toArray := List.setIfInBounds_toArray ..
theorem sZ {α : Type} {l : List α} {a b : α} : (a :: l).set 0 b = b :: l := List.set_cons_zero ..
theorem sS {α : Type} {l : List α} {a b : α} {i : Nat} : (a :: l).set (i + 1) b = a :: l.set i b := List.set_cons_succ ..
theorem takeH {P : Program} {md : Region.Mode} {ops : Array Oper} {Q : Exit → Act → World → Prop} {S : World → Prop} (i : Nat) {oi : Oper} {v : Value} {fuel : Nat} {listed : Array Bool} {a : Act} {w : World} (hi : ops[i]? = some oi := by (simp only [gA, gZ, gS]; rfl)) (hb : (Region.noSelect ops && Region.free md ops listed i && (Region.ready md ops listed).contains i) = true := by kernel_rfl) (hS : S w := by assumption) (hQ : ∀ c a w, Q (.panic c) (a.put oi.dst v) w → Q (.panic c) a w := by exact fun _ _ _ h => h) (hw : Region.wanted oi (yielded ops a.tmps) = true := by rfl) (hy : ∀ w, S w → (execOp a.eval oi).run P w = .ok (.value v) w := by (intro w h; (try dsimp only at h); go_simp <;> with_reducible rfl)) (h : wpAnyH P md ops Q S fuel (listed.setIfInBounds i true) (a.put oi.dst v) w) : wpAnyH P md ops Q S (fuel + 1) listed a w := by
 simp only [Bool.and_eq_true] at hb
 exact wpAnyH_take hi hb.1.1 hb.1.2 hb.2 hQ (.inl ⟨hw, hy⟩) hS h
theorem readyH {P : Program} {md : Region.Mode} {ops : Array Oper} {Q : Exit → Act → World → Prop} {S : World → Prop} (i : Nat) {o : Oper} {fuel : Nat} {listed : Array Bool} {a : Act} {w : World} (hr : Region.ready md ops listed = [i] := by kernel_rfl) (ho : ops[i]? = some o := by (simp only [gA, gZ, gS]; rfl)) (h : ∀ K' : Act → World → Prop, Shut (∀ a w, S w → (S w → wpAnyH P md ops Q S fuel (listed.setIfInBounds i true) a w) → K' a w) → if Region.wanted o (yielded ops a.tmps) = true then Oper.wp P o a w K' Q else K' (a.put o.dst undef) w) : wpAnyH P md ops Q S (fuel + 1) listed a w :=
 wpAnyH_ready hr (by simp) (.cons ho h .nil)
theorem zh {p : Prop} (h : p) : Hid p := h
theorem uh {p : Prop} (h : Hid p) : p := h.out
theorem lt_of_cell {w : World} {a : Addr} {v : Value} (h : w.cell? a = some v) : a.block < w.heap.size := World.block_lt_of_cell? w a h
theorem ret_bool {a b : Bool} (h : b = a) : Ending.returned (.bool a) = .returned (.bool b) := by rw [h]
theorem ret_int {a b : Int} (h : b = a) : Ending.returned (.int .i64 a) = .returned (.int .i64 b) := by rw [h]
theorem ret_string {a b : ByteArray} (h : b = a) : Ending.returned (.string a) = .returned (.string b) := by rw [h]
theorem below_box (w : World) (o : Obj) : Below w.heap.size w (w.alloc o) := (Below.refl _ _).alloc zr _
theorem below_drew (w : World) : Below w.heap.size w w.drew := ⟨rfl, rfl, rfl, Nat.le_refl _, fun _ _ => rfl⟩
theorem below_alloc_drew (w : World) (o : Obj) : Below w.heap.size w (w.alloc o).drew := (below_box w o).trans ((below_drew _).mono (by simp))
theorem var_carry {P : Program} {w w' : World} {n : String} {x : Array Value} (h : w.var? P n = some x) (hb : Below w.heap.size w w') : w'.var? P n = some x := by
 unfold World.var? at *
 cases hg : P.globalNamed n with
 | none => rw [hg] at h; simp at h
 | some g =>
  rw [hg] at h
  simp only [Option.bind_some] at h ⊢
  rw [hb.block g]
  ·exact h
  ·rcases Nat.lt_or_ge g w.heap.size with k | k
   ·exact k
   ·rw [Array.getElem?_eq_none k] at h; simp at h
theorem ownsRow_carry {w w' : World} {base : Nat} {e : TypeId} {size : Nat} {v : Value} {n : Nat} {xs : List Value} (h : w.ownsRow base e size v n xs) (hb : Below w.heap.size w w') : w'.ownsRow base e size v n xs := by
 obtain ⟨h1, h2⟩ := h
 refine ⟨h1, ?_⟩
 rcases h2 with h2 | ⟨g, cap, cur, hv, hg, hh, r⟩
 ·exact .inl h2
 ·refine .inr ⟨g, cap, cur, hv, hg, ?_, r⟩
  rw [hb.block g]
  ·exact hh
  ·rcases Nat.lt_or_ge g w.heap.size with k | k
   ·exact k
   ·rw [Array.getElem?_eq_none k] at hh; cases hh
theorem ownsRow_rebase {w : World} {base base' : Nat} {e : TypeId} {size : Nat} {v : Value} {n : Nat} {xs : List Value} (h : w.ownsRow base e size v n xs) (hb : base' <= base) : w.ownsRow base' e size v n xs := by
 obtain ⟨h1, h2⟩ := h
 refine ⟨h1, ?_⟩
 rcases h2 with h2 | ⟨g, cap, cur, hv, hg, r⟩
 ·exact .inl h2
 ·exact .inr ⟨g, cap, cur, hv, by omega, r⟩
theorem below_grown_none {w w' : World} (h : w.grownBy w' none) : Below w.heap.size w w' :=
 ⟨h.os, h.tape, h.output, h.size, fun k hk => h.block k hk (by simp)⟩
theorem two_set (w : World) (B : Nat) (x y u v : Value) (h0 : w.cell? ⟨B, 0, none⟩ = some u) (h1 : w.cell? ⟨B, 1, none⟩ = some v) :
  ((w.setCell ⟨B, 0, none⟩ x).setCell ⟨B, 1, none⟩ y).cell? ⟨B, 0, none⟩ = some x /\ ((w.setCell ⟨B, 0, none⟩ x).setCell ⟨B, 1, none⟩ y).cell? ⟨B, 1, none⟩ = some y := by
 constructor
 ·rw [zo _ _ _ _ (by simp), zs _ _ _ h0]
 ·rw [zs (u := v)]
  rw [zo _ _ _ _ (by simp), h1]
theorem row_slice {W : World} {base : Nat} {e : TypeId} {size : Nat} {v : Value} {k : Nat} {xs : List Value} (h : W.ownsRow base e size v k xs) : ∃ ad cap, v = .slice ad k cap := by
 rcases h.2 with ⟨h1, h2⟩ | ⟨g, cap, _, h1, _⟩
 ·exact ⟨none, 0, by rw [h1, h2]⟩
 ·exact ⟨_, cap, h1⟩
end Go.Proofs.YtbmkmfoaoganeaaGreatDoor

namespace Go.Proofs.YtbmkmfoaoganeaaGreatDoor
open Go
structure Fop where
 kind : Int
 a : Int
 word : ByteArray
 b : Int
 lo : Int
 hi : Int
 value : ByteArray
def letterB (c : UInt8) : Bool := decide (97 <= c.toNat /\ c.toNat <= 122) || decide (48 <= c.toNat /\ c.toNat <= 57)
def wordL (l : List UInt8) : Bool := decide (1 <= l.length /\ l.length <= 12) && l.all letterB
def wordB (s : ByteArray) : Bool := wordL s.data.toList
def idB (n : Int) : Bool := decide (0 <= n /\ n <= 1048576)
def rightB (a b : Int) : Bool := decide (-1099511627776 <= a /\ b <= 1099511627776 /\ a < b)
def emptyB (s : ByteArray) : Bool := s.toList.isEmpty
def keyB (k a : Int) (w : ByteArray) (b : Int) : Bool :=
 if k = 1 then idB a && emptyB w && decide (b = 0)
 else if k = 2 then idB a && idB b && wordB w
 else if k = 3 then idB a && wordB w && decide (b = 0)
 else false
def opB (o : Fop) : Bool := keyB o.kind o.a o.word o.b && rightB o.lo o.hi && (emptyB o.value || wordB o.value)
def dashL (l : List UInt8) : List UInt8 := if l = [] then [45] else l
def textL (l : List UInt8) : List UInt8 := if l = [45] then [] else l
def fieldsL (o : Fop) : List (List UInt8) := [Lib.itoa o.kind, Lib.itoa o.a, dashL o.word.data.toList, Lib.itoa o.b, Lib.itoa o.lo, Lib.itoa o.hi, dashL o.value.data.toList]
def opL (o : Fop) : List UInt8 := Lib.join (fieldsL o) [32]
def opsL (l : List Fop) : List UInt8 := Lib.join (l.map opL) [43]
def okL (l : List Fop) : Prop := 1 <= l.length /\ l.length <= 8 /\ ∀ o, o ∈ l -> opB o = true
/-! Lists that are cut at one byte. -/
theorem occ_one (s : List UInt8) (c : UInt8) (i : Nat) : Lib.occAt s [c] i = true ↔ s[i]? = some c := by
 unfold Lib.occAt
 cases h : s.drop i with
 | nil =>
  have : s[i]? = none := by rw [<- List.head?_drop, h]; rfl
  simp [this]
 | cons x t =>
  have : s[i]? = some x := by rw [<- List.head?_drop, h]; rfl
  rw [this]
  simp only [List.isPrefixOf, Bool.and_true, beq_iff_eq, Option.some.injEq]
  exact eq_comm
theorem occ_one_false (s : List UInt8) (c : UInt8) (i : Nat) (h : s[i]? ≠ some c) : Lib.occAt s [c] i = false := by
 cases e : Lib.occAt s [c] i
 ·rfl
 ·exact absurd ((occ_one s c i).1 e) h
theorem index_free (x : List UInt8) (c : UInt8) (h : c ∉ x) : Lib.index x [c] = -1 :=
 Lib.index_none fun _ _ => occ_one_false _ _ _ fun e => h (List.mem_of_getElem? e)
theorem index_sep (x r : List UInt8) (c : UInt8) (h : c ∉ x) : Lib.index (x ++ c :: r) [c] = x.length := by
 refine Lib.index_first (by simp) ((occ_one _ _ _).2 (by simp)) fun j hj => occ_one_false _ _ _ fun e => h ?_
 rw [List.getElem?_append_left hj] at e
 exact List.mem_of_getElem? e
theorem joinTail_cons (c : UInt8) (y : List UInt8) (r : List (List UInt8)) : Lib.joinTail [c] (y :: r) = c :: Lib.join (y :: r) [c] := by
 rw [Lib.join_cons]; simp [Lib.joinTail]
theorem join_two (c : UInt8) (x y : List UInt8) (r : List (List UInt8)) : Lib.join (x :: y :: r) [c] = x ++ c :: Lib.join (y :: r) [c] := by
 rw [Lib.join_cons, joinTail_cons]
theorem splitK_join (c : UInt8) : ∀ (k : Nat) (x : List UInt8) (r : List (List UInt8)), (∀ y, y ∈ x :: r -> c ∉ y) -> r.length <= k -> Lib.splitK [c] 0 k (Lib.join (x :: r) [c]) = x :: r
 | k, x, [], h, _ => by
  rw [Lib.join_one]
  cases k with
  | zero => rfl
  | succ k => rw [Lib.splitK, if_pos (by rw [index_free x c (h x (by simp))]; rfl)]
 | 0, x, y :: r, _, hk => by simp at hk
 | k + 1, x, y :: r, h, hk => by
  rw [join_two, Lib.splitK, index_sep x _ c (h x (by simp))]
  rw [if_neg (by simp)]
  have e1 : ((x.length : Int).toNat + 0) = x.length := by simp
  have e2 : ((x.length : Int).toNat + [c].length) = x.length + 1 := by simp
  rw [e1, e2, List.take_left]
  have e3 : (x ++ c :: Lib.join (y :: r) [c]).drop (x.length + 1) = Lib.join (y :: r) [c] := by
   rw [List.drop_append]; simp
  rw [e3, splitK_join c k y r (fun z hz => h z (by simp at hz ⊢; exact Or.inr hz)) (by simpa using hk)]
theorem join_length_le (c : UInt8) (r : List (List UInt8)) (x : List UInt8) : r.length <= (Lib.join (x :: r) [c]).length := by
 induction r generalizing x with
 | nil => simp
 | cons y r ih => rw [join_two]; have := ih y; simp; omega
theorem mem_join (c z : UInt8) (r : List (List UInt8)) (x : List UInt8) (h : z ∈ Lib.join (x :: r) [c]) : z = c \/ ∃ y, y ∈ x :: r /\ z ∈ y := by
 induction r generalizing x with
 | nil => rw [Lib.join_one] at h; exact Or.inr ⟨x, by simp, h⟩
 | cons y r ih =>
  rw [join_two] at h
  rcases List.mem_append.1 h with h | h
  ·exact Or.inr ⟨x, by simp, h⟩
  ·rcases List.mem_cons.1 h with h | h
   ·exact Or.inl h
   ·rcases ih y h with h | ⟨u, h1, h2⟩
    ·exact Or.inl h
    ·exact Or.inr ⟨u, List.mem_cons_of_mem _ h1, h2⟩
/-! Numbers as texts. -/
theorem decDigits_mem (u : Nat) : ∀ c, c ∈ Lib.decDigits u -> 48 <= c.toNat /\ c.toNat <= 57 := by
 induction u using Nat.strongRecOn with
 | _ u ih =>
  intro c hc
  rw [Lib.decDigits] at hc
  split at hc
  ·rename_i h
   rw [List.mem_singleton] at hc; subst hc
   rw [UInt8.toNat_ofNat', Nat.mod_eq_of_lt (by omega)]; omega
  ·rename_i h
   rcases List.mem_append.1 hc with hc | hc
   ·exact ih (u / 10) (by omega) c hc
   ·rw [List.mem_singleton] at hc; subst hc
    rw [UInt8.toNat_ofNat', Nat.mod_eq_of_lt (by omega)]; omega
theorem itoa_mem (n : Int) : ∀ c, c ∈ Lib.itoa n -> c.toNat = 45 \/ 48 <= c.toNat /\ c.toNat <= 57 := by
 intro c hc
 unfold Lib.itoa at hc
 split at hc
 ·rcases List.mem_cons.1 hc with rfl | hc
  ·left; rfl
  ·right; exact decDigits_mem _ c hc
 ·right; exact decDigits_mem _ c hc
theorem decDigits_ne (u : Nat) : Lib.decDigits u ≠ [] := by
 intro h
 have := Lib.decDigits_length u
 rw [h] at this
 have := Lib.nDigits_pos u
 simp at *; omega
theorem parse_app : ∀ (l : List UInt8) (acc v : Nat) (d : Nat), d < 10 -> Lib.parseUint10 acc l = .ok v -> v * 10 + d < 18446744073709551616 -> Lib.parseUint10 acc (l ++ [UInt8.ofNat (48 + d)]) = .ok (v * 10 + d)
 | [], acc, v, d, hd, h, hv => by
  simp only [Lib.parseUint10] at h
  injection h with h
  subst h
  have e : (UInt8.ofNat (48 + d)).toNat = 48 + d := by rw [UInt8.toNat_ofNat', Nat.mod_eq_of_lt (by omega)]
  simp only [List.nil_append, Lib.parseUint10, e]
  rw [if_pos (by omega), if_neg (by omega), if_neg (by omega)]
  congr 1; omega
 | c :: r, acc, v, d, hd, h, hv => by
  simp only [List.cons_append, Lib.parseUint10] at h ⊢
  split at h
  ·rename_i h1
   rw [if_pos h1]
   split at h
   ·cases h
   ·rename_i h2
    rw [if_neg h2]
    split at h
    ·cases h
    ·rename_i h3
     rw [if_neg h3]
     exact parse_app r _ v d hd h hv
  ·cases h
theorem parse_digits (u : Nat) : u < 18446744073709551616 -> Lib.parseUint10 0 (Lib.decDigits u) = .ok u := by
 induction u using Nat.strongRecOn with
 | _ u ih =>
  intro hu
  rw [Lib.decDigits]
  split
  ·rename_i h
   have := parse_app [] 0 0 u h rfl (by omega)
   simpa using this
  ·rename_i h
   have := parse_app (Lib.decDigits (u / 10)) 0 (u / 10) (u % 10) (by omega) (ih (u / 10) (by omega) (by omega)) (by omega)
   rw [this]
   congr 1; omega
theorem mag_digits (u : Nat) (hu : u < 18446744073709551616) : Lib.parseMag (Lib.decDigits u) = .ok u := by
 unfold Lib.parseMag
 rw [if_neg (decDigits_ne u), parse_digits u hu]
theorem atoi_itoa (n : Int) (h0 : -9223372036854775808 <= n) (h1 : n <= 9223372036854775807) : Lib.atoiAll (Lib.itoa n) = .ok n := by
 unfold Lib.itoa
 split
 ·rename_i h
  have hm := mag_digits n.natAbs (by omega)
  show Lib.atoiAll (45 :: Lib.decDigits n.natAbs) = _
  unfold Lib.atoiAll
  have e : (45 : UInt8).toNat = 45 := rfl
  simp only [e, or_true, if_true, hm]
  rw [if_neg (by simp), if_neg (by omega)]
  congr 1; omega
 ·rename_i h
  have hm := mag_digits n.toNat (by omega)
  cases hd : Lib.decDigits n.toNat with
  | nil => exact absurd hd (decDigits_ne _)
  | cons c r =>
   have hc := decDigits_mem n.toNat c (by rw [hd]; simp)
   rw [hd] at hm
   unfold Lib.atoiAll
   have e1 : ¬ c.toNat = 43 := by omega
   have e2 : ¬ c.toNat = 45 := by omega
   simp only [e1, e2, or_false, if_false]
   rw [hm]
   simp only
   rw [if_neg (by omega), if_neg (by simp)]
   congr 1; omega
theorem uintM_64 : ∀ (l : List UInt8) (acc : Nat), Lib.parseUintM (2 ^ 64 - 1) acc l = Lib.parseUint10 acc l
 | [], acc => rfl
 | c :: r, acc => by
  simp only [Lib.parseUintM, Lib.parseUint10]
  split
  ·split
   ·rfl
   ·by_cases h : 18446744073709551616 <= acc * 10 + (c.toNat - 48)
    ·rw [if_pos (show 2 ^ 64 - 1 < acc * 10 + (c.toNat - 48) by omega), if_pos h]
    ·rw [if_neg (show ¬ 2 ^ 64 - 1 < acc * 10 + (c.toNat - 48) by omega), if_neg h, uintM_64 r]
  ·rfl
theorem parseInt_64 (l : List UInt8) : Lib.parseIntB 64 l = Lib.atoiAll l := by
 unfold Lib.parseIntB Lib.atoiAll
 cases l with
 | nil => rfl
 | cons c r =>
  have e : ∀ m : List UInt8, Lib.parseUintB 64 m = Lib.parseMag m := by
   intro m; unfold Lib.parseUintB Lib.parseMag; rw [uintM_64]
  simp only [e]
  rfl
theorem atoi_bounds (l : List UInt8) (v : Int) (h : Lib.atoiAll l = .ok v) : -9223372036854775808 <= v /\ v <= 9223372036854775807 := by
 unfold Lib.atoiAll at h
 cases l with
 | nil => cases h
 | cons c r =>
  simp only at h
  split at h
  ·cases h
  ·cases h
  ·split at h
   ·cases h
   ·split at h
    ·cases h
    ·injection h with h
     subst h
     split <;> omega
/-! The words of a change. -/
theorem letter_mem (l : List UInt8) (h : wordL l = true) : ∀ c, c ∈ l -> 48 <= c.toNat /\ c.toNat <= 57 \/ 97 <= c.toNat /\ c.toNat <= 122 := by
 unfold wordL at h
 simp only [Bool.and_eq_true, List.all_eq_true] at h
 intro c hc
 have := h.2 c hc
 unfold letterB at this
 simp at this; omega
theorem word_length (l : List UInt8) (h : wordL l = true) : 1 <= l.length /\ l.length <= 12 := by
 unfold wordL at h
 simp only [Bool.and_eq_true, decide_eq_true_eq] at h
 exact h.1
def WordOrNone (l : List UInt8) : Prop := l = [] \/ wordL l = true
theorem dash_mem (l : List UInt8) (h : WordOrNone l) : ∀ c, c ∈ dashL l -> c.toNat = 45 \/ 48 <= c.toNat /\ c.toNat <= 57 \/ 97 <= c.toNat /\ c.toNat <= 122 := by
 intro c hc
 unfold dashL at hc
 split at hc
 ·simp at hc; subst hc; left; rfl
 ·rcases h with h | h
  ·exact absurd h ‹_›
  ·right; exact letter_mem l h c hc
theorem text_dash (l : List UInt8) (h : WordOrNone l) : textL (dashL l) = l := by
 unfold textL dashL
 by_cases h2 : l = []
 ·rw [if_pos h2, if_pos rfl, h2]
 ·rw [if_neg h2]
  have h1 : l ≠ [45] := by
   intro h1
   rcases h with h | h
   ·exact h2 h
   ·have := letter_mem l h 45 (by rw [h1]; simp)
    simp at this
  rw [if_neg h1]
theorem dash_length (l : List UInt8) (h : WordOrNone l) : (dashL l).length <= 12 := by
 unfold dashL
 split
 ·simp
 ·rcases h with h | h
  ·exact absurd h ‹_›
  ·exact (word_length l h).2
theorem empty_data (s : ByteArray) (h : emptyB s = true) : s.data.toList = [] := by
 unfold emptyB at h
 rw [ByteArray.toList_eq] at h
 exact List.isEmpty_iff.1 h
theorem op_parts (o : Fop) (h : opB o = true) : (1 <= o.kind /\ o.kind <= 3) /\ (0 <= o.a /\ o.a <= 1048576) /\ (0 <= o.b /\ o.b <= 1048576) /\ (-1099511627776 <= o.lo /\ o.hi <= 1099511627776 /\ o.lo < o.hi) /\ WordOrNone o.word.data.toList /\ WordOrNone o.value.data.toList := by
 unfold opB at h
 simp only [Bool.and_eq_true, Bool.or_eq_true] at h
 obtain ⟨⟨hk, hr⟩, hv⟩ := h
 unfold rightB at hr
 simp only [decide_eq_true_eq] at hr
 have hv' : WordOrNone o.value.data.toList := by
  rcases hv with hv | hv
  ·exact Or.inl (empty_data _ hv)
  ·exact Or.inr hv
 unfold keyB at hk
 split at hk
 ·rename_i h1
  simp only [Bool.and_eq_true, decide_eq_true_eq, idB] at hk
  exact ⟨by omega, hk.1.1, by omega, hr, Or.inl (empty_data _ hk.1.2), hv'⟩
 ·split at hk
  ·rename_i h1
   simp only [Bool.and_eq_true, decide_eq_true_eq, idB] at hk
   exact ⟨by omega, hk.1.1, hk.1.2, hr, Or.inr hk.2, hv'⟩
  ·split at hk
   ·rename_i h1
    simp only [Bool.and_eq_true, decide_eq_true_eq, idB] at hk
    exact ⟨by omega, hk.1.1, by omega, hr, Or.inr hk.1.2, hv'⟩
   ·cases hk
theorem fields_mem (o : Fop) (h : opB o = true) (y : List UInt8) (hy : y ∈ fieldsL o) : ∀ c, c ∈ y -> c.toNat = 45 \/ 48 <= c.toNat /\ c.toNat <= 57 \/ 97 <= c.toNat /\ c.toNat <= 122 := by
 obtain ⟨_, _, _, _, hw, hv⟩ := op_parts o h
 have hi : ∀ n c, c ∈ Lib.itoa n -> c.toNat = 45 \/ 48 <= c.toNat /\ c.toNat <= 57 \/ 97 <= c.toNat /\ c.toNat <= 122 := fun n c hc => by
  rcases itoa_mem n c hc with e | e <;> omega
 unfold fieldsL at hy
 simp only [List.mem_cons, List.not_mem_nil, or_false] at hy
 rcases hy with rfl | rfl | rfl | rfl | rfl | rfl | rfl
 ·exact hi _
 ·exact hi _
 ·exact dash_mem _ hw
 ·exact hi _
 ·exact hi _
 ·exact hi _
 ·exact dash_mem _ hv
theorem fields_blank (o : Fop) (h : opB o = true) : ∀ y, y ∈ fieldsL o -> (32 : UInt8) ∉ y := by
 intro y hy hc
 have := fields_mem o h y hy 32 hc
 simp at this
theorem wr_mem (o : Fop) (h : opB o = true) : ∀ c, c ∈ opL o -> c.toNat = 32 \/ c.toNat = 45 \/ 48 <= c.toNat /\ c.toNat <= 57 \/ 97 <= c.toNat /\ c.toNat <= 122 := by
 intro c hc
 unfold opL fieldsL at hc
 rcases mem_join 32 c _ _ hc with rfl | ⟨y, hy, hc⟩
 ·left; rfl
 ·right; exact fields_mem o h y hy c hc
theorem wr_plus (o : Fop) (h : opB o = true) : (43 : UInt8) ∉ opL o := by
 intro hc
 have := wr_mem o h 43 hc
 simp at this
theorem split_wr (o : Fop) (h : opB o = true) (k : Nat) (hk : 6 <= k) : Lib.splitK [32] 0 k (opL o) = fieldsL o :=
 splitK_join 32 k _ _ (fields_blank o h) (by simpa using hk)
theorem wrs_cut (l : List Fop) (h : okL l) (k : Nat) (hk : l.length <= k + 1) : Lib.splitK [43] 0 k (opsL l) = l.map opL := by
 obtain ⟨h1, h2, h3⟩ := h
 cases l with
 | nil => simp at h1
 | cons o r =>
  refine splitK_join 43 k _ _ ?_ (by simpa using hk)
  intro y hy
  rw [<- List.map_cons] at hy
  obtain ⟨p, hp, rfl⟩ := List.mem_map.1 hy
  exact wr_plus p (h3 p hp)
theorem wrs_length (l : List Fop) : l.length <= (opsL l).length + 1 := by
 cases l with
 | nil => simp
 | cons o r =>
  have := join_length_le 43 (r.map opL) (opL o)
  show _ <= (Lib.join (opL o :: r.map opL) [43]).length + 1
  simp at this ⊢; omega
theorem fields_inj (o p : Fop) (ho : opB o = true) (hp : opB p = true) (h : fieldsL o = fieldsL p) : o = p := by
 obtain ⟨k1, k2, k3, k4, k5, k6⟩ := op_parts o ho
 obtain ⟨m1, m2, m3, m4, m5, m6⟩ := op_parts p hp
 unfold fieldsL at h
 simp only [List.cons.injEq, and_true] at h
 obtain ⟨h1, h2, h3, h4, h5, h6, h7⟩ := h
 have ti : ∀ a b : Int, -9223372036854775808 <= a -> a <= 9223372036854775807 -> -9223372036854775808 <= b -> b <= 9223372036854775807 -> Lib.itoa a = Lib.itoa b -> a = b := by
  intro a b a1 a2 b1 b2 e
  have := atoi_itoa a a1 a2
  rw [e, atoi_itoa b b1 b2] at this
  injection this with this
  exact this.symm
 have tw : ∀ s t : ByteArray, WordOrNone s.data.toList -> WordOrNone t.data.toList -> dashL s.data.toList = dashL t.data.toList -> s = t := by
  intro s t hs ht e
  have : s.data.toList = t.data.toList := by rw [<- text_dash _ hs, <- text_dash _ ht, e]
  cases s; cases t
  simp only [ByteArray.mk.injEq]
  exact Array.toList_inj.1 this
 cases o; cases p
 simp only at *
 simp only [Fop.mk.injEq]
 exact ⟨ti _ _ (by omega) (by omega) (by omega) (by omega) h1, ti _ _ (by omega) (by omega) (by omega) (by omega) h2, tw _ _ k5 m5 h3, ti _ _ (by omega) (by omega) (by omega) (by omega) h4, ti _ _ (by omega) (by omega) (by omega) (by omega) h5, ti _ _ (by omega) (by omega) (by omega) (by omega) h6, tw _ _ k6 m6 h7⟩
theorem wr_inj (o p : Fop) (ho : opB o = true) (hp : opB p = true) (h : opL o = opL p) : o = p :=
 fields_inj o p ho hp (by rw [<- split_wr o ho 6 (by omega), h, split_wr p hp 6 (by omega)])
theorem wrs_inj (l m : List Fop) (hl : okL l) (hm : okL m) (h : opsL l = opsL m) : l = m := by
 have e : l.map opL = m.map opL := by rw [<- wrs_cut l hl 7 (by have := hl.2.1; omega), h, wrs_cut m hm 7 (by have := hm.2.1; omega)]
 have key : ∀ (l m : List Fop), (∀ o, o ∈ l -> opB o = true) -> (∀ o, o ∈ m -> opB o = true) -> l.map opL = m.map opL -> l = m := by
  intro l
  induction l with
  | nil => intro m _ _ e; cases m with
   | nil => rfl
   | cons p m => simp at e
  | cons o l ih => intro m h1 h2 e; cases m with
   | nil => simp at e
   | cons p m =>
    simp only [List.map_cons, List.cons.injEq] at e
    rw [wr_inj o p (h1 o (by simp)) (h2 p (by simp)) e.1, ih m (fun q hq => h1 q (by simp [hq])) (fun q hq => h2 q (by simp [hq])) e.2]
 exact key l m hl.2.2 hm.2.2 e
theorem join_length (c : UInt8) (b : Nat) : ∀ (xs : List (List UInt8)), (∀ y, y ∈ xs -> y.length <= b) -> (Lib.join xs [c]).length <= xs.length * (b + 1)
 | [], _ => by simp [Lib.join_nil]
 | [x], h => by rw [Lib.join_one]; have := h x (by simp); simp; omega
 | x :: y :: r, h => by
  rw [join_two]
  have h1 := h x (by simp)
  have h2 := join_length c b (y :: r) (fun z hz => h z (by simp at hz ⊢; exact Or.inr hz))
  simp only [List.length_append, List.length_cons] at h2 ⊢
  have : (r.length + 1 + 1) * (b + 1) = (r.length + 1) * (b + 1) + (b + 1) := by rw [Nat.add_mul (r.length + 1) 1]; omega
  omega
theorem wr_length (o : Fop) (h : opB o = true) : (opL o).length <= 154 := by
 obtain ⟨k1, k2, k3, k4, k5, k6⟩ := op_parts o h
 have := join_length 32 21 (fieldsL o) ?_
 ·simpa [opL, fieldsL] using this
 ·intro y hy
  unfold fieldsL at hy
  simp only [List.mem_cons, List.not_mem_nil, or_false] at hy
  have d1 := dash_length _ k5
  have d2 := dash_length _ k6
  rcases hy with rfl | rfl | rfl | rfl | rfl | rfl | rfl
  ·exact Lib.itoa_length_le _ (by omega) (by omega)
  ·exact Lib.itoa_length_le _ (by omega) (by omega)
  ·omega
  ·exact Lib.itoa_length_le _ (by omega) (by omega)
  ·exact Lib.itoa_length_le _ (by omega) (by omega)
  ·exact Lib.itoa_length_le _ (by omega) (by omega)
  ·omega
theorem wrs_length_le (l : List Fop) (h : ∀ o, o ∈ l -> opB o = true) : (opsL l).length <= l.length * 155 := by
 have := join_length 43 154 (l.map opL) ?_
 ·simpa [opsL] using this
 ·intro y hy
  obtain ⟨p, hp, rfl⟩ := List.mem_map.1 hy
  exact wr_length p (h p hp)
end Go.Proofs.YtbmkmfoaoganeaaGreatDoor

namespace Go.Proofs.YtbmkmfoaoganeaaGreatDoor
open Go.RowKit
theorem span_Right (a b : Int) (w : World) :
  Calls Tryz.prog 98 #[.agg #[.int .i64 a, .int .i64 b]] w fun e w' => e = .returned (.bool (rightB a b)) /\ w' = w.alloc (.cells #[.int .i64 a, .int .i64 b] 79) := by
 by_cases h1 : -1099511627776 <= a
 ·by_cases h2 : b <= 1099511627776
  ·by_cases h3 : a < b
   ·have e : rightB a b = true := by simp [rightB, h1, h2, h3]
    rw [e]
    clear e
    go_enter Tryz.func98, Tryz.ntmps98
    go_wp2
    go_ret
    exact ⟨rfl, rfl⟩
   ·have e : rightB a b = false := by simp [rightB, h1, h2, h3]
    rw [e]
    clear e
    go_enter Tryz.func98, Tryz.ntmps98
    go_wp2
    go_ret
    exact ⟨rfl, rfl⟩
  ·have e : rightB a b = false := by simp [rightB, h1, h2]
   rw [e]
   clear e
   go_enter Tryz.func98, Tryz.ntmps98
   go_wp2
   go_ret
   exact ⟨rfl, rfl⟩
 ·have e : rightB a b = false := by simp [rightB, h1]
  rw [e]
  clear e
  go_enter Tryz.func98, Tryz.ntmps98
  go_wp2
  go_ret
  exact ⟨rfl, rfl⟩
end Go.Proofs.YtbmkmfoaoganeaaGreatDoor

namespace Go.Proofs.YtbmkmfoaoganeaaGreatDoor
structure Ent where
 id : Int
 lo : Int
 hi : Int
def Rising (L : List Ent) : Prop := L.Pairwise (fun a b => a.id < b.id)
def posT (L : List Ent) (id : Int) : Nat := L.countP (fun e => decide (e.id < id))
theorem posT_le (L : List Ent) (id : Int) : posT L id <= L.length := List.countP_le_length
theorem posT_split : ∀ (L : List Ent) (id : Int), Rising L -> (∀ e, e ∈ L.take (posT L id) -> e.id < id) /\ (∀ e, e ∈ L.drop (posT L id) -> id <= e.id)
 | [], id, _ => by simp [posT]
 | a :: L, id, h => by
  have h1 : ∀ b, b ∈ L -> a.id < b.id := fun b hb => List.rel_of_pairwise_cons h hb
  have h2 : Rising L := List.Pairwise.of_cons h
  obtain ⟨i1, i2⟩ := posT_split L id h2
  by_cases ha : a.id < id
  ·have e : posT (a :: L) id = posT L id + 1 := by simp [posT, ha]
   rw [e]
   constructor
   ·intro x hx
    simp only [List.take_succ_cons, List.mem_cons] at hx
    rcases hx with rfl | hx
    ·exact ha
    ·exact i1 x hx
   ·intro x hx
    exact i2 x (by simpa using hx)
  ·have e : posT (a :: L) id = 0 := by
    unfold posT
    rw [List.countP_eq_zero]
    intro x hx
    simp only [decide_eq_true_eq]
    rcases List.mem_cons.1 hx with rfl | hx
    ·exact ha
    ·have := h1 x hx; omega
   rw [e]
   refine ⟨by simp, fun x hx => ?_⟩
   simp only [List.drop_zero] at hx
   rcases List.mem_cons.1 hx with rfl | hx
   ·omega
   ·have := h1 x hx; omega
def foundT (L : List Ent) (id : Int) : Bool := match L[posT L id]? with
 | some e => decide (e.id = id)
 | none => false
theorem found_iff (L : List Ent) (id : Int) (h : Rising L) : foundT L id = true ↔ ∃ e, e ∈ L /\ e.id = id := by
 obtain ⟨h1, h2⟩ := posT_split L id h
 unfold foundT
 constructor
 ·intro hf
  cases e : L[posT L id]? with
  | none => rw [e] at hf; cases hf
  | some x =>
   rw [e] at hf
   exact ⟨x, List.mem_of_getElem? e, of_decide_eq_true hf⟩
 ·rintro ⟨x, hx, hid⟩
  have hd : x ∈ L.drop (posT L id) := by
   have := hx
   rw [<- List.take_append_drop (posT L id) L] at this
   rcases List.mem_append.1 this with k | k
   ·have := h1 x k; omega
   ·exact k
  cases e : L.drop (posT L id) with
  | nil => rw [e] at hd; cases hd
  | cons y r =>
   have hy : L[posT L id]? = some y := by
    have : (L.drop (posT L id))[0]? = some y := by rw [e]; rfl
    simpa using this
   rw [hy]
   rw [e] at hd h2
   have hp : (y :: r).Pairwise (fun a b => a.id < b.id) := by
    rw [<- e]
    exact List.Pairwise.sublist (List.drop_sublist _ _) h
   rcases List.mem_cons.1 hd with rfl | hd
   ·exact decide_eq_true hid
   ·have a1 := List.rel_of_pairwise_cons hp hd
    have a2 := h2 y (by simp)
    omega
theorem found_at (L : List Ent) (id : Int) (h : foundT L id = true) : ∃ hk : posT L id < L.length, L[posT L id].id = id := by
 unfold foundT at h
 cases e : L[posT L id]? with
 | none => rw [e] at h; cases h
 | some x =>
  rw [e] at h
  obtain ⟨hk, hx⟩ := List.getElem?_eq_some_iff.1 e
  exact ⟨hk, by rw [hx]; exact of_decide_eq_true h⟩
def addT (L : List Ent) (e : Ent) : List Ent := L.take (posT L e.id) ++ e :: L.drop (posT L e.id)
def dropT (L : List Ent) (id : Int) : List Ent := L.take (posT L id) ++ L.drop (posT L id + 1)
theorem rising_add (L : List Ent) (e : Ent) (h : Rising L) (hf : foundT L e.id = false) : Rising (addT L e) := by
 obtain ⟨h1, h2⟩ := posT_split L e.id h
 have hne : ∀ x, x ∈ L -> x.id ≠ e.id := fun x hx hid => by
  have := (found_iff L e.id h).2 ⟨x, hx, hid⟩
  rw [hf] at this
  cases this
 have h3 : ∀ x, x ∈ L.drop (posT L e.id) -> e.id < x.id := fun x hx => by
  have a := h2 x hx
  have b := hne x (List.mem_of_mem_drop hx)
  omega
 unfold addT Rising
 rw [List.pairwise_append]
 refine ⟨List.Pairwise.sublist (List.take_sublist _ _) h, ?_, ?_⟩
 ·exact List.Pairwise.cons (fun x hx => h3 x hx) (List.Pairwise.sublist (List.drop_sublist _ _) h)
 ·intro a ha b hb
  have a1 := h1 a ha
  rcases List.mem_cons.1 hb with rfl | hb
  ·exact a1
  ·have := h3 b hb; omega
theorem rising_drop (L : List Ent) (id : Int) (h : Rising L) : Rising (dropT L id) := by
 unfold dropT Rising
 refine List.Pairwise.sublist ?_ h
 have : L.take (posT L id) ++ L.drop (posT L id) = L := List.take_append_drop _ _
 conv => rhs; rw [<- this]
 refine List.Sublist.append_left ?_ _
 rw [<- List.drop_drop]
 exact List.drop_sublist _ _
theorem addT_length (L : List Ent) (e : Ent) : (addT L e).length = L.length + 1 := by
 have := posT_le L e.id
 simp [addT]
 omega
theorem dropT_length (L : List Ent) (id : Int) (h : posT L id < L.length) : (dropT L id).length + 1 = L.length := by
 simp [dropT]
 omega
def addErr (L : List Ent) (e : Ent) : Int :=
 if 0 <= e.id /\ e.id <= 1048576 then (if rightB e.lo e.hi = true then (if foundT L e.id = true then 9 else if 4000 <= L.length then 12 else 0) else 1) else 2
def addTo (L : List Ent) (e : Ent) : List Ent := if addErr L e = 0 then addT L e else L
def dropErr (L : List Ent) (id : Int) : Int := if foundT L id = true then 0 else 7
def dropTo (L : List Ent) (id : Int) : List Ent := if foundT L id = true then dropT L id else L
theorem rising_addTo (L : List Ent) (e : Ent) (h : Rising L) : Rising (addTo L e) := by
 unfold addTo
 split
 ·rename_i h0
  refine rising_add L e h ?_
  cases hf : foundT L e.id with
  | false => rfl
  | true =>
   unfold addErr at h0
   rw [hf] at h0
   split at h0
   ·split at h0
    ·simp at h0
    ·simp at h0
   ·simp at h0
 ·exact h
theorem rising_dropTo (L : List Ent) (id : Int) (h : Rising L) : Rising (dropTo L id) := by
 unfold dropTo
 split
 ·exact rising_drop L id h
 ·exact h
def meetB (lo hi : Int) (e : Ent) : Bool := decide (max lo e.lo < min hi e.hi)
def meetsT (L : List Ent) (lo hi : Int) : List Int := if rightB lo hi = true then (L.filter (meetB lo hi)).map (·.id) else []
def spanT (L : List Ent) (id : Int) : Int × Int × Int := if h : foundT L id = true then ((L[posT L id]'(found_at L id h).1).lo, (L[posT L id]'(found_at L id h).1).hi, 0) else (0, 0, 7)
end Go.Proofs.YtbmkmfoaoganeaaGreatDoor

namespace Go.Proofs.YtbmkmfoaoganeaaGreatDoor
open Go.RowKit
theorem info_int : (Tryz.prog.info? 3).map (fun i => (i.zero, i.size, i.bytes)) = some (some (.int .i64 0), 1, 8) := by kernel_rfl
def GivesI (l : List Int) (w : World) (e : Ending) (w' : World) : Prop := ∃ v, e = .returned v /\ w'.ownsRow w.heap.size 3 1 v l.length (l.map (Value.int .i64)) /\ Below w.heap.size w w'
end Go.Proofs.YtbmkmfoaoganeaaGreatDoor

namespace Go.Proofs.YtbmkmfoaoganeaaGreatDoor
variable {P : Program} {ops : Array Oper} {md : Region.Mode} {Q : Exit -> Act -> World -> Prop}
def behind (P : Program) (ops : Array Oper) (Q : Exit -> Act -> World -> Prop) (tl : List Oper) : Exit -> Act -> World -> Prop
 | .normal, a, w => wpList P ops Q tl a w
 | e, a, w => Q e a w
theorem letsOut_behind {tl : List Oper} (h : LetsOut (behind P ops Q tl)) : LetsOut Q := by
 obtain ⟨a, w, h⟩ := h
 exact ⟨a, w, h⟩
theorem wpOp_behind {tl : List Oper} {i : Nat} {a : Act} {w : World} {K : Act -> World -> Prop} (h : wpOp P ops (behind P ops Q tl) i K a w) : wpOp P ops Q i K a w := by
 unfold wpOp at h ⊢
 cases e : ops[i]? with
 | none => rw [e] at h; exact h
 | some o =>
  rw [e] at h
  simp only at h ⊢
  by_cases hw : Region.wanted o (yielded ops a.tmps) = true
  ·rw [if_pos hw] at h ⊢
   rcases h with h | ⟨h1, h2⟩
   ·refine .inl ?_
    unfold Oper.wp at h ⊢
    generalize (execOp a.eval o).run P w = r at h ⊢
    cases r with
    | ok n w' =>
     cases n with
     | enter f args =>
      refine Calls.mono h fun e w'' he => ?_
      cases e with
      | returned v => exact he
      | panicked c => exact he
      | outgrown => exact letsOut_behind he
     | _ => exact h
    | halt x w' => cases x <;> exact h
   ·exact .inr ⟨h1, letsOut_behind h2⟩
  ·rw [if_neg hw] at h ⊢
   exact h
def fwdB (md : Region.Mode) (ops : Array Oper) (n : Nat) : Bool :=
 (List.range n).all fun i => match ops[i]? with
  | some o => o.after.all fun e => !Region.binds md e || decide (e.on < i)
  | none => false
theorem fwd_spec {n i : Nat} (h : fwdB md ops n = true) (hi : i < n) : ∃ o, ops[i]? = some o /\ ∀ e, e ∈ o.after -> Region.binds md e = true -> e.on < i := by
 have h1 := List.all_eq_true.1 h i (List.mem_range.2 hi)
 cases e : ops[i]? with
 | none => rw [e] at h1; cases h1
 | some o =>
  rw [e] at h1
  refine ⟨o, rfl, fun x hx hb => ?_⟩
  have := Array.all_eq_true'.1 h1 x hx
  rw [hb] at this
  simpa using this
structure Open (n : Nat) (listed : Array Bool) (U : List Nat) : Prop where
 nodup : U.Nodup
 lt : ∀ i, i ∈ U -> i < n
 iff : ∀ i, i < n -> (listed.getD i true = false ↔ i ∈ U)
structure Marked (n : Nat) (listed marked : Array Bool) : Prop where
 same : ∀ i d, i < n -> marked.getD i d = listed.getD i d
 size : marked.size = listed.size
theorem least_ready {n : Nat} {listed : Array Bool} (hf : fwdB md ops n = true) (inv : HeadInv md ops n listed) (hn : n < ops.size) : ∀ (i : Nat), i < n -> listed.getD i true = false -> ∃ j, j < n /\ j ∈ Region.ready md ops listed := by
 intro i
 induction i using Nat.strongRecOn with
 | _ i ih =>
  intro hi hun
  by_cases hall : ∃ j, j < i /\ listed.getD j true = false
  ·obtain ⟨j, hj, hju⟩ := hall
   exact ih j hj (by omega) hju
  ·obtain ⟨o, ho, hfw⟩ := fwd_spec hf hi
   refine ⟨i, hi, mem_ready.2 ⟨hun, o, ho, fun e he hb => ?_⟩⟩
   have hlt := hfw e he hb
   have hs : e.on < listed.size := by rw [inv.size]; omega
   cases hl : listed.getD e.on false with
   | true => rfl
   | false => exact absurd ⟨e.on, hlt, getD_in hs hl⟩ hall
def doneHead (n m : Nat) : Array Bool := Array.replicate n true ++ Array.replicate m false
theorem doneHead_hi {n m i : Nat} (h : n <= i) (hi : i < n + m) : (doneHead n m)[i]? = some false := by
 unfold doneHead
 rw [Array.getElem?_append_right (by simpa using h)]
 have : i - n < m := by omega
 simp [this]
theorem doneHead_lo {n m i : Nat} (h : i < n) : (doneHead n m)[i]? = some true := by
 unfold doneHead
 rw [Array.getElem?_append_left (by simpa using h)]
 simp [h]
theorem done_of {n : Nat} {listed : Array Bool} (inv : HeadInv md ops n listed) (hn : n < ops.size) (h : ∀ i, i < n -> listed.getD i true ≠ false) : listed = doneHead n (ops.size - n) := by
 apply Array.ext
 ·simp [doneHead, inv.size]; omega
 ·intro i h1 h2
  have e2 := Array.getElem?_eq_getElem h2
  rcases Nat.lt_or_ge i n with k | k
  ·have := h i k
   simp [h1] at this
   rw [doneHead_lo k] at e2
   rw [this]
   exact Option.some.inj e2
  ·have := inv.tail i k (by rw [<- inv.size]; exact h1)
   simp [h1] at this
   rw [doneHead_hi k (by simp [doneHead] at h2; exact h2)] at e2
   rw [this]
   exact Option.some.inj e2
theorem wpAny_of_marked {n g : Nat} {tl : List Oper} (hs : Region.sinkB md ops n = true) (hc : Region.chainB md ops n = true) (hn : n < ops.size) (hf : fwdB md ops n = true)
  (hg : tl.length = g) (htl : ∀ j, tl[j]? = ops[n + j]?) (hseq : Region.seqB md ops g n (doneHead n (ops.size - n)) = true) :
  ∀ (f : Nat) (listed marked : Array Bool) (U : List Nat) (a : Act) (w : World), HeadInv md ops n listed -> Open n listed U -> U.length = f -> Marked n listed marked ->
   wpAny P md ops (behind P ops Q tl) f marked a w -> wpAny P md ops Q (f + g) listed a w
 | 0, listed, marked, U, a, w, inv, hU, hl, _, h => by
  have hd := done_of inv hn (fun i hi hun => by
   have := (hU.iff i hi).1 hun
   rw [List.length_eq_zero_iff.1 hl] at this
   cases this)
  rw [Nat.zero_add]
  have h2 : wpList P ops Q tl a w := h.2
  have := wpAny_of_seq (md := md) (Q' := Q) tl n listed a w htl (by rw [hg, hd]; exact hseq) h2
  rw [hg] at this
  exact this
 | f + 1, listed, marked, U, a, w, inv, hU, hl, hM, h => by
  rw [show f + 1 + g = (f + g) + 1 by omega]
  obtain ⟨u, hu⟩ : ∃ u, u ∈ U := by
   cases U with
   | nil => simp at hl
   | cons u _ => exact ⟨u, by simp⟩
  have hun := (hU.iff u (hU.lt u hu)).2 hu
  refine ⟨fun h0 => ?_, fun i hi => ?_⟩
  ·obtain ⟨j, _, hj⟩ := least_ready hf inv hn u (hU.lt u hu) hun
   rw [h0] at hj
   cases hj
  ·have hin : i < n := by
    rcases Nat.lt_or_ge i n with k | k
    ·exact k
    ·exact absurd hi (tail_waits hs hc hn inv _ u rfl (hU.lt u hu) hun i k)
   obtain ⟨hiu, o, ho, hall⟩ := mem_ready.1 hi
   have hi' : i ∈ Region.ready md ops marked := by
    refine mem_ready.2 ⟨by rw [hM.same i true hin]; exact hiu, o, ho, fun e he hb => ?_⟩
    have h1 := hall e he hb
    rcases Nat.lt_or_ge e.on n with k | k
    ·rw [hM.same _ false k]; exact h1
    ·rcases Nat.lt_or_ge e.on ops.size with k2 | k2
     ·rw [getD_both (inv.tail e.on k k2)] at h1; cases h1
     ·rw [<- inv.size] at k2
      simp [Array.getElem?_eq_none k2] at h1
   have hiU := (hU.iff i hin).1 hiu
   refine wpOp_mono (fun a' w' h' => ?_) (wpOp_behind (h.2 i hi'))
   refine wpAny_of_marked hs hc hn hf hg htl hseq f (listed.setIfInBounds i true) (marked.setIfInBounds i true) (U.erase i) a' w' (inv.set hi hin) ⟨hU.nodup.erase i, fun j hj => hU.lt j (List.mem_of_mem_erase hj), fun j hj => ?_⟩ (by rw [List.length_erase_of_mem hiU]; omega) ⟨fun j d hj => ?_, by simp [hM.size]⟩ h'
   ·by_cases hij : i = j
    ·subst hij
     have hsz : i < listed.size := by rw [inv.size]; omega
     constructor
     ·intro k; simp [hsz] at k
     ·intro k; exact absurd k (fun k => by have := (List.Nodup.mem_erase_iff hU.nodup).1 k; exact this.1 rfl)
    ·rw [getD_set_ne true hij, hU.iff j hj, List.Nodup.mem_erase_iff hU.nodup]
     exact ⟨fun k => ⟨Ne.symm hij, k⟩, fun k => k.2⟩
   ·by_cases hij : i = j
    ·subst hij
     have hsz : i < listed.size := by rw [inv.size]; omega
     have hsz' : i < marked.size := by rw [hM.size]; exact hsz
     simp [hsz, hsz']
    ·rw [getD_set_ne d hij, getD_set_ne d hij]
     exact hM.same j d hj
def tailB (md : Region.Mode) (ops : Array Oper) (n : Nat) : Bool :=
 decide (n < ops.size) && Region.sinkB md ops n && Region.chainB md ops n && fwdB md ops n && Region.seqB md ops (ops.size - n) n (doneHead n (ops.size - n))
def markedHead (n m : Nat) : Array Bool := Array.replicate n false ++ Array.replicate m true
theorem wp_region_tail {id : Nat} {a : Act} {w : World} {l : List Oper} (S : World -> Prop) (n : Nat) (hm : P.follows .mixedOrders = true) (hB : tailB .any l.toArray n = true) (hS : S w.drew)
  (h : S w.drew -> wpAnyH P .any l.toArray (behind P l.toArray Q (l.drop n)) S n (markedHead n (l.toArray.size - n)) a w.drew) : (Code.region id l.toArray true).wp P Q a w := by
 simp only [tailB, Bool.and_eq_true, decide_eq_true_eq] at hB
 obtain ⟨⟨⟨⟨hn, hs⟩, hc⟩, hf⟩, hseq⟩ := hB
 refine wp_region_any hm ?_
 have inv0 : HeadInv .any l.toArray n (Array.replicate l.toArray.size false) :=
  ⟨by simp, fun j oj _ hl => (by rw [getD_replicate_false] at hl; cases hl), fun t _ ht => getD_in (by simpa using ht) (getD_replicate_false _ _)⟩
 have := wpAny_of_marked (Q := Q) (g := l.toArray.size - n) (tl := l.drop n) hs hc hn hf (by simp) (fun j => by simp [List.getElem?_drop]) hseq n (Array.replicate l.toArray.size false) (markedHead n (l.toArray.size - n)) (List.range n) a w.drew inv0
  ⟨List.nodup_range, fun i hi => List.mem_range.1 hi, fun i hi => ⟨fun _ => List.mem_range.2 hi, fun _ => getD_in (by simp at hn ⊢; omega) (getD_replicate_false _ _)⟩⟩ (by simp)
  ⟨fun i d hi => by
   have : i < l.length := by simp at hn; omega
   have e : (markedHead n (l.toArray.size - n))[i]? = some false := by
    unfold markedHead
    rw [Array.getElem?_append_left (by simpa using hi)]
    simp [hi]
   rw [Array.getD_eq_getD_getElem?, Array.getD_eq_getD_getElem?, e]
   simp [this], by simp [markedHead] at hn ⊢; omega⟩ (wpAny_of_held _ _ _ _ (h hS))
 rw [show n + (l.toArray.size - n) = l.toArray.size by omega] at this
 exact this
end Go.Proofs.YtbmkmfoaoganeaaGreatDoor

namespace Go.Proofs.YtbmkmfoaoganeaaGreatDoor
open Go.RowKit
def SrcI (w : World) (v : Value) (l : List Int) : Prop := (v = .slice none 0 0 /\ l = []) \/ ∃ b o c, v = .slice (some ⟨b, o, none⟩) l.length c /\ ∀ j, (h : j < l.length) -> w.cell? ⟨b, o + j, none⟩ = some (.int .i64 l[j])
theorem add_at (b o j : Nat) : (⟨b, o, none⟩ : Addr).add j = ⟨b, o + j, none⟩ := by
 unfold Addr.add
 split
 ·rename_i e; subst e; rfl
 ·rfl
theorem step_appI (w : World) {ops : Array Oper} {o : Oper} {a : Act} {K : Act -> World -> Prop} {Q : Exit -> Act -> World -> Prop} {E : Prop} (hgd : o.guard = none) (s x : Operand)
  (ho : o.op = .call { callee := .builtin .append, args := #[s, x], argTypes := #[89, 89] })
  (base : Nat) (v u : Value) (l m : List Int) (hs : a.eval s = v) (hown : w.ownsRow base 3 1 v l.length (l.map (Value.int .i64))) (hx : a.eval x = u) (hu : SrcI w u m)
  (hlen : l.length + m.length <= 1000000) (hbase : base <= w.heap.size)
  (h : ∀ v' w', w'.ownsRow base 3 1 v' (l ++ m).length ((l ++ m).map (Value.int .i64)) -> w.grownBy w' v.ownBlock -> K (a.put o.dst v') w') :
  if Region.wanted o (yielded ops a.tmps) = true then Oper.wp Tryz.prog o a w K Q else E := by
 have hw : Region.wanted o (yielded ops a.tmps) = true := by simp [Region.wanted, hgd]
 rw [if_pos hw]
 obtain ⟨i0, hi0, hz0, hz1, hz2⟩ := info_parts info_int
 rcases hu with ⟨rfl, rfl⟩ | ⟨b, off, c, rfl, hc⟩
 ·have hrun := run_append_owned_none (P := Tryz.prog) (w := w) base 89 o.type 3 i0 1 Tryz.underlying89 hi0 v l.length _ hown
  unfold Oper.wp
  simp [execOp, ho, resolve, invoke, builtin, hs, hx, hrun, Result.andThen]
  refine h _ _ (by simpa using hown) ⟨rfl, rfl, rfl, Nat.le_refl _, fun _ _ _ => rfl⟩
 ·refine wp_append_own w s x 89 ho base 3 i0 (.int .i64 0) 1 8 Tryz.underlying89 hi0 hz0 hz1 hz2 rfl (by decide) v l.length (l.map (Value.int .i64)) hs hown ⟨b, off, none⟩ m.length c (m.map (Value.int .i64)) hx (by simp) ?_ ?_ ?_ ?_ hbase ?_
  ·intro j y hj
   rw [List.getElem?_map] at hj
   cases e : m[j]? with
   | none => rw [e] at hj; cases hj
   | some p =>
    rw [e] at hj
    obtain rfl := Option.some.inj hj
    obtain ⟨hjl, rfl⟩ := List.getElem?_eq_some_iff.1 e
    rw [add_at]
    exact hc j hjl
  ·intro y hy
   obtain ⟨z, _, rfl⟩ := List.mem_map.1 hy
   rfl
  ·unfold maxLen; omega
  ·omega
  ·intro v' w' k1 k2 _
   refine h v' w' ?_ k2
   simpa using k1
end Go.Proofs.YtbmkmfoaoganeaaGreatDoor
