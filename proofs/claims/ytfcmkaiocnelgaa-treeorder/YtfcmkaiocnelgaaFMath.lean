/- Changes, their texts, and what a text tells: plain lists of bytes and numbers, no program. -/
import Derived.Lib.Split
import Derived.Lib.Join
import Derived.Lib.ItoaLen
import Derived.Lib.AtoiAll
import Derived.Lib.ParseIntB
import Derived.Laws.StructEq
namespace Go.Proofs.Ytfcmkaiocnelgaa
open Go

/-- A change, as its cells hold it. -/
structure Fop where
  kind : Int
  a : Int
  word : ByteArray
  b : Int
  lo : Int
  hi : Int
  value : ByteArray

def letterB (c : UInt8) : Bool := decide (97 ≤ c.toNat ∧ c.toNat ≤ 122) || decide (48 ≤ c.toNat ∧ c.toNat ≤ 57)
def wordL (l : List UInt8) : Bool := decide (1 ≤ l.length ∧ l.length ≤ 12) && l.all letterB
def wordB (s : ByteArray) : Bool := wordL s.data.toList
def idB (n : Int) : Bool := decide (0 ≤ n ∧ n ≤ 1048576)
def rightB (a b : Int) : Bool := decide (-1099511627776 ≤ a ∧ b ≤ 1099511627776 ∧ a < b)
def inB (n lo hi : Int) : Bool := decide (lo ≤ n ∧ n ≤ hi)
def emptyB (s : ByteArray) : Bool := s.toList.isEmpty
def keyB (k a : Int) (w : ByteArray) (b : Int) : Bool :=
  if k = 1 then idB a && emptyB w && decide (b = 0)
  else if k = 2 then idB a && idB b && wordB w
  else if k = 3 then idB a && wordB w && decide (b = 0)
  else false
def opB (o : Fop) : Bool := keyB o.kind o.a o.word o.b && rightB o.lo o.hi && (emptyB o.value || wordB o.value)

/-- The text of a text: a dash for an empty one. -/
def dashL (l : List UInt8) : List UInt8 := if l = [] then [45] else l
def textL (l : List UInt8) : List UInt8 := if l = [45] then [] else l
def fieldsL (o : Fop) : List (List UInt8) := [Lib.itoa o.kind, Lib.itoa o.a, dashL o.word.data.toList, Lib.itoa o.b, Lib.itoa o.lo, Lib.itoa o.hi, dashL o.value.data.toList]
def opL (o : Fop) : List UInt8 := Lib.join (fieldsL o) [32]
def opsL (l : List Fop) : List UInt8 := Lib.join (l.map opL) [43]
/-- What may be written. -/
def okL (l : List Fop) : Prop := 1 ≤ l.length ∧ l.length ≤ 8 ∧ ∀ o, o ∈ l → opB o = true

/-! Lists that are cut at one byte. -/

theorem occ_one (s : List UInt8) (c : UInt8) (i : Nat) : Lib.occAt s [c] i = true ↔ s[i]? = some c := by
  unfold Lib.occAt
  cases h : s.drop i with
  | nil =>
    have : s[i]? = none := by rw [← List.head?_drop, h]; rfl
    simp [this]
  | cons x t =>
    have : s[i]? = some x := by rw [← List.head?_drop, h]; rfl
    rw [this]
    simp only [List.isPrefixOf, Bool.and_true, beq_iff_eq, Option.some.injEq]
    exact eq_comm

theorem occ_one_false (s : List UInt8) (c : UInt8) (i : Nat) (h : s[i]? ≠ some c) : Lib.occAt s [c] i = false := by
  cases e : Lib.occAt s [c] i
  · rfl
  · exact absurd ((occ_one s c i).1 e) h

theorem index_free (x : List UInt8) (c : UInt8) (h : c ∉ x) : Lib.index x [c] = -1 :=
  Lib.index_none fun _ _ => occ_one_false _ _ _ fun e => h (List.mem_of_getElem? e)

theorem index_sep (x r : List UInt8) (c : UInt8) (h : c ∉ x) : Lib.index (x ++ c :: r) [c] = x.length := by
  refine Lib.index_first (by simp) ((occ_one _ _ _).2 (by simp)) fun j hj => occ_one_false _ _ _ fun e => h ?_
  rw [List.getElem?_append_left hj] at e
  exact List.mem_of_getElem? e

theorem joinTail_cons (c : UInt8) (y : List UInt8) (r : List (List UInt8)) : Lib.joinTail [c] (y :: r) = c :: Lib.join (y :: r) [c] := by
  rw [Lib.join_cons]; simp [Lib.joinTail]

theorem join_two (c : UInt8) (x y : List UInt8) (r : List (List UInt8)) : Lib.join (x :: y :: r) [c] = x ++ c :: Lib.join (y :: r) [c] := by
  rw [Lib.join_cons, joinTail_cons]

theorem splitK_join (c : UInt8) : ∀ (k : Nat) (x : List UInt8) (r : List (List UInt8)), (∀ y, y ∈ x :: r → c ∉ y) → r.length ≤ k → Lib.splitK [c] 0 k (Lib.join (x :: r) [c]) = x :: r
  | k, x, [], h, _ => by
    rw [Lib.join_one]
    cases k with
    | zero => rfl
    | succ k => rw [Lib.splitK, if_pos (by rw [index_free x c (h x (by simp))]; rfl)]
  | 0, x, y :: r, _, hk => by simp at hk
  | k + 1, x, y :: r, h, hk => by
    rw [join_two, Lib.splitK, index_sep x _ c (h x (by simp))]
    rw [if_neg (by simp)]
    have e1 : ((x.length : Int).toNat + 0) = x.length := by simp
    have e2 : ((x.length : Int).toNat + [c].length) = x.length + 1 := by simp
    rw [e1, e2, List.take_left]
    have e3 : (x ++ c :: Lib.join (y :: r) [c]).drop (x.length + 1) = Lib.join (y :: r) [c] := by
      rw [List.drop_append]; simp
    rw [e3, splitK_join c k y r (fun z hz => h z (by simp at hz ⊢; exact Or.inr hz)) (by simpa using hk)]

theorem count_join (c : UInt8) : ∀ (r : List (List UInt8)) (x : List UInt8), (∀ y, y ∈ x :: r → c ∉ y) → Lib.count (Lib.join (x :: r) [c]) [c] = r.length
  | [], x, h => by rw [Lib.join_one, Lib.count_miss (index_free x c (h x (by simp)))]; rfl
  | y :: r, x, h => by
    rw [join_two, Lib.count_hit (by simp) (index_sep x _ c (h x (by simp)))]
    have e3 : (x ++ c :: Lib.join (y :: r) [c]).drop (x.length + [c].length) = Lib.join (y :: r) [c] := by
      rw [List.drop_append]; simp
    rw [e3, count_join c r y (fun z hz => h z (by simp at hz ⊢; exact Or.inr hz))]
    simp; omega

theorem join_length_le (c : UInt8) (r : List (List UInt8)) (x : List UInt8) : r.length ≤ (Lib.join (x :: r) [c]).length := by
  induction r generalizing x with
  | nil => simp
  | cons y r ih => rw [join_two]; have := ih y; simp; omega

theorem mem_join (c z : UInt8) (r : List (List UInt8)) (x : List UInt8) (h : z ∈ Lib.join (x :: r) [c]) : z = c ∨ ∃ y, y ∈ x :: r ∧ z ∈ y := by
  induction r generalizing x with
  | nil => rw [Lib.join_one] at h; exact Or.inr ⟨x, by simp, h⟩
  | cons y r ih =>
    rw [join_two] at h
    rcases List.mem_append.1 h with h | h
    · exact Or.inr ⟨x, by simp, h⟩
    · rcases List.mem_cons.1 h with h | h
      · exact Or.inl h
      · rcases ih y h with h | ⟨u, h1, h2⟩
        · exact Or.inl h
        · exact Or.inr ⟨u, List.mem_cons_of_mem _ h1, h2⟩

/-! Numbers as texts. -/

theorem decDigits_mem (u : Nat) : ∀ c, c ∈ Lib.decDigits u → 48 ≤ c.toNat ∧ c.toNat ≤ 57 := by
  induction u using Nat.strongRecOn with
  | _ u ih =>
    intro c hc
    rw [Lib.decDigits] at hc
    split at hc
    · rename_i h
      rw [List.mem_singleton] at hc; subst hc
      rw [UInt8.toNat_ofNat', Nat.mod_eq_of_lt (by omega)]; omega
    · rename_i h
      rcases List.mem_append.1 hc with hc | hc
      · exact ih (u / 10) (by omega) c hc
      · rw [List.mem_singleton] at hc; subst hc
        rw [UInt8.toNat_ofNat', Nat.mod_eq_of_lt (by omega)]; omega

theorem itoa_mem (n : Int) : ∀ c, c ∈ Lib.itoa n → c.toNat = 45 ∨ 48 ≤ c.toNat ∧ c.toNat ≤ 57 := by
  intro c hc
  unfold Lib.itoa at hc
  split at hc
  · rcases List.mem_cons.1 hc with rfl | hc
    · left; rfl
    · right; exact decDigits_mem _ c hc
  · right; exact decDigits_mem _ c hc

theorem decDigits_ne (u : Nat) : Lib.decDigits u ≠ [] := by
  intro h
  have := Lib.decDigits_length u
  rw [h] at this
  have := Lib.nDigits_pos u
  simp at *; omega

theorem parse_app : ∀ (l : List UInt8) (acc v : Nat) (d : Nat), d < 10 → Lib.parseUint10 acc l = .ok v → v * 10 + d < 18446744073709551616 → Lib.parseUint10 acc (l ++ [UInt8.ofNat (48 + d)]) = .ok (v * 10 + d)
  | [], acc, v, d, hd, h, hv => by
    simp only [Lib.parseUint10] at h
    injection h with h
    subst h
    have e : (UInt8.ofNat (48 + d)).toNat = 48 + d := by rw [UInt8.toNat_ofNat', Nat.mod_eq_of_lt (by omega)]
    simp only [List.nil_append, Lib.parseUint10, e]
    rw [if_pos (by omega), if_neg (by omega), if_neg (by omega)]
    congr 1; omega
  | c :: r, acc, v, d, hd, h, hv => by
    simp only [List.cons_append, Lib.parseUint10] at h ⊢
    split at h
    · rename_i h1
      rw [if_pos h1]
      split at h
      · cases h
      · rename_i h2
        rw [if_neg h2]
        split at h
        · cases h
        · rename_i h3
          rw [if_neg h3]
          exact parse_app r _ v d hd h hv
    · cases h

theorem parse_digits (u : Nat) : u < 18446744073709551616 → Lib.parseUint10 0 (Lib.decDigits u) = .ok u := by
  induction u using Nat.strongRecOn with
  | _ u ih =>
    intro hu
    rw [Lib.decDigits]
    split
    · rename_i h
      have := parse_app [] 0 0 u h rfl (by omega)
      simpa using this
    · rename_i h
      have := parse_app (Lib.decDigits (u / 10)) 0 (u / 10) (u % 10) (by omega) (ih (u / 10) (by omega) (by omega)) (by omega)
      rw [this]
      congr 1; omega

theorem mag_digits (u : Nat) (hu : u < 18446744073709551616) : Lib.parseMag (Lib.decDigits u) = .ok u := by
  unfold Lib.parseMag
  rw [if_neg (decDigits_ne u), parse_digits u hu]

theorem atoi_itoa (n : Int) (h0 : -9223372036854775808 ≤ n) (h1 : n ≤ 9223372036854775807) : Lib.atoiAll (Lib.itoa n) = .ok n := by
  unfold Lib.itoa
  split
  · rename_i h
    have hm := mag_digits n.natAbs (by omega)
    show Lib.atoiAll (45 :: Lib.decDigits n.natAbs) = _
    unfold Lib.atoiAll
    have e : (45 : UInt8).toNat = 45 := rfl
    simp only [e, or_true, if_true, hm]
    rw [if_neg (by simp), if_neg (by omega)]
    congr 1; omega
  · rename_i h
    have hm := mag_digits n.toNat (by omega)
    cases hd : Lib.decDigits n.toNat with
    | nil => exact absurd hd (decDigits_ne _)
    | cons c r =>
      have hc := decDigits_mem n.toNat c (by rw [hd]; simp)
      rw [hd] at hm
      unfold Lib.atoiAll
      have e1 : ¬ c.toNat = 43 := by omega
      have e2 : ¬ c.toNat = 45 := by omega
      simp only [e1, e2, or_false, if_false]
      rw [hm]
      simp only
      rw [if_neg (by omega), if_neg (by simp)]
      congr 1; omega


theorem uintM_64 : ∀ (l : List UInt8) (acc : Nat), Lib.parseUintM (2 ^ 64 - 1) acc l = Lib.parseUint10 acc l
  | [], acc => rfl
  | c :: r, acc => by
    simp only [Lib.parseUintM, Lib.parseUint10]
    split
    · split
      · rfl
      · by_cases h : 18446744073709551616 ≤ acc * 10 + (c.toNat - 48)
        · rw [if_pos (show 2 ^ 64 - 1 < acc * 10 + (c.toNat - 48) by omega), if_pos h]
        · rw [if_neg (show ¬ 2 ^ 64 - 1 < acc * 10 + (c.toNat - 48) by omega), if_neg h, uintM_64 r]
    · rfl

theorem parseInt_64 (l : List UInt8) : Lib.parseIntB 64 l = Lib.atoiAll l := by
  unfold Lib.parseIntB Lib.atoiAll
  cases l with
  | nil => rfl
  | cons c r =>
    have e : ∀ m : List UInt8, Lib.parseUintB 64 m = Lib.parseMag m := by
      intro m; unfold Lib.parseUintB Lib.parseMag; rw [uintM_64]
    simp only [e]
    rfl

theorem atoi_bounds (l : List UInt8) (v : Int) (h : Lib.atoiAll l = .ok v) : -9223372036854775808 ≤ v ∧ v ≤ 9223372036854775807 := by
  unfold Lib.atoiAll at h
  cases l with
  | nil => cases h
  | cons c r =>
    simp only at h
    split at h
    · cases h
    · cases h
    · split at h
      · cases h
      · split at h
        · cases h
        · injection h with h
          subst h
          split <;> omega

/-! The words of a change. -/

theorem letter_mem (l : List UInt8) (h : wordL l = true) : ∀ c, c ∈ l → 48 ≤ c.toNat ∧ c.toNat ≤ 57 ∨ 97 ≤ c.toNat ∧ c.toNat ≤ 122 := by
  unfold wordL at h
  simp only [Bool.and_eq_true, List.all_eq_true] at h
  intro c hc
  have := h.2 c hc
  unfold letterB at this
  simp at this; omega

theorem word_length (l : List UInt8) (h : wordL l = true) : 1 ≤ l.length ∧ l.length ≤ 12 := by
  unfold wordL at h
  simp only [Bool.and_eq_true, decide_eq_true_eq] at h
  exact h.1

def WordOrNone (l : List UInt8) : Prop := l = [] ∨ wordL l = true

theorem dash_mem (l : List UInt8) (h : WordOrNone l) : ∀ c, c ∈ dashL l → c.toNat = 45 ∨ 48 ≤ c.toNat ∧ c.toNat ≤ 57 ∨ 97 ≤ c.toNat ∧ c.toNat ≤ 122 := by
  intro c hc
  unfold dashL at hc
  split at hc
  · simp at hc; subst hc; left; rfl
  · rcases h with h | h
    · exact absurd h ‹_›
    · right; exact letter_mem l h c hc

theorem text_dash (l : List UInt8) (h : WordOrNone l) : textL (dashL l) = l := by
  unfold textL dashL
  by_cases h2 : l = []
  · rw [if_pos h2, if_pos rfl, h2]
  · rw [if_neg h2]
    have h1 : l ≠ [45] := by
      intro h1
      rcases h with h | h
      · exact h2 h
      · have := letter_mem l h 45 (by rw [h1]; simp)
        simp at this
    rw [if_neg h1]

theorem dash_length (l : List UInt8) (h : WordOrNone l) : (dashL l).length ≤ 12 := by
  unfold dashL
  split
  · simp
  · rcases h with h | h
    · exact absurd h ‹_›
    · exact (word_length l h).2

theorem empty_data (s : ByteArray) (h : emptyB s = true) : s.data.toList = [] := by
  unfold emptyB at h
  rw [ByteArray.toList_eq] at h
  exact List.isEmpty_iff.1 h

/-- What a change that may be is. -/
theorem op_parts (o : Fop) (h : opB o = true) : (1 ≤ o.kind ∧ o.kind ≤ 3) ∧ (0 ≤ o.a ∧ o.a ≤ 1048576) ∧ (0 ≤ o.b ∧ o.b ≤ 1048576) ∧ (-1099511627776 ≤ o.lo ∧ o.hi ≤ 1099511627776 ∧ o.lo < o.hi) ∧ WordOrNone o.word.data.toList ∧ WordOrNone o.value.data.toList := by
  unfold opB at h
  simp only [Bool.and_eq_true, Bool.or_eq_true] at h
  obtain ⟨⟨hk, hr⟩, hv⟩ := h
  unfold rightB at hr
  simp only [decide_eq_true_eq] at hr
  have hv' : WordOrNone o.value.data.toList := by
    rcases hv with hv | hv
    · exact Or.inl (empty_data _ hv)
    · exact Or.inr hv
  unfold keyB at hk
  split at hk
  · rename_i h1
    simp only [Bool.and_eq_true, decide_eq_true_eq, idB] at hk
    exact ⟨by omega, hk.1.1, by omega, hr, Or.inl (empty_data _ hk.1.2), hv'⟩
  · split at hk
    · rename_i h1
      simp only [Bool.and_eq_true, decide_eq_true_eq, idB] at hk
      exact ⟨by omega, hk.1.1, hk.1.2, hr, Or.inr hk.2, hv'⟩
    · split at hk
      · rename_i h1
        simp only [Bool.and_eq_true, decide_eq_true_eq, idB] at hk
        exact ⟨by omega, hk.1.1, by omega, hr, Or.inr hk.1.2, hv'⟩
      · cases hk

theorem fields_mem (o : Fop) (h : opB o = true) (y : List UInt8) (hy : y ∈ fieldsL o) : ∀ c, c ∈ y → c.toNat = 45 ∨ 48 ≤ c.toNat ∧ c.toNat ≤ 57 ∨ 97 ≤ c.toNat ∧ c.toNat ≤ 122 := by
  obtain ⟨_, _, _, _, hw, hv⟩ := op_parts o h
  have hi : ∀ n c, c ∈ Lib.itoa n → c.toNat = 45 ∨ 48 ≤ c.toNat ∧ c.toNat ≤ 57 ∨ 97 ≤ c.toNat ∧ c.toNat ≤ 122 := fun n c hc => by
    rcases itoa_mem n c hc with e | e <;> omega
  unfold fieldsL at hy
  simp only [List.mem_cons, List.not_mem_nil, or_false] at hy
  rcases hy with rfl | rfl | rfl | rfl | rfl | rfl | rfl
  · exact hi _
  · exact hi _
  · exact dash_mem _ hw
  · exact hi _
  · exact hi _
  · exact hi _
  · exact dash_mem _ hv

theorem fields_blank (o : Fop) (h : opB o = true) : ∀ y, y ∈ fieldsL o → (32 : UInt8) ∉ y := by
  intro y hy hc
  have := fields_mem o h y hy 32 hc
  simp at this

theorem wr_mem (o : Fop) (h : opB o = true) : ∀ c, c ∈ opL o → c.toNat = 32 ∨ c.toNat = 45 ∨ 48 ≤ c.toNat ∧ c.toNat ≤ 57 ∨ 97 ≤ c.toNat ∧ c.toNat ≤ 122 := by
  intro c hc
  unfold opL fieldsL at hc
  rcases mem_join 32 c _ _ hc with rfl | ⟨y, hy, hc⟩
  · left; rfl
  · right; exact fields_mem o h y hy c hc

theorem wr_plus (o : Fop) (h : opB o = true) : (43 : UInt8) ∉ opL o := by
  intro hc
  have := wr_mem o h 43 hc
  simp at this

/-- Cut at blanks a change's text gives its words. -/
theorem split_wr (o : Fop) (h : opB o = true) (k : Nat) (hk : 6 ≤ k) : Lib.splitK [32] 0 k (opL o) = fieldsL o :=
  splitK_join 32 k _ _ (fields_blank o h) (by simpa using hk)

theorem count_wr (o : Fop) (h : opB o = true) : Lib.count (opL o) [32] = 6 :=
  count_join 32 _ _ (fields_blank o h)

theorem wrs_cut (l : List Fop) (h : okL l) (k : Nat) (hk : l.length ≤ k + 1) : Lib.splitK [43] 0 k (opsL l) = l.map opL := by
  obtain ⟨h1, h2, h3⟩ := h
  cases l with
  | nil => simp at h1
  | cons o r =>
    refine splitK_join 43 k _ _ ?_ (by simpa using hk)
    intro y hy
    rw [← List.map_cons] at hy
    obtain ⟨p, hp, rfl⟩ := List.mem_map.1 hy
    exact wr_plus p (h3 p hp)

theorem wrs_count (l : List Fop) (h : okL l) : Lib.count (opsL l) [43] + 1 = l.length := by
  obtain ⟨h1, h2, h3⟩ := h
  cases l with
  | nil => simp at h1
  | cons o r =>
    show Lib.count (Lib.join (opL o :: r.map opL) [43]) [43] + 1 = _
    rw [count_join 43 (r.map opL) (opL o) ?_]
    · simp
    · intro y hy
      rw [← List.map_cons] at hy
      obtain ⟨p, hp, rfl⟩ := List.mem_map.1 hy
      exact wr_plus p (h3 p hp)

theorem wrs_length (l : List Fop) : l.length ≤ (opsL l).length + 1 := by
  cases l with
  | nil => simp
  | cons o r =>
    have := join_length_le 43 (r.map opL) (opL o)
    show _ ≤ (Lib.join (opL o :: r.map opL) [43]).length + 1
    simp at this ⊢; omega

/-- What was read of a text's words. -/
theorem fields_inj (o p : Fop) (ho : opB o = true) (hp : opB p = true) (h : fieldsL o = fieldsL p) : o = p := by
  obtain ⟨k1, k2, k3, k4, k5, k6⟩ := op_parts o ho
  obtain ⟨m1, m2, m3, m4, m5, m6⟩ := op_parts p hp
  unfold fieldsL at h
  simp only [List.cons.injEq, and_true] at h
  obtain ⟨h1, h2, h3, h4, h5, h6, h7⟩ := h
  have ti : ∀ a b : Int, -9223372036854775808 ≤ a → a ≤ 9223372036854775807 → -9223372036854775808 ≤ b → b ≤ 9223372036854775807 → Lib.itoa a = Lib.itoa b → a = b := by
    intro a b a1 a2 b1 b2 e
    have := atoi_itoa a a1 a2
    rw [e, atoi_itoa b b1 b2] at this
    injection this with this
    exact this.symm
  have tw : ∀ s t : ByteArray, WordOrNone s.data.toList → WordOrNone t.data.toList → dashL s.data.toList = dashL t.data.toList → s = t := by
    intro s t hs ht e
    have : s.data.toList = t.data.toList := by rw [← text_dash _ hs, ← text_dash _ ht, e]
    cases s; cases t
    simp only [ByteArray.mk.injEq]
    exact Array.toList_inj.1 this
  cases o; cases p
  simp only at *
  simp only [Fop.mk.injEq]
  exact ⟨ti _ _ (by omega) (by omega) (by omega) (by omega) h1, ti _ _ (by omega) (by omega) (by omega) (by omega) h2, tw _ _ k5 m5 h3, ti _ _ (by omega) (by omega) (by omega) (by omega) h4, ti _ _ (by omega) (by omega) (by omega) (by omega) h5, ti _ _ (by omega) (by omega) (by omega) (by omega) h6, tw _ _ k6 m6 h7⟩

theorem wr_inj (o p : Fop) (ho : opB o = true) (hp : opB p = true) (h : opL o = opL p) : o = p :=
  fields_inj o p ho hp (by rw [← split_wr o ho 6 (by omega), h, split_wr p hp 6 (by omega)])

theorem wrs_inj (l m : List Fop) (hl : okL l) (hm : okL m) (h : opsL l = opsL m) : l = m := by
  have e : l.map opL = m.map opL := by rw [← wrs_cut l hl 7 (by have := hl.2.1; omega), h, wrs_cut m hm 7 (by have := hm.2.1; omega)]
  have key : ∀ (l m : List Fop), (∀ o, o ∈ l → opB o = true) → (∀ o, o ∈ m → opB o = true) → l.map opL = m.map opL → l = m := by
    intro l
    induction l with
    | nil => intro m _ _ e; cases m with
      | nil => rfl
      | cons p m => simp at e
    | cons o l ih => intro m h1 h2 e; cases m with
      | nil => simp at e
      | cons p m =>
        simp only [List.map_cons, List.cons.injEq] at e
        rw [wr_inj o p (h1 o (by simp)) (h2 p (by simp)) e.1, ih m (fun q hq => h1 q (by simp [hq])) (fun q hq => h2 q (by simp [hq])) e.2]
  exact key l m hl.2.2 hm.2.2 e

theorem join_length (c : UInt8) (b : Nat) : ∀ (xs : List (List UInt8)), (∀ y, y ∈ xs → y.length ≤ b) → (Lib.join xs [c]).length ≤ xs.length * (b + 1)
  | [], _ => by simp [Lib.join_nil]
  | [x], h => by rw [Lib.join_one]; have := h x (by simp); simp; omega
  | x :: y :: r, h => by
    rw [join_two]
    have h1 := h x (by simp)
    have h2 := join_length c b (y :: r) (fun z hz => h z (by simp at hz ⊢; exact Or.inr hz))
    simp only [List.length_append, List.length_cons] at h2 ⊢
    have : (r.length + 1 + 1) * (b + 1) = (r.length + 1) * (b + 1) + (b + 1) := by rw [Nat.add_mul (r.length + 1) 1]; omega
    omega

theorem wr_length (o : Fop) (h : opB o = true) : (opL o).length ≤ 154 := by
  obtain ⟨k1, k2, k3, k4, k5, k6⟩ := op_parts o h
  have := join_length 32 21 (fieldsL o) ?_
  · simpa [opL, fieldsL] using this
  · intro y hy
    unfold fieldsL at hy
    simp only [List.mem_cons, List.not_mem_nil, or_false] at hy
    have d1 := dash_length _ k5
    have d2 := dash_length _ k6
    rcases hy with rfl | rfl | rfl | rfl | rfl | rfl | rfl
    · exact Lib.itoa_length_le _ (by omega) (by omega)
    · exact Lib.itoa_length_le _ (by omega) (by omega)
    · omega
    · exact Lib.itoa_length_le _ (by omega) (by omega)
    · exact Lib.itoa_length_le _ (by omega) (by omega)
    · exact Lib.itoa_length_le _ (by omega) (by omega)
    · omega

theorem wrs_length_le (l : List Fop) (h : ∀ o, o ∈ l → opB o = true) : (opsL l).length ≤ l.length * 155 := by
  have := join_length 43 154 (l.map opL) ?_
  · simpa [opsL] using this
  · intro y hy
    obtain ⟨p, hp, rfl⟩ := List.mem_map.1 hy
    exact wr_length p (h p hp)

end Go.Proofs.Ytfcmkaiocnelgaa
