/- Plain facts on going through the sides of two sets at once, and on making one of spans that meet or touch. -/
import Derived.Test.YtdjajnhiicfcaaaDoorEnds
namespace Go.Proofs.YtdjajnhiicfcaaaDoor
open Palim

/-- Strictly rising. -/
def SRises : List Int → Prop
  | [] => True
  | t :: ts => (∀ e, e ∈ ts → t < e) ∧ SRises ts

theorem SRises.rises {ts : List Int} (h : SRises ts) : Rises ts := by
  induction ts with
  | nil => trivial
  | cons t ts ih => exact ⟨fun e he => by have := h.1 e he; omega, ih h.2⟩

def insertS (x : Int) : List Int → List Int
  | [] => [x]
  | t :: ts => if x < t then x :: t :: ts else if x = t then t :: ts else t :: insertS x ts

theorem mem_insertS (x e : Int) (ts : List Int) : e ∈ insertS x ts ↔ e = x ∨ e ∈ ts := by
  induction ts with
  | nil => simp [insertS]
  | cons t ts ih =>
    unfold insertS
    by_cases h1 : x < t
    · rw [if_pos h1]; simp
    · rw [if_neg h1]
      by_cases h2 : x = t
      · rw [if_pos h2]; subst h2; simp
      · rw [if_neg h2]
        simp only [List.mem_cons, ih]
        constructor
        · rintro (h | h | h)
          · exact Or.inr (Or.inl h)
          · exact Or.inl h
          · exact Or.inr (Or.inr h)
        · rintro (h | h | h)
          · exact Or.inr (Or.inl h)
          · exact Or.inl h
          · exact Or.inr (Or.inr h)

theorem srises_insertS (x : Int) (ts : List Int) (h : SRises ts) : SRises (insertS x ts) := by
  induction ts with
  | nil => exact ⟨by simp, trivial⟩
  | cons t ts ih =>
    unfold insertS
    by_cases h1 : x < t
    · rw [if_pos h1]
      refine ⟨?_, h⟩
      intro e he
      rcases List.mem_cons.1 he with rfl | he
      · exact h1
      · have := h.1 e he; omega
    · rw [if_neg h1]
      by_cases h2 : x = t
      · rw [if_pos h2]; exact h
      · rw [if_neg h2]
        refine ⟨?_, ih h.2⟩
        intro e he
        rcases (mem_insertS x e ts).1 he with rfl | he
        · omega
        · exact h.1 e he

theorem exists_srises (l : List Int) : ∃ ts, SRises ts ∧ ∀ e, e ∈ ts ↔ e ∈ l := by
  induction l with
  | nil => exact ⟨[], trivial, by simp⟩
  | cons x l ih =>
    obtain ⟨ts, h1, h2⟩ := ih
    exact ⟨insertS x ts, srises_insertS x ts h1, fun e => by rw [mem_insertS, h2]; simp⟩

theorem mem_sides (l : List (Int × Int)) (e : Int) : e ∈ sides l ↔ ∃ x, x ∈ l ∧ (e = x.1 ∨ e = x.2) := by
  induction l with
  | nil => simp [sides]
  | cons y l ih =>
    simp only [sides, List.mem_cons, ih]
    constructor
    · rintro (h | h | ⟨x, hx, h⟩)
      · exact ⟨y, Or.inl rfl, Or.inl h⟩
      · exact ⟨y, Or.inl rfl, Or.inr h⟩
      · exact ⟨x, Or.inr hx, h⟩
    · rintro ⟨x, rfl | hx, h⟩
      · rcases h with h | h
        · exact Or.inl h
        · exact Or.inr (Or.inl h)
      · exact Or.inr (Or.inr ⟨x, hx, h⟩)

theorem srises_sides {l : List (Int × Int)} (h : Canon l) : SRises (sides l) := by
  induction l with
  | nil => trivial
  | cons x l ih =>
    have hb : ∀ e, e ∈ sides l → x.2 < e := by
      intro e he
      obtain ⟨y, hy, h1⟩ := (mem_sides l e).1 he
      have h2 := h.2.1 y hy
      have h3 := canon_lt h.2.2 y hy
      rcases h1 with rfl | rfl <;> omega
    refine ⟨?_, hb, ih h.2.2⟩
    intro e he
    have h1 := h.1
    rcases List.mem_cons.1 he with rfl | he
    · exact h1
    · have := hb e he; omega

/-- Behind an odd count of sides one is inside a span. -/
theorem in_iff_odd {l : List (Int × Int)} (h : Canon l) : ∀ (i : Nat) (t : Int), i ≤ (sides l).length → (∀ x, x ∈ (sides l).take i → x ≤ t) → (∀ x, x ∈ (sides l).drop i → t < x) → (In l t ↔ i % 2 = 1) := by
  induction l with
  | nil =>
    intro i t hi _ _
    have : i = 0 := by simpa [sides] using hi
    subst this
    simp [in_nil]
  | cons y l ih =>
    intro i t hi h1 h2
    rw [in_cons]
    have hy := h.1
    have later : ∀ e, In l e → y.2 < e := by
      rintro e ⟨z, hz, a, _⟩; have := h.2.1 z hz; omega
    match i with
    | 0 =>
      have a := h2 y.1 (by simp [sides])
      have b := h2 y.2 (by simp [sides])
      constructor
      · rintro (k | k)
        · omega
        · have := later t k; omega
      · intro k; omega
    | 1 =>
      have a := h1 y.1 (by simp [sides])
      have b := h2 y.2 (by simp [sides])
      constructor
      · intro _; rfl
      · intro _; exact Or.inl ⟨a, b⟩
    | i + 2 =>
      have b := h1 y.2 (by simp [sides])
      have := ih h.2.2 i t (by simp [sides] at hi; omega) (fun x hx => h1 x (by simp [sides, hx])) (fun x hx => h2 x (by simpa [sides] using hx))
      rw [this]
      constructor
      · rintro (k | k) <;> omega
      · intro k; exact Or.inr (by omega)

/-- Where one stands in going through the sides of two sets. -/
def SInv (A B : List Int) (k : Bool → Bool → Bool) (p : Int → Bool) (R : List (Int × Int)) (i j : Nat) (done : List (Int × Int)) (o : Option Int) : Prop :=
  i ≤ A.length ∧ j ≤ B.length ∧ (∃ c, (∀ x, x ∈ A.take i → x ≤ c) ∧ (∀ x, x ∈ A.drop i → c < x) ∧ (∀ x, x ∈ B.take j → x ≤ c) ∧ (∀ x, x ∈ B.drop j → c < x)) ∧
  o.isSome = k (i % 2 == 1) (j % 2 == 1) ∧ ∃ ts, SRises ts ∧ (∀ e, e ∈ ts ↔ e ∈ A.drop i ∨ e ∈ B.drop j) ∧ done ++ go p ts o = R

/-- What becomes of the open span at a time. -/
def openAt (now : Bool) (o : Option Int) (t : Int) : Option Int := if now then (match o with | some f => some f | none => some t) else none
def doneAt (now : Bool) (o : Option Int) (t : Int) (done : List (Int × Int)) : List (Int × Int) := match o with | some f => if now then done else done ++ [(f, t)] | none => done

theorem go_cons (p : Int → Bool) (t : Int) (ts : List Int) (o : Option Int) (done : List (Int × Int)) : done ++ go p (t :: ts) o = doneAt (p t) o t done ++ go p ts (openAt (p t) o t) := by
  cases h : p t <;> cases o <;> simp [go, h, doneAt, openAt]

/-- The head of what is left of a strictly rising list: it, and what is greater. -/
theorem drop_step (A : List Int) (hA : SRises A) (i : Nat) (hi : i < A.length) : (∀ x, x ∈ A.drop i ↔ x = A[i] ∨ x ∈ A.drop (i + 1)) ∧ (∀ x, x ∈ A.drop (i + 1) → A[i] < x) ∧ (∀ x, x ∈ A.take (i + 1) ↔ x ∈ A.take i ∨ x = A[i]) := by
  refine ⟨?_, ?_, ?_⟩
  · intro x
    have e := List.drop_eq_getElem_cons hi
    constructor
    · intro h; rw [e] at h; exact List.mem_cons.1 h
    · intro h; rw [e]; exact List.mem_cons.2 h
  · induction A generalizing i with
    | nil => simp at hi
    | cons a A ih =>
      cases i with
      | zero => intro x hx; exact hA.1 x (by simpa using hx)
      | succ i => intro x hx; exact ih hA.2 i (by simpa using hi) x (by simpa using hx)
  · intro x
    have e := List.take_succ_eq_append_getElem hi
    constructor
    · intro h
      rw [e] at h
      rcases List.mem_append.1 h with a | a
      · exact Or.inl a
      · exact Or.inr (List.mem_singleton.1 a)
    · intro h
      rw [e]
      rcases h with a | a
      · exact List.mem_append.2 (Or.inl a)
      · exact List.mem_append.2 (Or.inr (List.mem_singleton.2 a))

theorem sinv_step {A B : List Int} {k : Bool → Bool → Bool} {p : Int → Bool} {R : List (Int × Int)} {i j : Nat} {done : List (Int × Int)} {o : Option Int} (hA : SRises A) (hB : SRises B)
    (hp : ∀ i j t, i ≤ A.length → j ≤ B.length → (∀ x, x ∈ A.take i → x ≤ t) → (∀ x, x ∈ A.drop i → t < x) → (∀ x, x ∈ B.take j → x ≤ t) → (∀ x, x ∈ B.drop j → t < x) → p t = k (i % 2 == 1) (j % 2 == 1))
    (h : SInv A B k p R i j done o) (t : Int) (i' j' : Nat)
    (hi : (i < A.length ∧ A[i]? = some t ∧ i' = i + 1) ∨ (i' = i ∧ ∀ x, x ∈ A.drop i → t < x))
    (hj : (j < B.length ∧ B[j]? = some t ∧ j' = j + 1) ∨ (j' = j ∧ ∀ x, x ∈ B.drop j → t < x))
    (hsome : i' ≠ i ∨ j' ≠ j) :
    SInv A B k p R i' j' (doneAt (k (i' % 2 == 1) (j' % 2 == 1)) o t done) (openAt (k (i' % 2 == 1) (j' % 2 == 1)) o t) := by
  obtain ⟨hiA, hjB, ⟨c, c1, c2, c3, c4⟩, ho, ts, t1, t2, t3⟩ := h
  have fA : i' ≤ A.length ∧ (∀ x, x ∈ A.drop i ↔ (i' ≠ i ∧ x = t) ∨ x ∈ A.drop i') ∧ (∀ x, x ∈ A.drop i' → t < x) ∧ (∀ x, x ∈ A.take i' → x ≤ c ∨ x = t) := by
    rcases hi with ⟨h1, h2, h3⟩ | ⟨h1, h2⟩
    · have d := drop_step A hA i h1
      have e : A[i] = t := by rw [List.getElem?_eq_getElem h1] at h2; exact Option.some.inj h2
      rw [e] at d
      subst h3
      refine ⟨by omega, fun x => ?_, d.2.1, fun x hx => ?_⟩
      · rw [d.1 x]
        constructor
        · rintro (a | a)
          · exact Or.inl ⟨by omega, a⟩
          · exact Or.inr a
        · rintro (⟨_, a⟩ | a)
          · exact Or.inl a
          · exact Or.inr a
      · rcases (d.2.2 x).1 hx with a | a
        · exact Or.inl (c1 x a)
        · exact Or.inr a
    · subst h1
      refine ⟨hiA, fun x => ?_, h2, fun x hx => Or.inl (c1 x hx)⟩
      constructor
      · intro a; exact Or.inr a
      · rintro (⟨a, _⟩ | a)
        · exact absurd rfl a
        · exact a
  have fB : j' ≤ B.length ∧ (∀ x, x ∈ B.drop j ↔ (j' ≠ j ∧ x = t) ∨ x ∈ B.drop j') ∧ (∀ x, x ∈ B.drop j' → t < x) ∧ (∀ x, x ∈ B.take j' → x ≤ c ∨ x = t) := by
    rcases hj with ⟨h1, h2, h3⟩ | ⟨h1, h2⟩
    · have d := drop_step B hB j h1
      have e : B[j] = t := by rw [List.getElem?_eq_getElem h1] at h2; exact Option.some.inj h2
      rw [e] at d
      subst h3
      refine ⟨by omega, fun x => ?_, d.2.1, fun x hx => ?_⟩
      · rw [d.1 x]
        constructor
        · rintro (a | a)
          · exact Or.inl ⟨by omega, a⟩
          · exact Or.inr a
        · rintro (⟨_, a⟩ | a)
          · exact Or.inl a
          · exact Or.inr a
      · rcases (d.2.2 x).1 hx with a | a
        · exact Or.inl (c3 x a)
        · exact Or.inr a
    · subst h1
      refine ⟨hjB, fun x => ?_, h2, fun x hx => Or.inl (c3 x hx)⟩
      constructor
      · intro a; exact Or.inr a
      · rintro (⟨a, _⟩ | a)
        · exact absurd rfl a
        · exact a
  -- t is among what was left
  have hct : c < t := by
    rcases hsome with h | h
    · exact c2 t ((fA.2.1 t).2 (Or.inl ⟨h, rfl⟩))
    · exact c4 t ((fB.2.1 t).2 (Or.inl ⟨h, rfl⟩))
  have htm : t ∈ ts := by
    rw [t2]
    rcases hsome with h | h
    · exact Or.inl ((fA.2.1 t).2 (Or.inl ⟨h, rfl⟩))
    · exact Or.inr ((fB.2.1 t).2 (Or.inl ⟨h, rfl⟩))
  have hge : ∀ e, e ∈ ts → t ≤ e := by
    intro e he
    rcases (t2 e).1 he with a | a
    · rcases (fA.2.1 e).1 a with ⟨_, b⟩ | b
      · omega
      · have := fA.2.2.1 e b; omega
    · rcases (fB.2.1 e).1 a with ⟨_, b⟩ | b
      · omega
      · have := fB.2.2.1 e b; omega
  have a1 : ∀ x, x ∈ A.take i' → x ≤ t := fun x hx => by rcases fA.2.2.2 x hx with a | a <;> omega
  have b1 : ∀ x, x ∈ B.take j' → x ≤ t := fun x hx => by rcases fB.2.2.2 x hx with a | a <;> omega
  have hpt := hp i' j' t fA.1 fB.1 a1 fA.2.2.1 b1 fB.2.2.1
  cases ts with
  | nil => simp at htm
  | cons u us =>
    have hu : u = t := by
      have x1 := hge u List.mem_cons_self
      rcases List.mem_cons.1 htm with x2 | x2
      · exact x2.symm
      · have := t1.1 t x2; omega
    subst hu
    refine ⟨fA.1, fB.1, ⟨u, a1, fA.2.2.1, b1, fB.2.2.1⟩, ?_, us, t1.2, ?_, ?_⟩
    · cases k (i' % 2 == 1) (j' % 2 == 1) <;> cases o <;> rfl
    · intro e
      constructor
      · intro he
        have hlt := t1.1 e he
        rcases (t2 e).1 (List.mem_cons_of_mem _ he) with a | a
        · rcases (fA.2.1 e).1 a with ⟨_, b⟩ | b
          · omega
          · exact Or.inl b
        · rcases (fB.2.1 e).1 a with ⟨_, b⟩ | b
          · omega
          · exact Or.inr b
      · intro he
        have hlt : u < e := by
          rcases he with a | a
          · exact fA.2.2.1 e a
          · exact fB.2.2.1 e a
        have : e ∈ u :: us := (t2 e).2 (by
          rcases he with a | a
          · exact Or.inl ((fA.2.1 e).2 (Or.inr a))
          · exact Or.inr ((fB.2.1 e).2 (Or.inr a)))
        rcases List.mem_cons.1 this with b | b
        · omega
        · exact b
    · rw [← t3, go_cons p u us o done, hpt]

theorem sinv_end {A B : List Int} {k : Bool → Bool → Bool} {p : Int → Bool} {R : List (Int × Int)} {i j : Nat} {done : List (Int × Int)} {o : Option Int} (hk : k false false = false) (hA : A.length % 2 = 0) (hB : B.length % 2 = 0)
    (h : SInv A B k p R i j done o) (hi : i = A.length) (hj : j = B.length) : done = R := by
  obtain ⟨_, _, _, ho, ts, _, t2, t3⟩ := h
  subst hi hj
  have : ts = [] := by
    cases ts with
    | nil => rfl
    | cons t ts => have := (t2 t).1 List.mem_cons_self; simp at this
  subst this
  rw [hA, hB] at ho
  have : o = none := by cases o <;> simp [hk] at ho ⊢
  subst this
  simpa [go] using t3

/-- Whether any of some spans has a time. -/
def inL (l : List (Int × Int)) (t : Int) : Bool := l.any fun x => decide (x.1 ≤ t ∧ t < x.2)

theorem inL_iff (l : List (Int × Int)) (t : Int) : inL l t = true ↔ In l t := by
  simp [inL, In]

theorem inL_odd {l : List (Int × Int)} (h : Canon l) (i : Nat) (t : Int) (hi : i ≤ (sides l).length) (h1 : ∀ x, x ∈ (sides l).take i → x ≤ t) (h2 : ∀ x, x ∈ (sides l).drop i → t < x) : inL l t = (i % 2 == 1) := by
  have a := in_iff_odd h i t hi h1 h2
  rw [Bool.eq_iff_iff, inL_iff, a]; simp

theorem inL_steps (l : List (Int × Int)) (x y : Int) (h : x ≤ y) (hn : ∀ e, e ∈ sides l → ¬ (x < e ∧ e ≤ y)) : inL l x = inL l y := by
  rw [Bool.eq_iff_iff, inL_iff, inL_iff]
  unfold In
  constructor
  · rintro ⟨z, hz, a, b⟩
    have h1 := hn z.1 ((mem_sides l _).2 ⟨z, hz, Or.inl rfl⟩)
    have h2 := hn z.2 ((mem_sides l _).2 ⟨z, hz, Or.inr rfl⟩)
    exact ⟨z, hz, by omega, by omega⟩
  · rintro ⟨z, hz, a, b⟩
    have h1 := hn z.1 ((mem_sides l _).2 ⟨z, hz, Or.inl rfl⟩)
    have h2 := hn z.2 ((mem_sides l _).2 ⟨z, hz, Or.inr rfl⟩)
    exact ⟨z, hz, by omega, by omega⟩

theorem inL_low (l : List (Int × Int)) (x : Int) (h : ∀ e, e ∈ sides l → x < e) : inL l x = false := by
  rw [Bool.eq_false_iff]
  intro k
  obtain ⟨z, hz, a, b⟩ := (inL_iff l x).1 k
  have := h z.1 ((mem_sides l _).2 ⟨z, hz, Or.inl rfl⟩)
  omega
theorem inL_high (l : List (Int × Int)) (x : Int) (h : ∀ e, e ∈ sides l → e ≤ x) : inL l x = false := by
  rw [Bool.eq_false_iff]
  intro k
  obtain ⟨z, hz, a, b⟩ := (inL_iff l x).1 k
  have := h z.2 ((mem_sides l _).2 ⟨z, hz, Or.inr rfl⟩)
  omega

/-- How it begins. -/
theorem sinv_start (a b : List (Int × Int)) (k : Bool → Bool → Bool) (hk : k false false = false) :
    ∃ R, Canon R ∧ (∀ t, In R t ↔ k (inL a t) (inL b t) = true) ∧ SInv (sides a) (sides b) k (fun t => k (inL a t) (inL b t)) R 0 0 [] none := by
  obtain ⟨ts, h1, h2⟩ := exists_srises (sides a ++ sides b)
  have g := go_all (fun t => k (inL a t) (inL b t)) ts h1.rises
    (fun x y hxy hn => by
      show k (inL a x) (inL b x) = k (inL a y) (inL b y)
      rw [inL_steps a x y hxy (fun e he => hn e ((h2 e).2 (List.mem_append.2 (Or.inl he)))), inL_steps b x y hxy (fun e he => hn e ((h2 e).2 (List.mem_append.2 (Or.inr he))))])
    (fun x hn => by
      show k (inL a x) (inL b x) = false
      rw [inL_low a x (fun e he => hn e ((h2 e).2 (List.mem_append.2 (Or.inl he)))), inL_low b x (fun e he => hn e ((h2 e).2 (List.mem_append.2 (Or.inr he)))), hk])
    (fun x hn => by
      show k (inL a x) (inL b x) = false
      rw [inL_high a x (fun e he => hn e ((h2 e).2 (List.mem_append.2 (Or.inl he)))), inL_high b x (fun e he => hn e ((h2 e).2 (List.mem_append.2 (Or.inr he)))), hk])
  refine ⟨go _ ts none, g.1, g.2, Nat.zero_le _, Nat.zero_le _, ?_, ?_, ts, h1, ?_, rfl⟩
  · have hc : ∃ c, ∀ e, e ∈ ts → c < e := by
      cases ts with
      | nil => exact ⟨0, by simp⟩
      | cons t ts =>
        refine ⟨t - 1, fun e he => ?_⟩
        rcases List.mem_cons.1 he with rfl | he
        · omega
        · have := h1.1 e he; omega
    obtain ⟨c, hc⟩ := hc
    exact ⟨c, by simp, fun x hx => hc x ((h2 x).2 (List.mem_append.2 (Or.inl (by simpa using hx)))), by simp, fun x hx => hc x ((h2 x).2 (List.mem_append.2 (Or.inr (by simpa using hx))))⟩
  · simp [hk]
  · intro e; rw [h2]; simp

end Go.Proofs.YtdjajnhiicfcaaaDoor
