/- Plain facts on lists of spans: what has the same times is the same; what a sorted list of ends makes. -/
namespace Go.Proofs.YtdjajnhiicfcaaaDoor.Palim

/-- One of the spans has a time. -/
def In (l : List (Int × Int)) (t : Int) : Prop := ∃ x, x ∈ l ∧ x.1 ≤ t ∧ t < x.2

/-- Spans that rise, none of which meets, or touches, another one. -/
def Canon : List (Int × Int) → Prop
  | [] => True
  | x :: l => x.1 < x.2 ∧ (∀ y, y ∈ l → x.2 < y.1) ∧ Canon l

theorem in_nil (t : Int) : ¬ In [] t := by
  rintro ⟨x, hx, _⟩; simp at hx

theorem in_cons (x : Int × Int) (l : List (Int × Int)) (t : Int) : In (x :: l) t ↔ (x.1 ≤ t ∧ t < x.2) ∨ In l t := by
  unfold In
  constructor
  · rintro ⟨y, hy, h1, h2⟩
    rcases List.mem_cons.1 hy with rfl | hy
    · exact Or.inl ⟨h1, h2⟩
    · exact Or.inr ⟨y, hy, h1, h2⟩
  · rintro (⟨h1, h2⟩ | ⟨y, hy, h1, h2⟩)
    · exact ⟨x, List.mem_cons_self, h1, h2⟩
    · exact ⟨y, List.mem_cons_of_mem _ hy, h1, h2⟩

theorem in_append (l m : List (Int × Int)) (t : Int) : In (l ++ m) t ↔ In l t ∨ In m t := by
  unfold In
  constructor
  · rintro ⟨y, hy, h1, h2⟩
    rcases List.mem_append.1 hy with hy | hy
    · exact Or.inl ⟨y, hy, h1, h2⟩
    · exact Or.inr ⟨y, hy, h1, h2⟩
  · rintro (⟨y, hy, h1, h2⟩ | ⟨y, hy, h1, h2⟩)
    · exact ⟨y, List.mem_append.2 (Or.inl hy), h1, h2⟩
    · exact ⟨y, List.mem_append.2 (Or.inr hy), h1, h2⟩

theorem canon_lt {l : List (Int × Int)} (h : Canon l) : ∀ x, x ∈ l → x.1 < x.2 := by
  induction l with
  | nil => intro x hx; simp at hx
  | cons y l ih =>
    intro x hx
    rcases List.mem_cons.1 hx with rfl | hx
    · exact h.1
    · exact ih h.2.2 x hx

/-- What has the same times is the same. -/
theorem canon_eq : ∀ (l m : List (Int × Int)), Canon l → Canon m → (∀ t, In l t ↔ In m t) → l = m
  | [], [], _, _, _ => rfl
  | [], y :: m, _, hm, h => by
      exfalso
      exact in_nil _ ((h y.1).2 ((in_cons _ _ _).2 (Or.inl ⟨Int.le_refl _, hm.1⟩)))
  | x :: l, [], hl, _, h => by
      exfalso
      exact in_nil _ ((h x.1).1 ((in_cons _ _ _).2 (Or.inl ⟨Int.le_refl _, hl.1⟩)))
  | x :: l, y :: m, hl, hm, h => by
      have fl : ∀ t, In l t → x.2 < t := by
        rintro t ⟨z, hz, h1, _⟩; have := hl.2.1 z hz; omega
      have fm : ∀ t, In m t → y.2 < t := by
        rintro t ⟨z, hz, h1, _⟩; have := hm.2.1 z hz; omega
      have hx := hl.1
      have hy := hm.1
      have k1 : x.1 = y.1 := by
        have a := (h x.1).1 ((in_cons _ _ _).2 (Or.inl ⟨Int.le_refl _, hx⟩))
        have b := (h y.1).2 ((in_cons _ _ _).2 (Or.inl ⟨Int.le_refl _, hy⟩))
        rw [in_cons] at a b
        rcases a with a | a
        · rcases b with b | b
          · omega
          · have := fl _ b; omega
        · have := fm _ a
          rcases b with b | b
          · omega
          · have := fl _ b; omega
      have k2 : x.2 = y.2 := by
        rcases Int.lt_trichotomy x.2 y.2 with g | g | g
        · exfalso
          have a := (h x.2).2 ((in_cons _ _ _).2 (Or.inl ⟨by omega, g⟩))
          rw [in_cons] at a
          rcases a with a | a
          · omega
          · have := fl _ a; omega
        · exact g
        · exfalso
          have a := (h y.2).1 ((in_cons _ _ _).2 (Or.inl ⟨by omega, g⟩))
          rw [in_cons] at a
          rcases a with a | a
          · omega
          · have := fm _ a; omega
      have e : x = y := Prod.ext k1 k2
      subst e
      rw [canon_eq l m hl.2.2 hm.2.2 ?_]
      intro t
      constructor
      · intro ht
        have a := (h t).1 ((in_cons _ _ _).2 (Or.inr ht))
        rw [in_cons] at a
        rcases a with a | a
        · have := fl _ ht; omega
        · exact a
      · intro ht
        have a := (h t).2 ((in_cons _ _ _).2 (Or.inr ht))
        rw [in_cons] at a
        rcases a with a | a
        · have := fm _ ht; omega
        · exact a

/-- What is still to come behind some ends: 'o': where the span that is open began. -/
def go (p : Int → Bool) : List Int → Option Int → List (Int × Int)
  | [], none => []
  | [], some f => [(f, 0)]
  | t :: ts, none => if p t then go p ts (some t) else go p ts none
  | t :: ts, some f => if p t then go p ts (some f) else (f, t) :: go p ts none

/-- Rising. -/
def Rises : List Int → Prop
  | [] => True
  | t :: ts => (∀ e, e ∈ ts → t ≤ e) ∧ Rises ts

/-- Between two times no end lies: both are so, or both not. -/
def Steps (p : Int → Bool) (c : Int) (ts : List Int) : Prop :=
  ∀ x y, c ≤ x → x ≤ y → (∀ e, e ∈ ts → ¬ (x < e ∧ e ≤ y)) → p x = p y

theorem Steps.tail {p : Int → Bool} {c t : Int} {ts : List Int} (h : Steps p c (t :: ts)) (hc : c ≤ t) : Steps p t ts := by
  intro x y h1 h2 h3
  refine h x y (by omega) h2 ?_
  intro e he
  rcases List.mem_cons.1 he with rfl | he
  · omega
  · exact h3 e he

theorem go_spec (p : Int → Bool) : ∀ (ts : List Int) (c : Int), Rises ts → (∀ e, e ∈ ts → c ≤ e) → Steps p c ts →
    (∀ x, c ≤ x → (∀ e, e ∈ ts → e ≤ x) → p x = false) →
    (p c = false → Canon (go p ts none) ∧ (∀ y, y ∈ go p ts none → c < y.1) ∧ (∀ t, c ≤ t → (In (go p ts none) t ↔ p t = true))) ∧
    (∀ f, f ≤ c → (∀ x, f ≤ x → x ≤ c → p x = true) → Canon (go p ts (some f)) ∧ (∀ y, y ∈ go p ts (some f) → f ≤ y.1) ∧ (∀ t, f ≤ t → (In (go p ts (some f)) t ↔ p t = true)))
  | [], c, _, _, hs, he => by
      have hf := he c (Int.le_refl _) (by intro e h; simp at h)
      refine ⟨fun h0 => ⟨trivial, by intro y hy; simp [go] at hy, fun t ht => ?_⟩, fun f h1 h2 => ?_⟩
      · have := hs c t (Int.le_refl _) ht (by intro e h; simp at h)
        rw [← this, h0]
        simp [go, in_nil]
      · have := h2 c h1 (Int.le_refl _)
        rw [hf] at this
        cases this
  | t :: ts, c, hr, hc, hs, he => by
      have hct := hc t List.mem_cons_self
      have ih := go_spec p ts t hr.2 hr.1 (hs.tail hct) (fun x h1 h2 => he x (by omega) (by
        intro e h
        rcases List.mem_cons.1 h with rfl | h
        · exact h1
        · exact h2 e h))
      have hbe : ∀ x, c ≤ x → x < t → p x = p c := by
        intro x h1 h2
        refine (hs c x (Int.le_refl _) h1 ?_).symm
        intro e h
        rcases List.mem_cons.1 h with rfl | h
        · omega
        · have := hr.1 e h; omega
      constructor
      · intro h0
        cases hp : p t with
        | false =>
          obtain ⟨g1, g2, g3⟩ := ih.1 hp
          have eg : go p (t :: ts) none = go p ts none := by simp [go, hp]
          rw [eg]
          refine ⟨g1, fun y hy => by have := g2 y hy; omega, fun x hx => ?_⟩
          by_cases hxt : x < t
          · rw [hbe x hx hxt, h0]
            constructor
            · rintro ⟨z, hz, a, _⟩; have := g2 z hz; omega
            · intro h; cases h
          · exact g3 x (by omega)
        | true =>
          obtain ⟨g1, g2, g3⟩ := ih.2 t (Int.le_refl _) (fun x a b => by rw [show x = t by omega]; exact hp)
          have eg : go p (t :: ts) none = go p ts (some t) := by simp [go, hp]
          rw [eg]
          have hne : c ≠ t := by intro h; rw [h, hp] at h0; cases h0
          refine ⟨g1, fun y hy => by have := g2 y hy; omega, fun x hx => ?_⟩
          by_cases hxt : x < t
          · rw [hbe x hx hxt, h0]
            constructor
            · rintro ⟨z, hz, a, _⟩; have := g2 z hz; omega
            · intro h; cases h
          · exact g3 x (by omega)
      · intro f hf hall
        have hpc := hall c hf (Int.le_refl _)
        cases hp : p t with
        | true =>
          obtain ⟨g1, g2, g3⟩ := ih.2 f (by omega) (fun x a b => by
            by_cases h : x ≤ c
            · exact hall x a h
            · by_cases h2 : x < t
              · rw [hbe x (by omega) h2]; exact hpc
              · rw [show x = t by omega]; exact hp)
          have eg : go p (t :: ts) (some f) = go p ts (some f) := by simp [go, hp]
          rw [eg]
          exact ⟨g1, g2, g3⟩
        | false =>
          obtain ⟨g1, g2, g3⟩ := ih.1 hp
          have eg : go p (t :: ts) (some f) = (f, t) :: go p ts none := by simp [go, hp]
          rw [eg]
          have hne : c ≠ t := by intro h; rw [h, hp] at hpc; cases hpc
          refine ⟨⟨by show f < t; omega, fun y hy => g2 y hy, g1⟩, ?_, ?_⟩
          · intro y hy
            rcases List.mem_cons.1 hy with rfl | hy
            · exact Int.le_refl _
            · have := g2 y hy; omega
          · intro x hx
            rw [in_cons]
            by_cases hxt : x < t
            · have : p x = true := by
                by_cases h : x ≤ c
                · exact hall x hx h
                · rw [hbe x (by omega) hxt]; exact hpc
              rw [this]
              simp
              left; exact ⟨hx, hxt⟩
            · rw [g3 x (by omega)]
              constructor
              · rintro (⟨_, h⟩ | h)
                · exact absurd h hxt
                · exact h
              · intro h; exact Or.inr h

/-- All of it: sorted ends, and whether times are so, which turns at ends alone, and is not so ahead of all of them or behind all of them. -/
theorem go_all (p : Int → Bool) (ts : List Int) (hr : Rises ts)
    (hs : ∀ x y, x ≤ y → (∀ e, e ∈ ts → ¬ (x < e ∧ e ≤ y)) → p x = p y)
    (hlo : ∀ x, (∀ e, e ∈ ts → x < e) → p x = false) (hhi : ∀ x, (∀ e, e ∈ ts → e ≤ x) → p x = false) :
    Canon (go p ts none) ∧ ∀ t, In (go p ts none) t ↔ p t = true := by
  have hc : ∃ c, ∀ e, e ∈ ts → c < e := by
    cases ts with
    | nil => exact ⟨0, by intro e h; simp at h⟩
    | cons t ts =>
      refine ⟨t - 1, ?_⟩
      intro e h
      rcases List.mem_cons.1 h with rfl | h
      · omega
      · have := hr.1 e h; omega
  obtain ⟨c, hc⟩ := hc
  obtain ⟨g1, g2, g3⟩ := (go_spec p ts c hr (fun e h => by have := hc e h; omega) (fun x y _ h2 h3 => hs x y h2 h3) (fun x _ h => hhi x h)).1 (hlo c hc)
  refine ⟨g1, fun t => ?_⟩
  by_cases h : c ≤ t
  · exact g3 t h
  · rw [hlo t (fun e he => by have := hc e he; omega)]
    constructor
    · rintro ⟨z, hz, a, _⟩; have := g2 z hz; omega
    · intro h; cases h

end Go.Proofs.YtdjajnhiicfcaaaDoor.Palim
