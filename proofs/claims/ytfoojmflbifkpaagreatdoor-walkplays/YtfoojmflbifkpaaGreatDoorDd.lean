/- Texts of one proof, one behind the other. -/
import Derived.Test.YtfoojmflbifkpaaGreatDoorDb
import Derived.Test.YtfoojmflbifkpaaGreatDoorCo

/- The least of the shortest ways: plain. -/
namespace Go.Proofs.YtfoojmflbifkpaaGreatDoor
def Lx (par : Int → Int) : Nat → Int → Int → Prop
  | 0, _, _ => False
  | i + 1, b, c => Lx par i (par b) (par c) ∨ (par b = par c ∧ b < c)
theorem lx_irr (par : Int → Int) : ∀ i b, ¬ Lx par i b b
  | 0, _, h => h
  | i + 1, b, h => by
    rcases h with h | ⟨_, h⟩
    · exact lx_irr par i _ h
    · omega
theorem lx_trans (par : Int → Int) : ∀ i a b c, Lx par i a b → Lx par i b c → Lx par i a c
  | 0, _, _, _, h, _ => h
  | i + 1, a, b, c, h, k => by
    rcases h with h | ⟨e, h⟩
    · rcases k with k | ⟨f, k⟩
      · exact .inl (lx_trans par i _ _ _ h k)
      · exact .inl (by rw [← f]; exact h)
    · rcases k with k | ⟨f, k⟩
      · exact .inl (by rw [e]; exact k)
      · exact .inr ⟨e.trans f, by omega⟩
theorem visit_sub (a b : Int) (st : List (Int × Int) × List Int) (p : Int × Int) (h : p ∈ st.1) : p ∈ (visit a st b).1 := by
  unfold visit
  split
  · exact h
  · exact List.mem_append_left _ h
theorem fold_sub (a : Int) : ∀ (l : List Int) (st : List (Int × Int) × List Int) (p : Int × Int), p ∈ st.1 → p ∈ (l.foldl (visit a) st).1
  | [], _, _, h => h
  | b :: l, st, p, h => fold_sub a l _ p (visit_sub a b st p h)
theorem visits_sub (nx : Int → List Int) : ∀ (l : List Int) (st : List (Int × Int) × List Int) (p : Int × Int), p ∈ st.1 → p ∈ (l.foldl (visits nx) st).1
  | [], _, _, h => h
  | a :: l, st, p, h => visits_sub nx l _ p (fold_sub a (nx a) st p h)
structure RgJ (nx : Int → List Int) (par : Int → Int) (i : Nat) (R pre : List Int) (a : Int) (q : List Int) (st : List (Int × Int) × List Int) : Prop where
  ord : st.2.Pairwise (Lx par (i + 1))
  fst : ∀ b, b ∈ st.2 → ∀ a', a' ∈ R → b ∈ nx a' → par b = a' ∨ Lx par i (par b) a'
  all : ∀ a', a' ∈ pre → ∀ b, b ∈ nx a' → b ∈ st.1.map (·.1)
  src : ∀ b, b ∈ st.2 → par b ∈ pre ∨ (par b = a ∧ b ∈ q)
  here : ∀ b, b ∈ q → b ∈ st.1.map (·.1)
  sub : ∀ b, b ∈ st.2 → b ∈ st.1.map (·.1)
theorem rg_inner {nx : Int → List Int} {par : Int → Int} {i : Nat} {R pre post : List Int} {a : Int} (hR : R = pre ++ a :: post) (ho : R.Pairwise (Lx par i)) (hs : (nx a).Pairwise (· ≤ ·)) : ∀ (l q : List Int) (st : List (Int × Int) × List Int), nx a = q ++ l → RgJ nx par i R pre a q st → (∀ p, p ∈ (l.foldl (visit a) st).1 → par p.1 = p.2) → RgJ nx par i R pre a (q ++ l) (l.foldl (visit a) st)
  | [], q, st, _, h, _ => by rw [List.append_nil]; exact h
  | b :: l, q, st, e, h, hp => by
    have e' : nx a = (q ++ [b]) ++ l := by rw [e, List.append_assoc]; rfl
    have hx : RgJ nx par i R pre a (q ++ [b]) (visit a st b) := by
      by_cases hb : b ∈ st.1.map (·.1)
      · have ev : visit a st b = st := by unfold visit; rw [if_pos hb]
        rw [ev]
        exact ⟨h.ord, h.fst, h.all, fun c hc => by
          rcases h.src c hc with k | ⟨k1, k2⟩
          · exact .inl k
          · exact .inr ⟨k1, List.mem_append_left _ k2⟩, fun c hc => by
          rcases List.mem_append.1 hc with k | k
          · exact h.here c k
          · obtain rfl := List.mem_singleton.1 k
            exact hb, h.sub⟩
      · have ev : visit a st b = (st.1 ++ [(b, a)], st.2 ++ [b]) := by unfold visit; rw [if_neg hb]
        have hpb : par b = a := hp (b, a) (by
          show (b, a) ∈ (l.foldl (visit a) (visit a st b)).1
          exact fold_sub a l _ _ (by rw [ev]; exact List.mem_append_right _ (List.mem_singleton.2 rfl)))
        rw [hR] at ho
        obtain ⟨_, ho2, ho3⟩ := List.pairwise_append.1 ho
        have ho4 := (List.pairwise_cons.1 ho2).1
        rw [ev]
        refine ⟨?_, fun c hc a' ha' hn => ?_, fun a' ha' c hc => ?_, fun c hc => ?_, fun c hc => ?_, fun c hc => ?_⟩
        · refine List.pairwise_append.2 ⟨h.ord, List.pairwise_singleton _ _, fun c hc d hd => ?_⟩
          obtain rfl := List.mem_singleton.1 hd
          rcases h.src c hc with k | ⟨k1, k2⟩
          · exact .inl (by rw [hpb]; exact ho3 _ k a (List.mem_cons_self))
          · refine .inr ⟨by rw [k1, hpb], ?_⟩
            rw [e] at hs
            have hle := (List.pairwise_append.1 hs).2.2 c k2 d (List.mem_cons_self)
            have hne : c ≠ d := fun q => hb (by rw [← q]; exact h.sub c hc)
            omega
        · rcases List.mem_append.1 hc with k | k
          · exact h.fst c k a' ha' hn
          · obtain rfl := List.mem_singleton.1 k
            rw [hR] at ha'
            rcases List.mem_append.1 ha' with k | k
            · exact absurd (h.all a' k c hn) hb
            · rcases List.mem_cons.1 k with rfl | k
              · exact .inl hpb
              · exact .inr (by rw [hpb]; exact ho4 a' k)
        · have := h.all a' ha' c hc
          simp only [List.map_append, List.mem_append]
          exact .inl this
        · rcases List.mem_append.1 hc with k | k
          · rcases h.src c k with k | ⟨k1, k2⟩
            · exact .inl k
            · exact .inr ⟨k1, List.mem_append_left _ k2⟩
          · obtain rfl := List.mem_singleton.1 k
            exact .inr ⟨hpb, List.mem_append_right _ (List.mem_singleton.2 rfl)⟩
        · simp only [List.map_append, List.mem_append]
          rcases List.mem_append.1 hc with k | k
          · exact .inl (h.here c k)
          · obtain rfl := List.mem_singleton.1 k
            exact .inr (by simp)
        · simp only [List.map_append, List.mem_append]
          rcases List.mem_append.1 hc with k | k
          · exact .inl (h.sub c k)
          · obtain rfl := List.mem_singleton.1 k
            exact .inr (by simp)
    have := rg_inner hR ho hs l (q ++ [b]) (visit a st b) e' hx hp
    rw [List.append_assoc] at this
    exact this
theorem rg_outer {nx : Int → List Int} {par : Int → Int} {i : Nat} {R : List Int} (ho : R.Pairwise (Lx par i)) (hs : ∀ a, (nx a).Pairwise (· ≤ ·)) (z : Int) : ∀ (post pre : List Int) (st : List (Int × Int) × List Int), R = pre ++ post → RgJ nx par i R pre z [] st → (∀ p, p ∈ (post.foldl (visits nx) st).1 → par p.1 = p.2) → RgJ nx par i R R z [] (post.foldl (visits nx) st)
  | [], pre, st, e, h, _ => by rw [List.append_nil] at e; rw [← e] at h; exact h
  | a :: post, pre, st, e, h, hp => by
    have h0 : RgJ nx par i R pre a [] st := by
      refine ⟨h.ord, h.fst, h.all, fun b hb => ?_, fun b hb => (by cases hb), h.sub⟩
      rcases h.src b hb with k | ⟨_, k⟩
      · exact .inl k
      · cases k
    have h1 := rg_inner e ho (hs a) (nx a) [] st rfl h0 (fun p k => hp p (visits_sub nx post _ p k))
    rw [List.nil_append] at h1
    have h2 : RgJ nx par i R (pre ++ [a]) z [] ((nx a).foldl (visit a) st) := by
      refine ⟨h1.ord, h1.fst, fun a' ha' b hb => ?_, fun b hb => ?_, fun b hb => (by cases hb), h1.sub⟩
      · rcases List.mem_append.1 ha' with k | k
        · exact h1.all a' k b hb
        · obtain rfl := List.mem_singleton.1 k
          exact h1.here b hb
      · rcases h1.src b hb with k | ⟨k, _⟩
        · exact .inl (List.mem_append_left _ k)
        · exact .inl (List.mem_append_right _ (by rw [k]; exact List.mem_singleton.2 rfl))
    exact rg_outer ho hs z post (pre ++ [a]) _ (by rw [e, List.append_assoc]; rfl) h2 hp
theorem ring_lx {nx : Int → List Int} {n : Int} {par : Int → Int} (hs : ∀ a, (nx a).Pairwise (· ≤ ·)) (hp : ∀ i p, p ∈ (rounds nx n i).1 → par p.1 = p.2) : ∀ i, (rounds nx n i).2.Pairwise (Lx par i) ∧ ∀ b, b ∈ (rounds nx n (i + 1)).2 → ∀ a, a ∈ (rounds nx n i).2 → b ∈ nx a → par b = a ∨ Lx par i (par b) a := by
  have key : ∀ i, (rounds nx n i).2.Pairwise (Lx par i) → RgJ nx par i (rounds nx n i).2 (rounds nx n i).2 0 [] (rounds nx n (i + 1)) := fun i ho => by
    exact rg_outer ho hs 0 (rounds nx n i).2 [] ((rounds nx n i).1, []) rfl ⟨List.Pairwise.nil, fun b hb => (by cases hb), fun a ha => (by cases ha), fun b hb => (by cases hb), fun b hb => (by cases hb), fun b hb => (by cases hb)⟩ (hp (i + 1))
  have ord : ∀ i, (rounds nx n i).2.Pairwise (Lx par i) := fun i => by
    induction i with
    | zero => exact List.pairwise_singleton _ _
    | succ i ih => exact (key i ih).ord
  exact fun i => ⟨ord i, (key i (ord i)).fst⟩
theorem par_of (nx : Int → List Int) (n : Int) : ∃ par : Int → Int, ∀ i p, p ∈ (rounds nx n i).1 → par p.1 = p.2 := by
  have h : ∀ b, ∃ a, ∀ i c, (b, c) ∈ (rounds nx n i).1 → a = c := fun b => by
    rcases Classical.em (∃ i c, (b, c) ∈ (rounds nx n i).1) with ⟨i, c, hc⟩ | q
    · refine ⟨c, fun j c' hc' => ?_⟩
      have h1 := (came_le nx n i j).subset hc
      have h2 := (came_le nx n j i).subset hc'
      rw [Nat.add_comm] at h2
      exact ahead_one nx n (i + j) b c c' h1 h2
    · exact ⟨0, fun i c hc => absurd ⟨i, c, hc⟩ q⟩
  exact ⟨fun b => Classical.choose (h b), fun i p hp => Classical.choose_spec (h p.1) i p.2 hp⟩
theorem came_next {nx : Int → List Int} {n a b : Int} {i : Nat} (h : a ∈ cameK nx n i) (hb : b ∈ nx a) : b ∈ cameK nx n (i + 1) := by
  obtain ⟨j, hj, hr⟩ := ring_of nx n i a h
  obtain ⟨_, _, hn⟩ := step_of nx n j
  have := keys_le nx n (j + 1) (i - j) b (hn a hr b hb)
  rwa [show j + 1 + (i - j) = i + 1 by omega] at this
inductive Goes (nx : Int → List Int) : Nat → Int → Int → Prop
  | none (a : Int) : Goes nx 0 a a
  | one {k : Nat} {a b c : Int} : b ∈ nx a → Goes nx k b c → Goes nx (k + 1) a c
theorem Goes.came {nx : Int → List Int} {n : Int} : ∀ {k : Nat} {a c : Int} {i : Nat}, Goes nx k a c → a ∈ cameK nx n i → c ∈ cameK nx n (i + k)
  | _, _, _, _, .none _, h => h
  | _, _, _, i, .one (k := k) hb hg, h => by
    have := hg.came (came_next h hb)
    rwa [show i + 1 + k = i + (k + 1) by omega] at this
theorem Goes.last {nx : Int → List Int} : ∀ {k : Nat} {a c : Int} {d : Int}, Goes nx k a c → d ∈ nx c → Goes nx (k + 1) a d
  | _, _, _, _, .none _, h => .one h (.none _)
  | _, _, _, _, .one hb hg, h => .one hb (hg.last h)
theorem IsWay.goes {nx : Int → List Int} {n : Int} {i : Nat} {w : List Int} {b : Int} (h : IsWay nx n i w b) : ∀ (k j : Nat) (a : Int), j + k = i → w[j]? = some a → Goes nx k a b
  | 0, j, a, e, ha => by
    obtain rfl : j = i := by omega
    rw [h.last] at ha
    cases ha
    exact .none _
  | k + 1, j, a, e, ha => by
    have hl := h.len
    have hc : w[j + 1]? = some w[j + 1] := List.getElem?_eq_getElem (by omega)
    exact .one (h.step j a _ (by omega) ha hc).1 (h.goes k (j + 1) _ (by omega) hc)
theorem ring_goes {nx : Int → List Int} {n b : Int} {i : Nat} (h : b ∈ (rounds nx n i).2) : Goes nx i n b := by
  obtain ⟨w, hw⟩ := way_of nx n i b h
  exact hw.goes i 0 n (by omega) hw.first
theorem ahead_goes {nx : Int → List Int} {n : Int} {par : Int → Int} (hs : ∀ a, (nx a).Pairwise (· ≤ ·)) (hp : ∀ i p, p ∈ (rounds nx n i).1 → par p.1 = p.2) {i : Nat} {w : List Int} {b : Int} (hw : IsWay nx n i w b) : ∀ (k j : Nat) (z : Int), Goes nx k z b → j + k = i → z ∈ cameK nx n j → (∀ c, w[j]? = some c → Lx par j z c) → False
  | 0, j, z, hg, e, hz, hx => by
    obtain rfl : j = i := by omega
    cases hg
    exact lx_irr par j b (hx b hw.last)
  | k + 1, j, z, hg, e, hz, hx => by
    cases hg with
    | one hb hg' =>
      rename_i b'
      have hl := hw.len
      have hbi := hw.on i b hw.last
      -- z lies in ring j, b' in ring j + 1
      have inring : ∀ (m : Nat) (y : Int), y ∈ cameK nx n m → Goes nx (i - m) y b → m ≤ i → y ∈ (rounds nx n m).2 := fun m y hy hgy hm => by
        obtain ⟨m', hm', hr⟩ := ring_of nx n m y hy
        have := ring_one nx n i (m' + (i - m)) b hbi (hgy.came (ring_came nx n m' y hr))
        obtain rfl : m' = m := by omega
        exact hr
      have hzr := inring j z hz (by rw [show i - j = k + 1 by omega]; exact .one hb hg') (by omega)
      have hb'c := came_next hz hb
      have hb'r := inring (j + 1) b' hb'c (by rw [show i - (j + 1) = k by omega]; exact hg') (by omega)
      have hcj : w[j]? = some w[j] := List.getElem?_eq_getElem (by omega)
      have hcj1 : w[j + 1]? = some w[j + 1] := List.getElem?_eq_getElem (by omega)
      have hst := hw.step j _ _ (by omega) hcj hcj1
      have hpw : par w[j + 1] = w[j] := hp i _ hst.2
      refine ahead_goes hs hp hw k (j + 1) b' hg' (by omega) hb'c (fun c hc => ?_)
      rw [hcj1] at hc
      cases hc
      left
      rw [hpw]
      have hzl := hx _ hcj
      rcases (ring_lx hs hp j).2 b' hb'r z hzr hb with q | q
      · rw [q]; exact hzl
      · exact lx_trans par j _ _ _ q hzl
theorem way_least {nx : Int → List Int} {n : Int} (hs : ∀ a, (nx a).Pairwise (· ≤ ·)) {i : Nat} {w : List Int} {b : Int} (hw : IsWay nx n i w b) (j : Nat) (hj : j < i) (x c : Int) (hx : w[j]? = some x) (hc : w[j + 1]? = some c) :
    b ∈ (rounds nx c (i - (j + 1))).2 ∧ c ∈ (rounds nx x 1).2 ∧ ∀ y, b ∈ (rounds nx y (i - (j + 1))).2 → y ∈ (rounds nx x 1).2 → c ≤ y := by
  have hbi := hw.on i b hw.last
  have hst := hw.step j x c hj hx hc
  have hxr := hw.on j x hx
  have hcr := hw.on (j + 1) c hc
  have hxc := ring_came nx n j x hxr
  have hcc := ring_came nx n (j + 1) c hcr
  have exact_ : ∀ (m k : Nat) (y : Int), y ∈ cameK nx n m → Goes nx k y b → m + k = i → b ∈ (rounds nx y k).2 := fun m k y hy hg hm => by
    have h1 := hg.came (n := y) (i := 0) (by simp [cameK, rounds])
    rw [Nat.zero_add] at h1
    obtain ⟨k', hk', hr⟩ := ring_of nx y k b h1
    have := ring_one nx n i (m + k') b hbi ((ring_goes hr).came hy)
    obtain rfl : k' = k := by omega
    exact hr
  refine ⟨exact_ (j + 1) _ c hcc (hw.goes _ (j + 1) c (by omega) hc) (by omega), ?_, fun y hy hy1 => ?_⟩
  · have h1 : c ∈ cameK nx x 1 := came_next (i := 0) (by simp [cameK, rounds]) hst.1
    obtain ⟨k', hk', hr⟩ := ring_of nx x 1 c h1
    rcases (show k' = 0 ∨ k' = 1 by omega) with rfl | rfl
    · have : c = x := by simpa [rounds] using hr
      subst this
      have := ring_one nx n (j + 1) j c hcr hxc
      omega
    · exact hr
  · obtain ⟨par, hp⟩ := par_of nx n
    rcases (show y < c ∨ c ≤ y by omega) with q | q
    · exfalso
      have hyx : y ∈ nx x := by
        have := ring_goes hy1
        cases this with
        | one hb hg => cases hg; exact hb
      have hyc : y ∈ cameK nx n (j + 1) := came_next hxc hyx
      have hyr : y ∈ (rounds nx n (j + 1)).2 := by
        obtain ⟨m', hm', hr⟩ := ring_of nx n (j + 1) y hyc
        have := ring_one nx n i (m' + (i - (j + 1))) b hbi ((ring_goes hy).came (ring_came nx n m' y hr))
        obtain rfl : m' = j + 1 := by omega
        exact hr
      refine ahead_goes hs hp hw (i - (j + 1)) (j + 1) y (ring_goes hy) (by omega) hyc (fun c' hc' => ?_)
      rw [hc] at hc'
      cases hc'
      have hpc : par c = x := hp i _ hst.2
      rcases (ring_lx hs hp j).2 y hyr x hxr hyx with r | r
      · exact .inr ⟨by rw [r, hpc], q⟩
      · exact .inl (by rw [hpc]; exact r)
    · exact q
end Go.Proofs.YtfoojmflbifkpaaGreatDoor

/- How far others are, told along edges until nothing changes: plain. -/
namespace Go.Proofs.YtfoojmflbifkpaaGreatDoor
def setC (C : List (Int × Int)) (b x : Int) : List (Int × Int) := C.map (fun p => if p.1 = b then (b, x) else p)
theorem setC_keys (C : List (Int × Int)) (b x : Int) : (setC C b x).map (·.1) = C.map (·.1) := by
  unfold setC
  rw [List.map_map]
  apply List.map_congr_left
  intro p _
  show (if p.1 = b then (b, x) else p).1 = p.1
  split
  · rename_i h; exact h.symm
  · rfl
theorem setC_length (C : List (Int × Int)) (b x : Int) : (setC C b x).length = C.length := by unfold setC; rw [List.length_map]
theorem mem_setC {C : List (Int × Int)} {b x : Int} {p : Int × Int} : p ∈ setC C b x ↔ (p.1 ≠ b ∧ p ∈ C) ∨ (p = (b, x) ∧ b ∈ C.map (·.1)) := by
  unfold setC
  rw [List.mem_map]
  constructor
  · rintro ⟨q, hq, rfl⟩
    by_cases h : q.1 = b
    · rw [if_pos h]
      exact .inr ⟨rfl, List.mem_map.2 ⟨q, hq, h⟩⟩
    · rw [if_neg h]
      exact .inl ⟨h, hq⟩
  · rintro (⟨h1, h2⟩ | ⟨rfl, h2⟩)
    · exact ⟨p, h2, if_neg h1⟩
    · obtain ⟨q, hq, e⟩ := List.mem_map.1 h2
      exact ⟨q, hq, if_pos e⟩
def sumC (C : List (Int × Int)) : Nat := (C.map (fun p => p.2.toNat)).sum
theorem sumC_le {b x : Int} : ∀ (C : List (Int × Int)), (∀ p, p ∈ C → p.1 = b → x.toNat ≤ p.2.toNat) → sumC (setC C b x) ≤ sumC C
  | [], _ => Nat.le_refl _
  | q :: C, h => by
    have ih := sumC_le C (fun p hp => h p (List.mem_cons_of_mem _ hp))
    unfold sumC setC at *
    simp only [List.map_cons, List.sum_cons]
    by_cases e : q.1 = b
    · rw [if_pos e]
      have := h q List.mem_cons_self e
      show x.toNat + _ ≤ _
      omega
    · rw [if_neg e]
      omega
theorem sumC_lt {b x : Int} : ∀ (C : List (Int × Int)), (∀ p, p ∈ C → p.1 = b → x.toNat < p.2.toNat) → b ∈ C.map (·.1) → sumC (setC C b x) < sumC C
  | [], _, h => by cases h
  | q :: C, h, hb => by
    have le := sumC_le (b := b) (x := x) C (fun p hp e => Nat.le_of_lt (h p (List.mem_cons_of_mem _ hp) e))
    by_cases e : q.1 = b
    · unfold sumC setC at *
      simp only [List.map_cons, List.sum_cons]
      rw [if_pos e]
      have := h q List.mem_cons_self e
      show x.toNat + _ < _
      omega
    · have hb' : b ∈ C.map (·.1) := by
        rw [List.map_cons, List.mem_cons] at hb
        rcases hb with r | r
        · exact absurd r.symm e
        · exact r
      have ih := sumC_lt C (fun p hp => h p (List.mem_cons_of_mem _ hp)) hb'
      unfold sumC setC at *
      simp only [List.map_cons, List.sum_cons]
      rw [if_neg e]
      omega
def massC (K : Nat) (C : List (Int × Int)) : Nat := sumC C + (K - C.length) * K
def putC (C : List (Int × Int)) (b x : Int) : List (Int × Int) := if b ∈ C.map (·.1) then setC C b x else C ++ [(b, x)]
structure FarI (nx : Int → List Int) (n : Int) (N : List Int) (C : List (Int × Int)) : Prop where
  nd : (C.map (·.1)).Nodup
  zero : (n, 0) ∈ C
  goes : ∀ p, p ∈ C → 0 ≤ p.2 ∧ Goes nx p.2.toNat n p.1
  inN : ∀ p, p ∈ C → p.1 ∈ N
  small : ∀ p, p ∈ C → p.2.toNat < C.length
theorem one_val {C : List (Int × Int)} (h : (C.map (·.1)).Nodup) {b x y : Int} (h1 : (b, x) ∈ C) (h2 : (b, y) ∈ C) : x = y := by
  induction C with
  | nil => cases h1
  | cons q C ih =>
    rw [List.map_cons, List.nodup_cons] at h
    rcases List.mem_cons.1 h1 with r | r
    · rcases List.mem_cons.1 h2 with s | s
      · rw [← r] at s; cases s; rfl
      · exact absurd (List.mem_map.2 ⟨_, s, by rw [← r]⟩) h.1
    · rcases List.mem_cons.1 h2 with s | s
      · exact absurd (List.mem_map.2 ⟨_, r, by rw [← s]⟩) h.1
      · exact ih h.2 r s
theorem FarI.start (nx : Int → List Int) (n : Int) {N : List Int} (hn : n ∈ N) : FarI nx n N [(n, 0)] :=
  ⟨by simp, by simp, fun p hp => by obtain rfl := List.mem_singleton.1 hp; exact ⟨Int.le_refl _, .none _⟩, fun p hp => by obtain rfl := List.mem_singleton.1 hp; exact hn, fun p hp => by obtain rfl := List.mem_singleton.1 hp; simp⟩
theorem FarI.le {nx : Int → List Int} {n : Int} {N : List Int} {C : List (Int × Int)} (h : FarI nx n N C) : C.length ≤ N.length := by
  have := nodup_le h.nd (fun x hx => by obtain ⟨p, hp, rfl⟩ := List.mem_map.1 hx; exact h.inN p hp)
  rwa [List.length_map] at this
theorem FarI.relax {nx : Int → List Int} {n : Int} {N : List Int} {C : List (Int × Int)} (h : FarI nx n N C) {a b d : Int} (ha : (a, d) ∈ C) (hb : b ∈ nx a) (hbN : b ∈ N) (hc : b ∉ C.map (·.1) ∨ ∃ y, (b, y) ∈ C ∧ d + 1 < y) :
    FarI nx n N (putC C b (d + 1)) ∧ massC N.length (putC C b (d + 1)) < massC N.length C := by
  obtain ⟨hd0, hdg⟩ := h.goes _ ha
  have hds := h.small _ ha
  dsimp only at hd0 hdg hds
  have hg : Goes nx (d + 1).toNat n b := by
    rw [show (d + 1).toNat = d.toNat + 1 by omega]
    exact hdg.last hb
  unfold putC
  by_cases hk : b ∈ C.map (·.1)
  · rw [if_pos hk]
    obtain ⟨y, hy, hlt⟩ : ∃ y, (b, y) ∈ C ∧ d + 1 < y := by
      rcases hc with r | r
      · exact absurd hk r
      · exact r
    have hys := h.small _ hy
    dsimp only at hys
    refine ⟨⟨by rw [setC_keys]; exact h.nd, ?_, fun p hp => ?_, fun p hp => ?_, fun p hp => ?_⟩, ?_⟩
    · refine mem_setC.2 (.inl ⟨fun e => ?_, h.zero⟩)
      have e' : n = b := e
      subst e'
      have := one_val h.nd h.zero hy
      omega
    · rcases mem_setC.1 hp with ⟨_, r⟩ | ⟨rfl, _⟩
      · exact h.goes p r
      · exact ⟨by show 0 ≤ d + 1; omega, hg⟩
    · rcases mem_setC.1 hp with ⟨_, r⟩ | ⟨rfl, _⟩
      · exact h.inN p r
      · exact hbN
    · rw [setC_length]
      rcases mem_setC.1 hp with ⟨_, r⟩ | ⟨rfl, _⟩
      · exact h.small p r
      · show (d + 1).toNat < _; omega
    · unfold massC
      rw [setC_length]
      have := sumC_lt (b := b) (x := d + 1) C (fun p hp e => by
        have e2 : p = (b, y) := by
          obtain ⟨p1, p2⟩ := p
          dsimp only at e
          subst e
          rw [one_val h.nd hp hy]
        rw [e2]
        show (d + 1).toNat < y.toNat
        omega) hk
      omega
  · rw [if_neg hk]
    have hnd : ((C ++ [(b, d + 1)]).map (·.1)).Nodup := by
      rw [List.map_append, List.nodup_append]
      refine ⟨h.nd, by simp, fun x hx y hy => ?_⟩
      have e : y = b := by simpa using hy
      subst e
      exact fun e2 => hk (by rw [← e2]; exact hx)
    have hl : C.length + 1 ≤ N.length := by
      have := nodup_le hnd (fun x hx => by
        rw [List.map_append, List.mem_append] at hx
        rcases hx with r | r
        · obtain ⟨p, hp, rfl⟩ := List.mem_map.1 r
          exact h.inN p hp
        · have e : x = b := by simpa using r
          rw [e]; exact hbN)
      simpa using this
    refine ⟨⟨hnd, List.mem_append_left _ h.zero, fun p hp => ?_, fun p hp => ?_, fun p hp => ?_⟩, ?_⟩
    · rcases List.mem_append.1 hp with r | r
      · exact h.goes p r
      · obtain rfl := List.mem_singleton.1 r
        exact ⟨by show 0 ≤ d + 1; omega, hg⟩
    · rcases List.mem_append.1 hp with r | r
      · exact h.inN p r
      · obtain rfl := List.mem_singleton.1 r
        exact hbN
    · rw [List.length_append]
      rcases List.mem_append.1 hp with r | r
      · have := h.small p r
        simp
        omega
      · obtain rfl := List.mem_singleton.1 r
        show (d + 1).toNat < _
        simp
        omega
    · unfold massC sumC
      rw [List.map_append, List.sum_append, List.length_append]
      simp only [List.map_cons, List.map_nil, List.sum_cons, List.sum_nil, List.length_cons, List.length_nil, Nat.zero_add, Nat.add_zero]
      obtain ⟨r, hr⟩ : ∃ r, N.length = C.length + 1 + r := ⟨N.length - (C.length + 1), by omega⟩
      have e1 : N.length - (C.length + 1) = r := by omega
      have e2 : N.length - C.length = r + 1 := by omega
      rw [e1, e2, Nat.succ_mul]
      omega
theorem FarI.done {nx : Int → List Int} {n : Int} {N : List Int} {C : List (Int × Int)} (h : FarI nx n N C) (hf : ∀ a d b, (a, d) ∈ C → b ∈ nx a → ∃ y, (b, y) ∈ C ∧ y ≤ d + 1) : ∀ b d, (b, d) ∈ C ↔ ∃ i : Nat, d = (i : Int) ∧ b ∈ (rounds nx n i).2 := by
  have near : ∀ b d, (b, d) ∈ C → b ∈ cameK nx n d.toNat := fun b d hb => by
    have := (h.goes _ hb).2.came (n := n) (i := 0) (by simp [cameK, rounds])
    rwa [Nat.zero_add] at this
  have all : ∀ i b, b ∈ (rounds nx n i).2 → (b, (i : Int)) ∈ C := fun i => by
    induction i with
    | zero =>
      intro b hb
      have : b = n := by simpa [rounds] using hb
      subst this
      exact h.zero
    | succ i ih =>
      intro b hb
      obtain ⟨new, hs, _⟩ := step_of nx n i
      have hb' := hb
      rw [hs.outer] at hb'
      obtain ⟨p, hp, rfl⟩ := List.mem_map.1 hb'
      obtain ⟨e1, e2⟩ := hs.edge p hp
      obtain ⟨y, hy, hle⟩ := hf _ _ _ (ih p.2 e1) e2
      have h1 := ring_one nx n (i + 1) y.toNat p.1 hb (near _ _ hy)
      have : y = ((i + 1 : Nat) : Int) := by omega
      rw [← this]
      exact hy
  refine fun b d => ⟨fun hb => ?_, ?_⟩
  · obtain ⟨j, hj, hr⟩ := ring_of nx n d.toNat b (near b d hb)
    exact ⟨j, one_val h.nd hb (all j b hr), hr⟩
  · rintro ⟨i, rfl, hr⟩
    exact all i b hr
end Go.Proofs.YtfoojmflbifkpaaGreatDoor

/- The document's graph in memory: its values, whether there is a node, what a node has. -/
namespace Go.Proofs.YtfoojmflbifkpaaGreatDoor
open Go.RowKit Go.Maps
structure RefG (B : Nat) (w : World) (g : Nat) (V : Ky → ByteArray) (L : List Ky) : Prop where
  c0 : ∃ b ad c, (L ≠ [] → B ≤ b) ∧ w.cell? ⟨g, 0, none⟩ = some (.slice ad L.length c) ∧ ∀ j, (hj : j < L.length) → ad = some ⟨b, 0, none⟩ ∧ w.cell? ⟨b, j * 4, none⟩ = some (.int .i64 L[j].kind) ∧ w.cell? ⟨b, j * 4 + 1, none⟩ = some (.int .i64 L[j].a) ∧ w.cell? ⟨b, j * 4 + 2, none⟩ = some (.string L[j].word) ∧ w.cell? ⟨b, j * 4 + 3, none⟩ = some (.int .i64 L[j].b)
  c1 : ∃ b ad c, (L ≠ [] → B ≤ b) ∧ w.cell? ⟨g, 1, none⟩ = some (.slice ad L.length c) ∧ ∀ j, (hj : j < L.length) → ad = some ⟨b, 0, none⟩ ∧ w.cell? ⟨b, j, none⟩ = some (.string (V L[j]))
  all : ∀ k, k ∈ L ↔ V k ≠ ByteArray.empty
  len : L.length ≤ 4000
  lo : B ≤ g
theorem RefG.below {B : Nat} {w w' : World} {g : Nat} {V : Ky → ByteArray} {L : List Ky} (h : RefG B w g V L) (hb : Below w.heap.size w w') : RefG B w' g V L := by
  refine ⟨?_, ?_, h.all, h.len, h.lo⟩
  · obtain ⟨b, ad, c, hlo, q, hc⟩ := h.c0
    refine ⟨b, ad, c, hlo, there_yet q hb, fun j hj => ?_⟩
    obtain ⟨e, q0, q1, q2, q3⟩ := hc j hj
    exact ⟨e, there_yet q0 hb, there_yet q1 hb, there_yet q2 hb, there_yet q3 hb⟩
  · obtain ⟨b, ad, c, hlo, q, hc⟩ := h.c1
    refine ⟨b, ad, c, hlo, there_yet q hb, fun j hj => ?_⟩
    obtain ⟨e, q0⟩ := hc j hj
    exact ⟨e, there_yet q0 hb⟩
theorem RefG.keeps {B : Nat} {w w' : World} {g : Nat} {V : Ky → ByteArray} {L : List Ky} {F : Nat → Prop} (h : RefG B w g V L) (hk : Keeps F w w') (hF : ∀ i, F i → i < B) : RefG B w' g V L := by
  have hn : ∀ i, B ≤ i → ¬ F i := fun i hi q => by have := hF i q; omega
  have hne : ∀ {j : Nat}, j < L.length → L ≠ [] := fun {j} hj e => by rw [e] at hj; cases hj
  refine ⟨?_, ?_, h.all, h.len, h.lo⟩
  · obtain ⟨b, ad, c, hlo, q, hc⟩ := h.c0
    refine ⟨b, ad, c, hlo, (hk.cell (p := ⟨g, 0, none⟩) (lt_of_cell q) (hn g h.lo)).trans q, fun j hj => ?_⟩
    obtain ⟨e, q0, q1, q2, q3⟩ := hc j hj
    have hb := hn b (hlo (hne hj))
    exact ⟨e, (hk.cell (p := ⟨b, j * 4, none⟩) (lt_of_cell q0) hb).trans q0, (hk.cell (p := ⟨b, j * 4 + 1, none⟩) (lt_of_cell q1) hb).trans q1, (hk.cell (p := ⟨b, j * 4 + 2, none⟩) (lt_of_cell q2) hb).trans q2, (hk.cell (p := ⟨b, j * 4 + 3, none⟩) (lt_of_cell q3) hb).trans q3⟩
  · obtain ⟨b, ad, c, hlo, q, hc⟩ := h.c1
    refine ⟨b, ad, c, hlo, (hk.cell (p := ⟨g, 1, none⟩) (lt_of_cell q) (hn g h.lo)).trans q, fun j hj => ?_⟩
    obtain ⟨e, q0⟩ := hc j hj
    exact ⟨e, (hk.cell (p := ⟨b, j, none⟩) (lt_of_cell q0) (hn b (hlo (hne hj)))).trans q0⟩
theorem key_eq {o k : Ky} (h0 : o.kind = k.kind) (h1 : o.a = k.a) (h2 : o.word.toList = k.word.toList) (h3 : o.b = k.b) : o = k := by
  obtain ⟨a, b, c, d⟩ := k
  obtain ⟨a', b', c', d'⟩ := o
  dsimp only at h0 h1 h2 h3
  rw [ByteArray.toList_eq, ByteArray.toList_eq] at h2
  have e : c' = c := ByteArray.ext (Array.toList_inj.1 h2)
  rw [h0, h1, e, h3]
set_option maxRecDepth 100000 in
set_option maxHeartbeats 4000000 in
theorem rg_of {B : Nat} {w : World} {g : Nat} {V : Ky → ByteArray} {L : List Ky} (h : RefG B w g V L) (k : Ky) :
    Calls Tryz.prog 64 #[.pointer (some ⟨g, 0, none⟩), keyA k] w fun e w' => e = .returned (.string (V k)) ∧ Below w.heap.size w w' := by
  have HB := hide (below_box w (.cells #[.int .i64 k.kind, .int .i64 k.a, .string k.word, .int .i64 k.b] 32))
  have HK := hide (boxK_new w k)
  obtain ⟨b, ad, c, _, q0, hc⟩ := (h.below (unhide HB)).c0
  obtain ⟨b', ad', c', _, q1, hc'⟩ := (h.below (unhide HB)).c1
  have HC := hide hc
  have HC' := hide hc'
  have HAll := hide h.all
  have hlen := h.len
  obtain ⟨n, hn⟩ : ∃ n, n = L.length := ⟨_, rfl⟩
  rw [← hn] at q0 q1 hlen
  have HN := hide hn
  clear h hc hc' hn
  go_enter Tryz.func64, Tryz.ntmps64
  go_wp2
  generalize w.alloc (.cells #[.int .i64 k.kind, .int .i64 k.a, .string k.word, .int .i64 k.b] 32) = W0 at *
  go_loopw [12] (fun i y => ∃ j : Nat, j ≤ n ∧ i = .int .i64 j ∧ (∀ m, (hm : m < L.length) → m < j → L[m] ≠ k) ∧ Below W0.heap.size W0 y) (fun i _ => n - (intOf i).toNat)
  case atStart => exact ⟨0, by omega, rfl, fun m _ q => by omega, Below.refl _ _⟩
  case round =>
    obtain ⟨j, hj, rfl, hno, hb⟩ := hrel
    have HB1 := hide hb
    have HNo := hide hno
    clear hb hno
    by_cases hlt : j < n
    · have hlt' : (j : Int) < (n : Int) := by omega
      have hj0 : (0 : Int) ≤ (j : Int) := by omega
      have hjl : j < L.length := by rw [← unhide HN]; exact hlt
      obtain ⟨rfl, a0, a1, a2, a3⟩ := unhide HC j hjl
      obtain ⟨rfl, a4⟩ := unhide HC' j hjl
      have HSt : Hid (L[j] ≠ k → ∀ m, (hm : m < L.length) → m < j + 1 → L[m] ≠ k) := fun hne m hm hmj => by
        rcases Nat.lt_or_ge m j with r | r
        · exact unhide HNo m hm r
        · obtain rfl : m = j := by omega
          exact hne
      obtain ⟨o, ho⟩ : ∃ o, o = L[j] := ⟨_, rfl⟩
      rw [← ho] at a0 a1 a2 a3 a4 HSt
      have z0 := there_yet a0 (unhide HB1)
      have z1 := there_yet a1 (unhide HB1)
      have z2 := there_yet a2 (unhide HB1)
      have z3 := there_yet a3 (unhide HB1)
      have HB8 := hide (below_box wr (.cells #[.int .i64 o.kind, .int .i64 o.a, .string o.word, .int .i64 o.b] 32))
      have HY := hide (boxK_new wr o)
      have v0 := there_yet (there_yet q1 (unhide HB1)) (unhide HB8)
      have v1 := there_yet (there_yet a4 (unhide HB1)) (unhide HB8)
      have HK1 := hide (((unhide HK).below (unhide HB1)).below (unhide HB8))
      clear a0 a1 a2 a3 a4 ho
      go_upto_region 4 with fail
      have HB9 := hide ((unhide HB1).trans ((unhide HB8).mono (unhide HB1).size))
      generalize wr.alloc (.cells #[.int .i64 o.kind, .int .i64 o.a, .string o.word, .int .i64 o.b] 32) = W9 at *
      generalize wr.heap.size = gb at *
      have y0 := (unhide HY).c0
      have y1 := (unhide HY).c1
      have y2 := (unhide HY).c2
      have y3 := (unhide HY).c3
      have k0 := (unhide HK1).c0
      have k1 := (unhide HK1).c1
      have k2 := (unhide HK1).c2
      have k3 := (unhide HK1).c3
      clear z0 z1 z2 z3 HB8 HB1
      by_cases hsk : o = k
      · subst hsk
        go_wp2
        go_ret
        exact ⟨rfl, (unhide HB).trans ((unhide HB9).mono (unhide HB).size)⟩
      · have HNo2 := hide (unhide HSt hsk)
        go_upto_region 6 with fail
        all_goals (try (exfalso; exact hsk (key_eq (by assumption) (by assumption) (by assumption) (by assumption))))
        all_goals (go_wp2; go_roundw)
        all_goals (first | exact ⟨j + 1, by omega, by go_num, unhide HNo2, unhide HB9⟩ | (simp [intOf]; omega))
    · obtain rfl : j = n := by omega
      have hlt' : ¬ (j : Int) < (j : Int) := by omega
      have HV : Hid (V k = ⟨#[]⟩) := by
        unfold Hid
        rcases Classical.em (V k = ByteArray.empty) with r | r
        · exact r
        · exfalso
          obtain ⟨m, hm, e⟩ := List.getElem_of_mem ((unhide HAll k).2 r)
          exact unhide HNo m hm (by rw [unhide HN]; exact hm) e
      go_wp2
      go_ret
      exact ⟨ret_string (unhide HV), (unhide HB).trans ((unhide HB1).mono (unhide HB).size)⟩
def nodeK (n : Int) : Ky := ⟨1, n, ⟨#[]⟩, 0⟩
def isG (V : Ky → ByteArray) (n : Int) : Bool := decide (V (nodeK n) ≠ ByteArray.empty)
set_option maxRecDepth 100000 in
theorem rg_Is {B : Nat} {w : World} {g : Nat} {V : Ky → ByteArray} {L : List Ky} (h : RefG B w g V L) (n : Int) :
    Calls Tryz.prog 63 #[.pointer (some ⟨g, 0, none⟩), .int .i64 n] w fun e w' => e = .returned (.bool (isG V n)) ∧ Below w.heap.size w w' := by
  have HO := hide (rg_of h (nodeK n))
  unfold isG
  clear h
  by_cases hv : V (nodeK n) = ByteArray.empty
  · have hd : Hid (decide (V (nodeK n) ≠ ByteArray.empty) = false) := decide_eq_false (fun q => q hv)
    rw [show V (nodeK n) = (⟨#[]⟩ : ByteArray) from hv] at HO
    clear hv
    go_enter Tryz.func63, Tryz.ntmps63
    go_wp2_with fail
    refine (unhide HO).mono ?_
    rintro e W1 ⟨rfl, b1⟩
    go_wp2
    go_ret
    exact ⟨ret_bool (unhide hd), b1⟩
  · have hd : Hid (decide (V (nodeK n) ≠ ByteArray.empty) = true) := decide_eq_true hv
    obtain ⟨n1, n2⟩ := not_empty hv
    generalize V (nodeK n) = val at *
    go_enter Tryz.func63, Tryz.ntmps63
    go_wp2_with fail
    refine (unhide HO).mono ?_
    rintro e W1 ⟨rfl, b1⟩
    go_wp2
    go_ret
    exact ⟨ret_bool (unhide hd), b1⟩
def propK (n : Int) (word : ByteArray) : Ky := ⟨3, n, word, 0⟩
def propE (V : Ky → ByteArray) (n : Int) (word : ByteArray) : Int := if isG V n then (if V (propK n word) = ByteArray.empty then 8 else 0) else 7
def propV (V : Ky → ByteArray) (n : Int) (word : ByteArray) : ByteArray := if propE V n word = 0 then V (propK n word) else ⟨#[]⟩
set_option maxRecDepth 100000 in
theorem rg_Prop {B : Nat} {w : World} {g : Nat} {V : Ky → ByteArray} {L : List Ky} (h : RefG B w g V L) (n : Int) (word : ByteArray) :
    Calls Tryz.prog 16 #[.pointer (some ⟨g, 0, none⟩), .int .i64 n, .string word] w fun e w' => e = .returned (.tuple #[.string (propV V n word), .int .i64 (propE V n word)]) ∧ Below w.heap.size w w' := by
  have HI := hide (rg_Is h n)
  have HO := hide (fun W (hb : Below w.heap.size w W) => rg_of (h.below hb) (propK n word))
  unfold propV propE
  clear h
  cases hi : isG V n with
  | false =>
    rw [hi] at HI
    have E1 : Hid ((if (if (false = true) then (if V (propK n word) = ByteArray.empty then (8 : Int) else 0) else 7) = 0 then V (propK n word) else ⟨#[]⟩) = ⟨#[]⟩ ∧ (if (false = true) then (if V (propK n word) = ByteArray.empty then (8 : Int) else 0) else 7) = 7) := ⟨rfl, rfl⟩
    rw [(unhide E1).1, (unhide E1).2]
    clear E1
    go_enter Tryz.func16, Tryz.ntmps16
    go_wp2_with fail
    refine (unhide HI).mono ?_
    rintro e W1 ⟨rfl, b1⟩
    go_wp2
    go_ret2
    exact ⟨rfl, b1⟩
  | true =>
    rw [hi] at HI
    by_cases hv : V (propK n word) = ByteArray.empty
    · rw [show V (propK n word) = (⟨#[]⟩ : ByteArray) from hv] at HO
      have E1 : Hid ((if (if (true = true) then (if V (propK n word) = ByteArray.empty then (8 : Int) else 0) else 7) = 0 then V (propK n word) else ⟨#[]⟩) = ⟨#[]⟩ ∧ (if (true = true) then (if V (propK n word) = ByteArray.empty then (8 : Int) else 0) else 7) = 8) := by
        rw [if_pos hv]; exact ⟨rfl, rfl⟩
      rw [(unhide E1).1, (unhide E1).2]
      clear E1 hv
      go_enter Tryz.func16, Tryz.ntmps16
      go_wp2_with fail
      refine (unhide HI).mono ?_
      rintro e W1 ⟨rfl, b1⟩
      have HB1 := hide b1
      clear b1
      go_wp2_with fail
      refine (unhide HO _ (unhide HB1)).mono ?_
      rintro e W2 ⟨rfl, b2⟩
      have HB2 := hide ((unhide HB1).trans (b2.mono (unhide HB1).size))
      clear b2
      go_wp2
      go_ret2
      exact ⟨rfl, unhide HB2⟩
    · obtain ⟨n1, n2⟩ := not_empty hv
      have E1 : Hid ((if (if (true = true) then (if V (propK n word) = ByteArray.empty then (8 : Int) else 0) else 7) = 0 then V (propK n word) else ⟨#[]⟩) = V (propK n word) ∧ (if (true = true) then (if V (propK n word) = ByteArray.empty then (8 : Int) else 0) else 7) = 0) := by
        rw [if_neg hv]; exact ⟨rfl, rfl⟩
      rw [(unhide E1).1, (unhide E1).2]
      clear E1 hv
      generalize V (propK n word) = val at *
      go_enter Tryz.func16, Tryz.ntmps16
      go_wp2_with fail
      refine (unhide HI).mono ?_
      rintro e W1 ⟨rfl, b1⟩
      have HB1 := hide b1
      clear b1
      go_wp2_with fail
      refine (unhide HO _ (unhide HB1)).mono ?_
      rintro e W2 ⟨rfl, b2⟩
      have HB2 := hide ((unhide HB1).trans (b2.mono (unhide HB1).size))
      clear b2
      go_wp2
      go_ret2
      exact ⟨rfl, unhide HB2⟩
end Go.Proofs.YtfoojmflbifkpaaGreatDoor

/- The document's graph: its nodes, its edges. -/
namespace Go.Proofs.YtfoojmflbifkpaaGreatDoor
open Go.RowKit Go.Maps
def nodeB (V : Ky → ByteArray) (kind : ByteArray) (k : Ky) : Bool := decide (k.kind = 1) && (decide (kind = ⟨#[]⟩) || decide (V k = kind))
def nodesR (V : Ky → ByteArray) (kind : ByteArray) (l : List Ky) : List Int := (l.filter (nodeB V kind)).map (·.a)
theorem nodesR_snoc (V : Ky → ByteArray) (kind : ByteArray) (l : List Ky) (k : Ky) : nodesR V kind (l ++ [k]) = nodesR V kind l ++ (if nodeB V kind k = true then [k.a] else []) := by
  unfold nodesR
  rw [List.filter_append, List.map_append]
  congr 1
  cases h : nodeB V kind k <;> simp [h]
theorem nodesR_le (V : Ky → ByteArray) (kind : ByteArray) (l : List Ky) : (nodesR V kind l).length ≤ l.length := by
  unfold nodesR
  rw [List.length_map]
  exact List.length_filter_le _ _
set_option maxRecDepth 100000 in
set_option maxHeartbeats 4000000 in
theorem rg_Nodes {B : Nat} {w : World} {g : Nat} {V : Ky → ByteArray} {L : List Ky} (h : RefG B w g V L) (kind : ByteArray) :
    Calls Tryz.prog 24 #[.pointer (some ⟨g, 0, none⟩), .string kind] w (NextSays w (sorted (nodesR V kind L))) := by
  obtain ⟨b, ad, c, _, q0, hc⟩ := h.c0
  obtain ⟨b', ad', c', _, q1, hc'⟩ := h.c1
  have HC := hide hc
  have HC' := hide hc'
  have hlen := h.len
  obtain ⟨n, hn⟩ : ∃ n, n = L.length := ⟨_, rfl⟩
  rw [← hn] at q0 q1 hlen
  have HN := hide hn
  have HQ1 := hide q1
  clear h hc hc' hn q1
  go_enter Tryz.func24, Tryz.ntmps24
  go_wp2
  go_loopw [5, 13] (fun o i y => ∃ j : Nat, j ≤ n ∧ i = .int .i64 j ∧ RowN y w.heap.size o (nodesR V kind (L.take j)) ∧ Below w.heap.size w y) (fun _ i _ => n - (intOf i).toNat)
  case atStart => exact ⟨0, Nat.zero_le _, rfl, ⟨rfl, .inl ⟨rfl, rfl⟩⟩, Below.refl _ _⟩
  case round =>
    obtain ⟨j, hj, rfl, hro, hb⟩ := hrel
    have HRo := hide hro
    have HB := hide hb
    obtain ⟨ado, co, rfl⟩ := row_slice hro
    have hle := nodesR_le V kind (L.take j)
    rw [List.length_take] at hle
    clear hro hb q0
    by_cases hlt : j < n
    · have hlt' : (j : Int) < (n : Int) := by omega
      have hj0 : (0 : Int) ≤ (j : Int) := by omega
      have hjl : j < L.length := by rw [← unhide HN]; exact hlt
      obtain ⟨rfl, a0, a1, a2, a3⟩ := unhide HC j hjl
      obtain ⟨rfl, a4⟩ := unhide HC' j hjl
      have HTk : Hid (L.take (j + 1) = L.take j ++ [L[j]]) := List.take_succ_eq_append_getElem hjl
      obtain ⟨k, hkk⟩ : ∃ k, k = L[j] := ⟨_, rfl⟩
      rw [← hkk] at a0 a1 a2 a3 a4 HTk
      have z0 := there_yet a0 (unhide HB)
      have z1 := there_yet a1 (unhide HB)
      have z2 := there_yet a2 (unhide HB)
      have z3 := there_yet a3 (unhide HB)
      have HBk := hide (below_box wr (.cells #[.int .i64 k.kind, .int .i64 k.a, .string k.word, .int .i64 k.b] 32))
      have HBx := hide (boxK_new wr k)
      have v0 := there_yet (there_yet (unhide HQ1) (unhide HB)) (unhide HBk)
      have v1 := there_yet (there_yet a4 (unhide HB)) (unhide HBk)
      clear a0 a1 a2 a3 a4 hkk hjl
      go_upto_region 5 with fail
      generalize hV1 : wr.alloc (.cells #[.int .i64 k.kind, .int .i64 k.a, .string k.word, .int .i64 k.b] 32) = V1 at *
      have x0 := (unhide HBx).c0
      go_cut [35] (fun s35 wx => s35 = .bool (nodeB V kind k) ∧ wx = V1)
      case first =>
        by_cases h1 : k.kind = 1
        · by_cases hw : kind = ⟨#[]⟩
          · subst hw
            have HO : Hid (nodeB V ⟨#[]⟩ k = true) := by simp [Hid, nodeB, h1]
            go_wp2
            go_meet
            case rel => exact ⟨by rw [unhide HO], rfl⟩
          · have hne := list_some kind hw
            by_cases hkw : V k = kind
            · have HO : Hid (nodeB V kind k = true) := by simp [Hid, nodeB, hkw, h1]
              rw [hkw] at v1
              clear hkw hw
              go_wp2
              go_meet
              case rel => exact ⟨by rw [unhide HO], rfl⟩
            · have HO : Hid (nodeB V kind k = false) := by simp [Hid, nodeB, hkw, hw]
              have hbe : ((V k).toList == kind.toList) = false := toList_ne hkw
              clear hkw hw
              generalize V k = val at *
              go_wp2
              go_meet
              case rel => exact ⟨by rw [unhide HO], rfl⟩
        · have HO : Hid (nodeB V kind k = false) := by simp [Hid, nodeB, h1]
          go_wp2
          go_meet
          case rel => exact ⟨by rw [unhide HO], rfl⟩
      case rest =>
        obtain ⟨rfl, hwc⟩ := hcut
        obtain rfl : V1 = wc := hwc.symm
        clear hwc
        have HRo1 := hide ((unhide HRo).carry (unhide HBk))
        have HB1 := hide ((unhide HB).trans ((unhide HBk).mono (unhide HB).size))
        have x1 := (unhide HBx).c1
        have hs0 := (unhide HB1).size
        clear hV1 HBk HB HRo x0 z0 z1 z2 z3 v0 v1
        cases hof : nodeB V kind k with
        | true =>
          have HL : Hid (nodesR V kind (L.take (j + 1)) = nodesR V kind (L.take j) ++ [k.a]) := by
            unfold Hid
            rw [unhide HTk, nodesR_snoc, hof]
            rfl
          generalize nodesR V kind (L.take j) = Lj at *
          have HBy := hide (below_box V1 (.cells #[.int .i64 k.a] 3))
          have HRo2 := hide ((unhide HRo1).carry (unhide HBy))
          have HB2 := hide ((unhide HB1).trans ((unhide HBy).mono (unhide HB1).size))
          have hcy := cell_new V1 (.int .i64 k.a) 3
          have hLj : Lj.length ≤ 1000000 := by omega
          have hbs := (unhide HB2).size
          clear HRo1 HB1 HBy hof
          go_wp2_with (first
            | (at_builtin; refine wpList_appN _ rfl (.tmp 36) (.tmp 39) rfl w.heap.size _ Lj rfl (unhide HRo2) V1.heap.size k.a rfl hcy hLj hbs ?_))
          intro v9 W7 r1 r2
          have HR7 := hide r1
          have HB7 := hide (grown_below (unhide HB2) (unhide HRo2) r2 hbs)
          obtain ⟨ad7, cap7, rfl⟩ := row_slice (show World.ownsRow _ _ _ _ _ _ _ from r1)
          have hlen7 : (Lj ++ [k.a]).length = Lj.length + 1 := by simp
          rw [hlen7] at HR7
          clear r1 r2 HRo2 HB2 hcy hbs x1 hs0
          go_wp2
          go_roundw
          case rel => exact ⟨j + 1, by omega, by go_num, by rw [unhide HL]; first | exact unhide HR7 | (rw [hlen7]; exact unhide HR7), unhide HB7⟩
          case measure => simp [intOf]; omega
        | false =>
          have HL : Hid (nodesR V kind (L.take (j + 1)) = nodesR V kind (L.take j)) := by
            unfold Hid
            rw [unhide HTk, nodesR_snoc, hof]
            simp
          go_wp2
          go_roundw
          case rel => exact ⟨j + 1, by omega, by go_num, by rw [unhide HL]; exact unhide HRo1, unhide HB1⟩
          case measure => simp [intOf]; omega
    · obtain rfl : j = n := by omega
      have hlt' : ¬ (j : Int) < (j : Int) := by omega
      have HTl : Hid (L.take j = L) := by unfold Hid; rw [unhide HN]; exact List.take_length
      rw [unhide HTl] at HRo hle ⊢
      have HSo := hide (sort_Ints (nodesR V kind L) _ wr w.heap.size (by have := nodesR_le V kind L; have := unhide HN; omega) (unhide HRo))
      have HLe : Hid ((sorted (nodesR V kind L)).length = (nodesR V kind L).length) := sorted_length _
      go_wp2_with fail
      refine (unhide HSo).mono ?_
      rintro e W2 ⟨rfl, r1, r2⟩
      have HF : Hid (NextSays w (sorted (nodesR V kind L)) (.returned (.slice ado (nodesR V kind L).length co)) W2) := ⟨_, rfl, r1, grown_below (unhide HB) (unhide HRo) r2 (unhide HB).size⟩
      clear r1 r2 HSo HRo HB
      go_wp2
      go_ret
      exact unhide HF
def edgeB (V : Ky → ByteArray) (k : Ky) : Bool := decide (k.kind = 2) && isG V k.a && isG V k.b
theorem filter_snoc {p : Ky → Bool} (l : List Ky) (k : Ky) : (l ++ [k]).filter p = l.filter p ++ (if p k = true then [k] else []) := by
  rw [List.filter_append]
  congr 1
  cases h : p k <;> simp [h]
theorem grown_belowY {a w w' : World} {base : Nat} {v : Value} {L : List Ky} (hb : Below base a w) (hr : RowY w base v L) (hg : w.grownBy w' v.ownBlock) (hs : base ≤ w.heap.size) : Below base a w' :=
  hb.grown hg hs (fun i hi => (World.ownsRow.lt hr i hi).1)
def EdgesSay (w : World) (L : List Ky) (e : Ending) (w' : World) : Prop := ∃ v, e = .returned v ∧ RowY w' w.heap.size v L ∧ Below w.heap.size w w'
set_option maxRecDepth 100000 in
set_option maxHeartbeats 4000000 in
theorem rg_Edges {B : Nat} {w : World} {g : Nat} {V : Ky → ByteArray} {L : List Ky} (h : RefG B w g V L) :
    Calls Tryz.prog 27 #[.pointer (some ⟨g, 0, none⟩)] w (EdgesSay w (L.filter (edgeB V))) := by
  obtain ⟨b, ad, c, _, q0, hc⟩ := h.c0
  have HC := hide hc
  have hlen := h.len
  have HIs := hide (fun W (hb : Below w.heap.size w W) n => rg_Is (h.below hb) n)
  obtain ⟨n, hn⟩ : ∃ n, n = L.length := ⟨_, rfl⟩
  rw [← hn] at q0 hlen
  have HN := hide hn
  clear h hc hn
  go_enter Tryz.func27, Tryz.ntmps27
  go_wp2
  go_loopw [3, 11] (fun o i y => ∃ j : Nat, j ≤ n ∧ i = .int .i64 j ∧ RowY y w.heap.size o ((L.take j).filter (edgeB V)) ∧ Below w.heap.size w y) (fun _ i _ => n - (intOf i).toNat)
  case atStart => exact ⟨0, Nat.zero_le _, rfl, ⟨rfl, .inl ⟨rfl, rfl⟩⟩, Below.refl _ _⟩
  case round =>
    obtain ⟨j, hj, rfl, hro, hb⟩ := hrel
    have HRo := hide hro
    have HB := hide hb
    obtain ⟨ado, co, rfl⟩ := row_slice (show World.ownsRow _ _ _ _ _ _ _ from hro)
    have hle := List.length_filter_le (edgeB V) (L.take j)
    rw [List.length_take] at hle
    clear hro hb q0
    by_cases hlt : j < n
    · have hlt' : (j : Int) < (n : Int) := by omega
      have hj0 : (0 : Int) ≤ (j : Int) := by omega
      have hjl : j < L.length := by rw [← unhide HN]; exact hlt
      obtain ⟨rfl, a0, a1, a2, a3⟩ := unhide HC j hjl
      have HTk : Hid (L.take (j + 1) = L.take j ++ [L[j]]) := List.take_succ_eq_append_getElem hjl
      obtain ⟨k, hkk⟩ : ∃ k, k = L[j] := ⟨_, rfl⟩
      rw [← hkk] at a0 a1 a2 a3 HTk
      have z0 := there_yet a0 (unhide HB)
      have z1 := there_yet a1 (unhide HB)
      have z2 := there_yet a2 (unhide HB)
      have z3 := there_yet a3 (unhide HB)
      have HBk := hide (below_box wr (.cells #[.int .i64 k.kind, .int .i64 k.a, .string k.word, .int .i64 k.b] 32))
      have HBx := hide (boxK_new wr k)
      clear a0 a1 a2 a3 hkk hjl
      go_upto_region 5 with fail
      have HRo1 := hide ((unhide HRo).carry (unhide HBk))
      have HB1 := hide ((unhide HB).trans ((unhide HBk).mono (unhide HB).size))
      generalize hV1 : wr.alloc (.cells #[.int .i64 k.kind, .int .i64 k.a, .string k.word, .int .i64 k.b] 32) = V1 at *
      generalize hgb : wr.heap.size = gb at *
      clear hV1 hgb HBk HB HRo z0 z1 z2 z3
      go_cut [29] (fun s29 wx => s29 = .bool (edgeB V k) ∧ Below V1.heap.size V1 wx)
      case first =>
        have x0 := (unhide HBx).c0
        have x1 := (unhide HBx).c1
        by_cases h1 : k.kind = 2
        · cases ha : isG V k.a with
          | false =>
            have HO : Hid (edgeB V k = false) := by simp [Hid, edgeB, ha]
            have HI1 := hide (unhide HIs V1 (unhide HB1) k.a)
            rw [ha] at HI1
            go_wp2_with fail
            refine (unhide HI1).mono ?_
            rintro e W2 ⟨rfl, b2⟩
            have HB2 := hide b2
            clear b2
            go_wp2
            go_meet
            case rel => exact ⟨by rw [unhide HO], unhide HB2⟩
          | true =>
            have HI1 := hide (unhide HIs V1 (unhide HB1) k.a)
            rw [ha] at HI1
            go_wp2_with fail
            refine (unhide HI1).mono ?_
            rintro e W2 ⟨rfl, b2⟩
            have HB2 := hide b2
            have y3 := (((unhide HBx).below b2)).c3
            have HI2 := hide (unhide HIs W2 ((unhide HB1).trans (b2.mono (unhide HB1).size)) k.b)
            have HO : Hid (edgeB V k = isG V k.b) := by simp [Hid, edgeB, ha, h1]
            clear b2 x0 x1
            generalize isG V k.b = ib at *
            go_wp2_with fail
            refine (unhide HI2).mono ?_
            rintro e W3 ⟨rfl, b3⟩
            have HB3 := hide ((unhide HB2).trans (b3.mono (unhide HB2).size))
            clear b3
            go_wp2
            go_meet
            case rel => exact ⟨by rw [unhide HO], unhide HB3⟩
        · have HO : Hid (edgeB V k = false) := by simp [Hid, edgeB, h1]
          go_wp2
          go_meet
          case rel => exact ⟨by rw [unhide HO], Below.refl _ _⟩
      case rest =>
        obtain ⟨rfl, hbc⟩ := hcut
        have HRo3 := hide ((unhide HRo1).carry hbc)
        have HBx3 := hide ((unhide HBx).below hbc)
        have HB4 := hide ((unhide HB1).trans (hbc.mono (unhide HB1).size))
        clear hbc HRo1 HBx HB1
        cases hof : edgeB V k with
        | true =>
          have HL : Hid ((L.take (j + 1)).filter (edgeB V) = (L.take j).filter (edgeB V) ++ [k]) := by
            unfold Hid
            rw [unhide HTk, filter_snoc, hof]
            rfl
          generalize (L.take j).filter (edgeB V) = Lj at *
          have x0 := (unhide HBx3).c0
          have x1 := (unhide HBx3).c1
          have x2 := (unhide HBx3).c2
          have x3 := (unhide HBx3).c3
          have HBy := hide (below_box wc (.cells #[.int .i64 k.kind, .int .i64 k.a, .string k.word, .int .i64 k.b] 32))
          have HKy := hide (boxK_new wc k)
          have HRo2 := hide ((unhide HRo3).carry (unhide HBy))
          have HB2 := hide ((unhide HB4).trans ((unhide HBy).mono (unhide HB4).size))
          have hLj : Lj.length ≤ 100000 := by omega
          have hbs := (unhide HB2).size
          clear HRo3 HB4 HBy hof
          go_wp2_with (first
            | (at_builtin; refine wpList_appY _ rfl (.tmp 30) (.tmp 32) rfl w.heap.size _ Lj rfl (unhide HRo2) wc.heap.size k rfl (unhide HKy) hLj hbs ?_))
          intro v9 W7 r1 r2
          have HR7 := hide r1
          have HB7 := hide (grown_belowY (unhide HB2) (unhide HRo2) r2 hbs)
          obtain ⟨ad7, cap7, rfl⟩ := row_slice (show World.ownsRow _ _ _ _ _ _ _ from r1)
          have hlen7 : (Lj ++ [k]).length = Lj.length + 1 := by simp
          rw [hlen7] at HR7
          clear r1 r2 HRo2 HB2 HKy hbs x0 x1 x2 x3
          go_wp2
          go_roundw
          case rel => exact ⟨j + 1, by omega, by go_num, by rw [unhide HL]; first | exact unhide HR7 | (rw [hlen7]; exact unhide HR7), unhide HB7⟩
          case measure => simp [intOf]; omega
        | false =>
          have HL : Hid ((L.take (j + 1)).filter (edgeB V) = (L.take j).filter (edgeB V)) := by
            unfold Hid
            rw [unhide HTk, filter_snoc, hof]
            simp
          go_wp2
          go_roundw
          case rel => exact ⟨j + 1, by omega, by go_num, by rw [unhide HL]; exact unhide HRo3, unhide HB4⟩
          case measure => simp [intOf]; omega
    · obtain rfl : j = n := by omega
      have hlt' : ¬ (j : Int) < (j : Int) := by omega
      have HTl : Hid (L.take j = L) := by unfold Hid; rw [unhide HN]; exact List.take_length
      rw [unhide HTl] at HRo hle ⊢
      go_wp2
      go_ret
      exact ⟨_, rfl, unhide HRo, unhide HB⟩
end Go.Proofs.YtfoojmflbifkpaaGreatDoor
