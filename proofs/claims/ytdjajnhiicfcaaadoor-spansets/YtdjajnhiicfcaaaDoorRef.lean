/- The document's own set of spans, and what it has. -/
import Derived.Test.YtdjajnhiicfcaaaDoorIn
import Derived.Test.YtdjajnhiicfcaaaDoorWhere
namespace Go.Proofs.YtdjajnhiicfcaaaDoor
open Go.RowKit Palim

theorem rises_of_pairwise (l : List Int) (h : l.Pairwise fun x y => decide (x ≤ y) = true) : Rises l := by
  induction l with
  | nil => trivial
  | cons x l ih =>
    rw [List.pairwise_cons] at h
    exact ⟨fun e he => by simpa using h.1 e he, ih h.2⟩

theorem rises_sorted (l : List Int) : Rises (sorted l) :=
  rises_of_pairwise _ (List.pairwise_mergeSort (fun a b c h1 h2 => by simp at *; omega) (fun a b => by simp; omega) l)

theorem mem_sorted (l : List Int) (x : Int) : x ∈ sorted l ↔ x ∈ l := List.mem_mergeSort

/-- What Where tells of times that are so or not by ends of a list. -/
theorem go_sorted (p : Int → Bool) (l : List Int)
    (hs : ∀ x y, x ≤ y → (∀ e, e ∈ l → ¬ (x < e ∧ e ≤ y)) → p x = p y)
    (hlo : ∀ x, (∀ e, e ∈ l → x < e) → p x = false) (hhi : ∀ x, (∀ e, e ∈ l → e ≤ x) → p x = false) :
    Canon (go p (sorted l) none) ∧ ∀ t, In (go p (sorted l) none) t ↔ p t = true :=
  go_all p (sorted l) (rises_sorted l) (fun x y h1 h2 => hs x y h1 fun e he => h2 e ((mem_sorted l e).2 he))
    (fun x h => hlo x fun e he => h e ((mem_sorted l e).2 he)) (fun x h => hhi x fun e he => h e ((mem_sorted l e).2 he))

/-- What a slice of spans holds that came in. -/
def Reads (w : World) (v : Value) (l : List (Int × Int)) : Prop :=
  ∃ ad cap, v = .slice ad l.length cap ∧ (l = [] ∨ ∃ b off, ad = some ⟨b, off, none⟩ ∧ b < w.heap.size ∧ ∀ k, (hk : k < l.length) → w.cell? ⟨b, off + k * 2, none⟩ = some (.int .i64 l[k].1) ∧ w.cell? ⟨b, off + k * 2 + 1, none⟩ = some (.int .i64 l[k].2))

theorem Reads.carry {w w' : World} {v : Value} {l : List (Int × Int)} (h : Reads w v l) (hb : Below w.heap.size w w') : Reads w' v l := by
  obtain ⟨ad, cap, h1, h2⟩ := h
  refine ⟨ad, cap, h1, ?_⟩
  rcases h2 with h2 | ⟨b, off, h3, h4, h5⟩
  · exact Or.inl h2
  · exact Or.inr ⟨b, off, h3, Nat.lt_of_lt_of_le h4 hb.size, fun k hk => ⟨(hb.cell (p := ⟨b, off + k * 2, none⟩) h4).trans (h5 k hk).1, (hb.cell (p := ⟨b, off + k * 2 + 1, none⟩) h4).trans (h5 k hk).2⟩⟩

/-- In, of a slice of spans. -/
theorem ref_In {l : List (Int × Int)} {v : Value} {w : World} (t : Int) (hl : l.length < 1099511627776) (h : Reads w v l) : Calls Tryd.prog 12 #[v, .int .i64 t] w fun e w' => e = .returned (.bool (inL l t)) ∧ G w w' := by
  obtain ⟨ad, cap, rfl, h2⟩ := h
  rcases h2 with rfl | ⟨b, off, rfl, h4, h5⟩
  · exact in_none ad cap t w
  · exact in_cells l b off cap t w hl h4 h5

theorem reads_own {w : World} {base : Nat} {e : TypeId} {v : Value} {l : List (Int × Int)} (h : w.ownsRow base e 2 v l.length (encs l)) : Reads w v l := by
  rcases ownsRow_view h with ⟨rfl, rfl⟩ | ⟨g, cap, rfl, hg, _, _, hc⟩
  · exact ⟨none, 0, rfl, Or.inl rfl⟩
  · exact ⟨some ⟨g, 0, none⟩, cap, rfl, Or.inr ⟨g, 0, rfl, hg, fun k hk => by simpa using hc k hk⟩⟩

/-- What the function says that looks for a time among the spans that it caught. -/
theorem of1_says {l : List (Int × Int)} {v : Value} {w : World} (B : Nat) (hl : l.length < 1099511627776) (h : Reads w v l) (hB : w.cell? ⟨B, 0, none⟩ = some v) (hBl : B < w.heap.size) : Says w 22 #[.pointer (some ⟨B, 0, none⟩)] (inL l) := by
  intro W t hb
  have h' := h.carry hb
  have hB' := (hb.cell (p := ⟨B, 0, none⟩) hBl).trans hB
  obtain ⟨ad, cap, rfl, h2⟩ := h'
  rcases h2 with rfl | ⟨b, off, rfl, h4, h5⟩
  · exact (of1_none ad cap t B W hB').mono fun _ _ k => ⟨k.1, k.2.below⟩
  · exact (of1_cells l b off cap t B W hB' hl h4 h5).mono fun _ _ k => ⟨k.1, k.2.below⟩

set_option maxHeartbeats 2000000 in
theorem of_gather (l : List (Int × Int)) (b off cap : Nat) (w : World) (hl : l.length < 1099511627) (hb0 : b < w.heap.size)
    (hc : ∀ k, (hk : k < l.length) → w.cell? ⟨b, off + k * 2, none⟩ = some (.int .i64 l[k].1) ∧ w.cell? ⟨b, off + k * 2 + 1, none⟩ = some (.int .i64 l[k].2)) :
    Calls Tryd.prog 6 #[.slice (some ⟨b, off, none⟩) l.length cap] w (Gives w (go (inL l) (sorted (sides l)) none)) := by
  have hBx : Below w.heap.size w (w.alloc (.cells #[.slice (some ⟨b, off, none⟩) l.length cap] 22)) := (Below.refl _ _).alloc (Nat.le_refl _) _
  have hRd : Reads w (.slice (some ⟨b, off, none⟩) l.length cap) l := ⟨_, cap, rfl, Or.inr ⟨b, off, rfl, hb0, hc⟩⟩
  have HRD := hide hRd
  have HC := hide hc
  have HBX := hide hBx
  clear hc hRd hBx
  have eg22 : ∀ args w, (callFunc 22 args).run Tryd.prog w = .ok (.enter 22 args) w := enters_of Tryd.func22 (by kernel_rfl) rfl
  go_enter Tryd.func6, Tryd.ntmps6
  go_wp2
  go_loopw [3, 8] (fun v i wr => ∃ j : Nat, j ≤ l.length ∧ i = .int .i64 j ∧ wr.ownsRow (w.heap.size + 1) 3 1 v (sides (l.take j)).length ((sides (l.take j)).map (Value.int .i64)) ∧ Below (w.heap.size + 1) (w.alloc (.cells #[.slice (some ⟨b, off, none⟩) l.length cap] 22)) wr) (fun _ i _ => l.length - (intOf i).toNat)
  case atStart => exact ⟨0, Nat.zero_le _, rfl, World.ownsRow_nil _ _ _ _, Below.refl _ _⟩
  case round =>
    obtain ⟨j, hj, rfl, hownj, hbj⟩ := hrel
    have hzj : w.heap.size + 1 ≤ wr.heap.size := by have := hbj.size; simpa using this
    by_cases hjl : j < l.length
    · have hc0 := ((hbj.cell (p := ⟨b, off + j * 2, none⟩) (by show b < _; omega)).trans ((unhide HBX).cell (p := ⟨b, off + j * 2, none⟩) hb0)).trans (unhide HC j hjl).1
      have hc1 := ((hbj.cell (p := ⟨b, off + j * 2 + 1, none⟩) (by show b < _; omega)).trans ((unhide HBX).cell (p := ⟨b, off + j * 2 + 1, none⟩) hb0)).trans (unhide HC j hjl).2
      have hst := sides_take l j hjl
      have hsl : (sides (l.take j)).length < 1099511627776 := by rw [sides_length]; simp; omega
      have HST := hide hst
      clear hst
      generalize l[j].1 = x1 at hc0 HST
      generalize l[j].2 = x2 at hc1 HST
      have HOJ := hide hownj
      have HBJ := hide hbj
      clear hownj hbj HC
      have hF1 : ∃ F, F = sides (l.take j) := ⟨_, rfl⟩
      obtain ⟨F, hF⟩ := hF1
      rw [← hF] at HOJ HST hsl
      clear hF
      go_wp2_with (at_builtin; refine wpList_app3 _ rfl (.tmp 12) (.tmp 17) rfl (w.heap.size + 1) _ F rfl (((unhide HOJ).alloc _).alloc _) (wr.heap.size + 1) x1 x2 rfl ?d0 ?d1 hsl ?d3 ?_)
      case d0 => simp
      case d1 => simp
      case d3 => simp; omega
      intro v' wn k1 k2
      have HBN := hide (ends_step hzj (unhide HBJ) (unhide HOJ) k2)
      have HON : Hid (wn.ownsRow (w.heap.size + 1) 3 1 v' (sides (l.take (j + 1))).length ((sides (l.take (j + 1))).map (Value.int .i64))) := by unfold Hid; rw [unhide HST]; simpa using k1
      clear k1 k2
      go_wp2
      go_roundw
      case rel => exact ⟨j + 1, by omega, by go_num, HON.out, unhide HBN⟩
      case measure => simp [intOf]; omega
    · have hkl : l.take j = l := List.take_of_length_le (by omega)
      rw [hkl] at hownj
      have hsl : (sides l).length < 1099511627776 := by rw [sides_length]; omega
      have HS := hide (sort_Ints (sides l) _ wr _ hsl hownj)
      have HO := hide hownj
      have HB := hide hbj
      clear hownj hbj hkl HC
      go_wp2_with fail
      refine (unhide HS).mono ?_
      rintro e w1 ⟨rfl, o1, g1⟩
      have hb1 := (unhide HB).grown g1 hzj (fun k hk => ((unhide HO).lt k hk).1)
      have hbw := (unhide HBX).trans (hb1.mono (by omega))
      have hcell : w1.cell? ⟨w.heap.size, 0, none⟩ = some (.slice (some ⟨b, off, none⟩) l.length cap) := (hb1.cell (p := ⟨w.heap.size, 0, none⟩) (by show w.heap.size < _; omega)).trans (by simp)
      have hz1 : w.heap.size < w1.heap.size := by have := hb1.size; simp at this; omega
      have hsay := of1_says w.heap.size (by omega) ((unhide HRD).carry hbw) hcell hz1
      have HW := hide (ref_Where (sorted (sides l)) (inL l) 22 #[.pointer (some ⟨w.heap.size, 0, none⟩)] _ _ w1 (by rw [sorted_length]; exact hsl) eg22 o1 hsay)
      have HBW := hide hbw
      clear o1 g1 hb1 hbw hcell hsay HS HO HB HRD HBX
      go_wp2_with fail
      refine (unhide HW).mono ?_
      rintro e w2 ⟨v2, rfl, o2, b2⟩
      have HF := hide (And.intro (ownsRow_rebase o2 (Nat.le_of_lt hz1)) ((unhide HBW).trans (b2.mono (Nat.le_of_lt hz1))))
      clear o2 b2 HW HBW
      go_wp2
      go_ret
      exact ⟨_, rfl, (unhide HF).1, (unhide HF).2⟩

set_option maxHeartbeats 2000000 in
theorem of_gather_none (ad : Option Addr) (cap : Nat) (w : World) : Calls Tryd.prog 6 #[.slice ad 0 cap] w (Gives w (go (inL []) (sorted (sides [])) none)) := by
  have eg22 : ∀ args w, (callFunc 22 args).run Tryd.prog w = .ok (.enter 22 args) w := enters_of Tryd.func22 (by kernel_rfl) rfl
  have HS := hide (sort_Ints [] (.slice none 0 0) (w.alloc (.cells #[.slice ad 0 cap] 22)) 0 (by simp) (World.ownsRow_nil _ _ _ _))
  go_enter Tryd.func6, Tryd.ntmps6
  go_wp2
  refine wp_loop_rounds 1 ?_
  rw [rounds_succ]
  go_wp2_with fail
  refine (unhide HS).mono ?_
  rintro e w1 ⟨rfl, o1, g1⟩
  have hb1 := below_grown_none g1
  have hcell : w1.cell? ⟨w.heap.size, 0, none⟩ = some (.slice ad 0 cap) := (hb1.cell (p := ⟨w.heap.size, 0, none⟩) (by simp)).trans (by simp)
  have hz1 : w.heap.size < w1.heap.size := by have := hb1.size; simp at this; omega
  have hsay := of1_says (l := []) w.heap.size (by simp) ⟨ad, cap, rfl, Or.inl rfl⟩ hcell hz1
  have HW := hide (ref_Where (sorted (sides [])) (inL []) 22 #[.pointer (some ⟨w.heap.size, 0, none⟩)] _ _ w1 (by rw [sorted_length]; simp [sides]) eg22 o1 hsay)
  have HBW : Hid (Below w.heap.size w w1) := ((Below.refl _ _).alloc (Nat.le_refl _) _).trans (hb1.mono (by simp))
  clear o1 g1 hb1 hcell hsay HS
  go_wp2_with fail
  refine (unhide HW).mono ?_
  rintro e w2 ⟨v2, rfl, o2, b2⟩
  have HF := hide (And.intro (ownsRow_rebase o2 (Nat.le_of_lt hz1)) ((unhide HBW).trans (b2.mono (Nat.le_of_lt hz1))))
  clear o2 b2 HW HBW
  go_wp2
  go_ret
  exact ⟨_, rfl, (unhide HF).1, (unhide HF).2⟩

/-- What the document's own answer is, of spans. -/
def RefGives (w : World) (l : List (Int × Int)) (e : Ending) (w' : World) : Prop := ∃ R, Canon R ∧ (∀ t, In R t ↔ In l t) ∧ R.length ≤ l.length * 2 ∧ Gives w R e w'

theorem go_length (p : Int → Bool) : ∀ (ts : List Int) (o : Option Int), (go p ts o).length ≤ ts.length + (match o with | none => 0 | some _ => 1)
  | [], none => by simp [go]
  | [], some f => by simp [go]
  | t :: ts, none => by
      have h1 := go_length p ts none
      have h2 := go_length p ts (some t)
      simp only at h1 h2
      unfold go
      split <;> simp <;> omega
  | t :: ts, some f => by
      have h1 := go_length p ts none
      have h2 := go_length p ts (some f)
      simp only at h1 h2
      unfold go
      split <;> simp <;> omega

theorem ref_Of (l : List (Int × Int)) (v : Value) (w : World) (hl : l.length < 1099511627) (h : Reads w v l) : Calls Tryd.prog 6 #[v] w (RefGives w l) := by
  have g := go_sorted (inL l) (sides l) (fun x y hxy hn => inL_steps l x y hxy hn) (fun x hn => inL_low l x hn) (fun x hn => inL_high l x hn)
  have hlen := go_length (inL l) (sorted (sides l)) none
  rw [sorted_length, sides_length] at hlen
  obtain ⟨ad, cap, rfl, h2⟩ := h
  rcases h2 with rfl | ⟨b, off, rfl, h4, h5⟩
  · exact (of_gather_none ad cap w).mono fun e w' k => ⟨_, g.1, fun t => by rw [g.2 t, inL_iff], by simpa using hlen, k⟩
  · exact (of_gather l b off cap w hl h4 h5).mono fun e w' k => ⟨_, g.1, fun t => by rw [g.2 t, inL_iff], by simpa using hlen, k⟩

/-- What the k-th of the three makes of two. -/
def kf (k : Nat) (x y : Bool) : Bool := match k with | 0 => x || y | 1 => x && y | _ => x && !y

/-- What the function that the statement hands on has caught: two lists, and which of the three. -/
def Caught (W : World) (P Q K : Nat) (p q : List (Int × Int)) (k : Nat) : Prop :=
  ∃ vp vq, W.cell? ⟨P, 0, none⟩ = some vp ∧ W.cell? ⟨Q, 0, none⟩ = some vq ∧ W.cell? ⟨K, 0, none⟩ = some (.int .i64 k) ∧ Reads W vp p ∧ Reads W vq q ∧ P < W.heap.size ∧ Q < W.heap.size ∧ K < W.heap.size

theorem Caught.carry {W W' : World} {P Q K : Nat} {p q : List (Int × Int)} {k : Nat} (h : Caught W P Q K p q k) (hb : Below W.heap.size W W') : Caught W' P Q K p q k := by
  obtain ⟨vp, vq, h1, h2, h3, h4, h5, h6, h7, h8⟩ := h
  exact ⟨vp, vq, (hb.cell (p := ⟨P, 0, none⟩) h6).trans h1, (hb.cell (p := ⟨Q, 0, none⟩) h7).trans h2, (hb.cell (p := ⟨K, 0, none⟩) h8).trans h3, h4.carry hb, h5.carry hb, Nat.lt_of_lt_of_le h6 hb.size, Nat.lt_of_lt_of_le h7 hb.size, Nat.lt_of_lt_of_le h8 hb.size⟩

set_option maxHeartbeats 4000000 in
theorem caught_says1 (W : World) (P Q K : Nat) (p q : List (Int × Int)) (k : Nat) (t : Int) (hp : p.length < 1099511627776) (hq : q.length < 1099511627776) (hk : k = 0 ∨ k = 1 ∨ k = 2) (h : Caught W P Q K p q k) :
    Calls Tryd.prog 15 #[.int .i64 t, .pointer (some ⟨P, 0, none⟩), .pointer (some ⟨Q, 0, none⟩), .pointer (some ⟨K, 0, none⟩)] W fun e w' => e = .returned (.bool (kf k (inL p t) (inL q t))) ∧ Below W.heap.size W w' := by
  have mixed : Tryd.prog.follows .mixedOrders = true := by kernel_rfl
  obtain ⟨vp, vq, h1, h2, h3, h4, h5, h6, h7, h8⟩ := h
  have gb : ∀ n os, Below W.heap.size W (Go.Sort.grow (W.drewN n) os) := fun n os => G.below ⟨n, os, rfl⟩
  have l1 : ∀ n os, (Go.Sort.grow (W.drewN n) os).cell? ⟨P, 0, none⟩ = some vp := cell_grown h6 h1
  have l2 : ∀ n os, (Go.Sort.grow (W.drewN n) os).cell? ⟨Q, 0, none⟩ = some vq := cell_grown h7 h2
  have l3 : ∀ n os, (Go.Sort.grow (W.drewN n) os).cell? ⟨K, 0, none⟩ = some (.int .i64 k) := cell_grown h8 h3
  have RP := hide (fun n os => ref_In t hp (h4.carry (gb n os)))
  have RQ := hide (fun n os => ref_In t hq (h5.carry (gb n os)))
  clear h1 h2 h3 h4 h5 gb
  generalize inL p t = x at RP ⊢
  generalize inL q t = y at RQ ⊢
  go_enter Tryd.func15, Tryd.ntmps15
  go_wp2
  go_quiet_grown (first | (go_at_call_of 12 (vp); refine Calls.grown_of (unhide RP _ _)) | (go_at_call_of 12 (vq); refine Calls.grown_of (unhide RQ _ _)))
  have m3 := l3 nq osq
  have hbe : Below W.heap.size W (Go.Sort.grow (W.drewN nq) osq) := G.below ⟨nq, osq, rfl⟩
  change Exit.then _ _ _ _ (Go.Sort.grow (W.drewN nq) osq)
  generalize Go.Sort.grow (W.drewN nq) osq = w1 at m3 hbe ⊢
  have HB := hide hbe
  clear l1 l2 l3 hbe RP RQ
  rcases hk with rfl | rfl | rfl
  all_goals cases x <;> cases y
  all_goals
    go_wp2
    go_ret
    exact ⟨rfl, unhide HB⟩

theorem caught_says {W : World} {P Q K : Nat} {p q : List (Int × Int)} {k : Nat} (hp : p.length < 1099511627776) (hq : q.length < 1099511627776) (hk : k = 0 ∨ k = 1 ∨ k = 2) (h : Caught W P Q K p q k) :
    Says W 15 #[.pointer (some ⟨P, 0, none⟩), .pointer (some ⟨Q, 0, none⟩), .pointer (some ⟨K, 0, none⟩)] (fun t => kf k (inL p t) (inL q t)) :=
  fun W' t hb => caught_says1 W' P Q K p q k t hp hq hk (h.carry hb)

end Go.Proofs.YtdjajnhiicfcaaaDoor
