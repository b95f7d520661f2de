/- What going through the sides of two sets at once makes of them. -/
import Derived.Test.YtdjajnhiicfcaaaDoorSet
import Derived.Test.YtdjajnhiicfcaaaDoorMath2
namespace Go.Proofs.YtdjajnhiicfcaaaDoor
open Go.RowKit Palim

theorem getD_drop (A : List Int) (hA : SRises A) (i : Nat) (m : Int) : (∀ e, e ∈ A.drop i → A.getD i m ≤ e) ∧ (i < A.length → A[i]? = some (A.getD i m)) ∧ (¬ i < A.length → A.getD i m = m) := by
  refine ⟨?_, ?_, ?_⟩
  · intro e he
    by_cases hi : i < A.length
    · have d := drop_step A hA i hi
      have g : A.getD i m = A[i] := by simp [List.getD, List.getElem?_eq_getElem hi]
      rw [g]
      rcases (d.1 e).1 he with rfl | a
      · exact Int.le_refl _
      · have := d.2.1 e a; omega
    · rw [List.drop_eq_nil_of_le (by omega)] at he; simp at he
  · intro hi; simp [List.getD, List.getElem?_eq_getElem hi]
  · intro hi; simp [List.getD, List.getElem?_eq_none (show A.length ≤ i by omega)]

theorem getD_lt (A : List Int) (i : Nat) (m : Int) (hm : ∀ e, e ∈ A → e < m) (hi : i < A.length) : A.getD i m < m := by
  have g : A.getD i m = A[i] := by simp [List.getD, List.getElem?_eq_getElem hi]
  rw [g]; exact hm _ (List.getElem_mem hi)

/-- Sides of times that may be. -/
def Bd (l : List (Int × Int)) : Prop := ∀ x, x ∈ l → -1099511627776 ≤ x.1 ∧ x.2 ≤ 1099511627776

theorem Bd.sides {l : List (Int × Int)} (h : Bd l) (hc : Canon l) : ∀ e, e ∈ sides l → e < 9223372036854775807 := by
  intro e he
  obtain ⟨x, hx, h1⟩ := (mem_sides l e).1 he
  have := h x hx
  have := canon_lt hc x hx
  rcases h1 with rfl | rfl <;> omega

theorem odd_cast (i : Nat) : (((i : Int) % 2 == 1) : Bool) = (i % 2 == 1) := by
  rw [Bool.eq_iff_iff]; simp; omega
theorem odd_cast1 (i : Nat) : ((((i : Int) + 1) % 2 == 1) : Bool) = ((i + 1) % 2 == 1) := by
  rw [Bool.eq_iff_iff]; simp; omega

section
variable {a b : List (Int × Int)} {k : Bool → Bool → Bool} {R : List (Int × Int)} {i j : Nat} {done : List (Int × Int)} {o : Option Int}

theorem step_p (ha : Canon a) (hb : Canon b) : ∀ i j t, i ≤ (sides a).length → j ≤ (sides b).length → (∀ x, x ∈ (sides a).take i → x ≤ t) → (∀ x, x ∈ (sides a).drop i → t < x) → (∀ x, x ∈ (sides b).take j → x ≤ t) → (∀ x, x ∈ (sides b).drop j → t < x) → (fun t => k (inL a t) (inL b t)) t = k (i % 2 == 1) (j % 2 == 1) := by
  intro i j t h1 h2 h3 h4 h5 h6
  show k (inL a t) (inL b t) = _
  rw [inL_odd ha i t h1 h3 h4, inL_odd hb j t h2 h5 h6]

theorem step_lt (ha : Canon a) (hb : Canon b) (bb : Bd b) (h : SInv (sides a) (sides b) k (fun t => k (inL a t) (inL b t)) R i j done o) (hlt : sideAt a i < sideAt b j) :
    i < (sides a).length ∧ SInv (sides a) (sides b) k (fun t => k (inL a t) (inL b t)) R (i + 1) j (doneAt (k ((i + 1) % 2 == 1) (j % 2 == 1)) o (sideAt a i) done) (openAt (k ((i + 1) % 2 == 1) (j % 2 == 1)) o (sideAt a i)) := by
  have ga := getD_drop (sides a) (srises_sides ha) i 9223372036854775807
  have gb := getD_drop (sides b) (srises_sides hb) j 9223372036854775807
  have hi : i < (sides a).length := by
    by_cases hi : i < (sides a).length
    · exact hi
    · exfalso
      have e1 := ga.2.2 hi
      by_cases hj : j < (sides b).length
      · have := getD_lt (sides b) j 9223372036854775807 (bb.sides hb) hj
        unfold sideAt at hlt; omega
      · have e2 := gb.2.2 hj
        unfold sideAt at hlt; omega
  refine ⟨hi, ?_⟩
  refine sinv_step (srises_sides ha) (srises_sides hb) (step_p ha hb) h (sideAt a i) (i + 1) j (Or.inl ⟨hi, ga.2.1 hi, rfl⟩) (Or.inr ⟨rfl, ?_⟩) (Or.inl (by omega))
  intro x hx
  have := gb.1 x hx
  unfold sideAt at hlt ⊢; omega

theorem step_gt (ha : Canon a) (hb : Canon b) (ba : Bd a) (h : SInv (sides a) (sides b) k (fun t => k (inL a t) (inL b t)) R i j done o) (hlt : sideAt b j < sideAt a i) :
    j < (sides b).length ∧ SInv (sides a) (sides b) k (fun t => k (inL a t) (inL b t)) R i (j + 1) (doneAt (k (i % 2 == 1) ((j + 1) % 2 == 1)) o (sideAt b j) done) (openAt (k (i % 2 == 1) ((j + 1) % 2 == 1)) o (sideAt b j)) := by
  have ga := getD_drop (sides a) (srises_sides ha) i 9223372036854775807
  have gb := getD_drop (sides b) (srises_sides hb) j 9223372036854775807
  have hj : j < (sides b).length := by
    by_cases hj : j < (sides b).length
    · exact hj
    · exfalso
      have e1 := gb.2.2 hj
      by_cases hi : i < (sides a).length
      · have := getD_lt (sides a) i 9223372036854775807 (ba.sides ha) hi
        unfold sideAt at hlt; omega
      · have e2 := ga.2.2 hi
        unfold sideAt at hlt; omega
  refine ⟨hj, ?_⟩
  refine sinv_step (srises_sides ha) (srises_sides hb) (step_p ha hb) h (sideAt b j) i (j + 1) (Or.inr ⟨rfl, ?_⟩) (Or.inl ⟨hj, gb.2.1 hj, rfl⟩) (Or.inr (by omega))
  intro x hx
  have := ga.1 x hx
  unfold sideAt at hlt ⊢; omega

theorem step_eq (ha : Canon a) (hb : Canon b) (ba : Bd a) (bb : Bd b) (h : SInv (sides a) (sides b) k (fun t => k (inL a t) (inL b t)) R i j done o) (hsome : i < (sides a).length ∨ j < (sides b).length) (heq : sideAt a i = sideAt b j) :
    i < (sides a).length ∧ j < (sides b).length ∧ SInv (sides a) (sides b) k (fun t => k (inL a t) (inL b t)) R (i + 1) (j + 1) (doneAt (k ((i + 1) % 2 == 1) ((j + 1) % 2 == 1)) o (sideAt a i) done) (openAt (k ((i + 1) % 2 == 1) ((j + 1) % 2 == 1)) o (sideAt a i)) := by
  have ga := getD_drop (sides a) (srises_sides ha) i 9223372036854775807
  have gb := getD_drop (sides b) (srises_sides hb) j 9223372036854775807
  have hi : i < (sides a).length := by
    by_cases hi : i < (sides a).length
    · exact hi
    · exfalso
      have hj : j < (sides b).length := by rcases hsome with h | h; · exact absurd h hi
                                           · exact h
      have e1 := ga.2.2 hi
      have := getD_lt (sides b) j 9223372036854775807 (bb.sides hb) hj
      unfold sideAt at heq; omega
  have hj : j < (sides b).length := by
    by_cases hj : j < (sides b).length
    · exact hj
    · exfalso
      have e1 := gb.2.2 hj
      have := getD_lt (sides a) i 9223372036854775807 (ba.sides ha) hi
      unfold sideAt at heq; omega
  refine ⟨hi, hj, ?_⟩
  refine sinv_step (srises_sides ha) (srises_sides hb) (step_p ha hb) h (sideAt a i) (i + 1) (j + 1) (Or.inl ⟨hi, ga.2.1 hi, rfl⟩) (Or.inl ⟨hj, ?_, rfl⟩) (Or.inl (by omega))
  rw [heq]; exact gb.2.1 hj
end

def cntO : Option Int → Nat
  | none => 0
  | some _ => 1

set_option maxHeartbeats 4000000 in
theorem sweep_cells (a b : List (Int × Int)) (k : Bool → Bool → Bool) (R : List (Int × Int)) (g : Nat) (ada adb : Option Addr) (capa capb : Nat) (w : World) (ha : Canon a) (hb : Canon b) (ba : Bd a) (bb : Bd b)
    (la : a.length < 1099511627) (lb : b.length < 1099511627) (hk0 : k false false = false)
    (eg : ∀ args w, (callFunc g args).run Tryd.prog w = .ok (.enter g args) w)
    (hk : ∀ x y W, Calls Tryd.prog g #[.bool x, .bool y] W fun e w' => e = .returned (.bool (k x y)) ∧ w' = W)
    (hsa : ∀ i W, Below w.heap.size w W → Calls Tryd.prog 43 #[.slice ada a.length capa, .int .i64 (i : Nat)] W fun e w' => e = .returned (.int .i64 (sideAt a i)) ∧ w' = W)
    (hsb : ∀ i W, Below w.heap.size w W → Calls Tryd.prog 43 #[.slice adb b.length capb, .int .i64 (i : Nat)] W fun e w' => e = .returned (.int .i64 (sideAt b i)) ∧ w' = W)
    (h0 : SInv (sides a) (sides b) k (fun t => k (inL a t) (inL b t)) R 0 0 [] none) :
    Calls Tryd.prog 34 #[.slice ada a.length capa, .slice adb b.length capb, .func (.func g) #[] #[]] w fun e w' => R.length ≤ a.length + b.length ∧ GivesS w R e w' := by
  have HSA := hide hsa
  have HSB := hide hsb
  have HK := hide hk
  have HK0 := hide hk0
  have H0 := hide h0
  clear hsa hsb hk hk0 h0
  have sla := sides_length a
  have slb := sides_length b
  have HLA := hide sla
  have HLB := hide slb
  clear sla slb
  go_enter Tryd.func34, Tryd.ntmps34
  go_wp2
  go_loopw [7, 8, 9, 10, 11] (fun v fr inn iv jv wr => ∃ (i j : Nat) (done : List (Int × Int)) (o : Option Int), iv = .int .i64 i ∧ jv = .int .i64 j ∧ inn = .bool o.isSome ∧ (∃ z, fr = .int .i64 z ∧ ∀ f, o = some f → z = f) ∧ SInv (sides a) (sides b) k (fun t => k (inL a t) (inL b t)) R i j done o ∧ 2 * done.length + cntO o ≤ i + j ∧ wr.ownsRow w.heap.size 54 2 v done.length (encs done) ∧ Below w.heap.size w wr) (fun _ _ _ iv jv _ => (2 * a.length - (intOf iv).toNat) + (2 * b.length - (intOf jv).toNat))
  case atStart => exact ⟨0, 0, [], none, rfl, rfl, rfl, ⟨0, rfl, by simp⟩, unhide H0, Nat.le_refl _, World.ownsRow_nil _ _ _ _, Below.refl _ _⟩
  case round =>
    obtain ⟨i, j, done, o, rfl, rfl, rfl, ⟨z, rfl, hz⟩, hinv, hdl, hown, hbe⟩ := hrel
    have hbi : i ≤ 2 * a.length := by have := hinv.1; rw [unhide HLA] at this; omega
    have hbj : j ≤ 2 * b.length := by have := hinv.2.1; rw [unhide HLB] at this; omega
    have HS1 := hide (unhide HSA i wr hbe)
    have HS2 := hide (unhide HSB j wr hbe)
    by_cases hij : i < 2 * a.length ∨ j < 2 * b.length
    · have hlt := @step_lt a b k R i j done o ha hb bb hinv
      have hgt := @step_gt a b k R i j done o ha hb ba hinv
      have heq := @step_eq a b k R i j done o ha hb ba bb hinv (by rw [unhide HLA, unhide HLB]; omega)
      have HO := hide hown
      have HB := hide hbe
      have HZ := hide hz
      have hsz := hbe.size
      clear hinv hown hbe hz
      generalize sideAt a i = x at HS1 hlt hgt heq
      generalize sideAt b j = y at HS2 hlt hgt heq
      rcases Int.lt_trichotomy x y with hxy | hxy | hxy
      · obtain ⟨hi1, hnew⟩ := hlt hxy
        rw [unhide HLA] at hi1
        have hi2 : i < 2 * a.length := by omega
        have HN := hide hnew
        have hmn : min x y = x := by omega
        clear hlt hgt heq hnew
        go_wp2_with fail
        refine (unhide HS1).mono ?_
        rintro e w1 ⟨rfl, rfl⟩
        go_wp2_with fail
        refine (unhide HS2).mono ?_
        rintro e w2 ⟨rfl, rfl⟩
        go_wp2_with fail
        refine (unhide HK _ _ _).mono ?_
        rintro e w3 ⟨rfl, rfl⟩
        rw [odd_cast1, odd_cast]
        generalize k ((i + 1) % 2 == 1) (j % 2 == 1) = nb at HN ⊢
        clear HK HS1 HS2
        cases nb
        · cases o with
          | none =>
            go_wp2
            go_roundw
            case rel => exact ⟨(i + 1), j, done, none, by go_num, rfl, rfl, ⟨z, rfl, by simp⟩, unhide HN, by simp only [cntO] at hdl ⊢; omega, unhide HO, unhide HB⟩
            case measure => simp [intOf]; omega
          | some f =>
            have hzf := unhide HZ f rfl
            subst hzf
            go_wp2_with (at_builtin; refine wpList_app58 _ rfl (.tmp 66) (.tmp 70) rfl w.heap.size _ done rfl ((unhide HO).alloc _) w3.heap.size z x rfl ?d0 ?d1 ?d2 ?d3 ?_)
            case d0 => simp
            case d1 => simp
            case d2 => omega
            case d3 => simp; omega
            intro v' wn k1 k2
            have HB2 := hide (((unhide HB).alloc hsz _).grown k2 (by simp; omega) (fun k hk => ((unhide HO).lt k hk).1))
            have HO2 : Hid (wn.ownsRow w.heap.size 54 2 v' (done ++ [(z, x)]).length (encs (done ++ [(z, x)]))) := by unfold Hid; simpa using k1
            clear k1 k2
            go_wp2
            go_roundw
            case rel => exact ⟨(i + 1), j, done ++ [(z, x)], none, by go_num, rfl, rfl, ⟨z, rfl, by simp⟩, unhide HN, by simp [cntO] at hdl ⊢; omega, HO2.out, unhide HB2⟩
            case measure => simp [intOf]; omega
        · cases o with
          | none =>
            go_wp2
            go_roundw
            case rel => exact ⟨(i + 1), j, done, some x, by go_num, rfl, rfl, ⟨x, rfl, by simp⟩, unhide HN, by simp only [cntO] at hdl ⊢; omega, unhide HO, unhide HB⟩
            case measure => simp [intOf]; omega
          | some f =>
            go_wp2
            go_roundw
            case rel => exact ⟨(i + 1), j, done, some f, by go_num, rfl, rfl, ⟨z, rfl, unhide HZ⟩, unhide HN, by simp only [cntO] at hdl ⊢; omega, unhide HO, unhide HB⟩
            case measure => simp [intOf]; omega
      · obtain ⟨hi1, hj1, hnew⟩ := heq hxy
        rw [unhide HLA] at hi1
        rw [unhide HLB] at hj1
        have hi2 : i < 2 * a.length := by omega
        subst hxy
        have HN := hide hnew
        have hmn : min x x = x := by omega
        clear hlt hgt heq hnew
        go_wp2_with fail
        refine (unhide HS1).mono ?_
        rintro e w1 ⟨rfl, rfl⟩
        go_wp2_with fail
        refine (unhide HS2).mono ?_
        rintro e w2 ⟨rfl, rfl⟩
        go_wp2_with fail
        refine (unhide HK _ _ _).mono ?_
        rintro e w3 ⟨rfl, rfl⟩
        rw [odd_cast1, odd_cast1]
        generalize k ((i + 1) % 2 == 1) ((j + 1) % 2 == 1) = nb at HN ⊢
        clear HK HS1 HS2
        cases nb
        · cases o with
          | none =>
            go_wp2
            go_roundw
            case rel => exact ⟨(i + 1), (j + 1), done, none, by go_num, by go_num, rfl, ⟨z, rfl, by simp⟩, unhide HN, by simp only [cntO] at hdl ⊢; omega, unhide HO, unhide HB⟩
            case measure => simp [intOf]; omega
          | some f =>
            have hzf := unhide HZ f rfl
            subst hzf
            go_wp2_with (at_builtin; refine wpList_app58 _ rfl (.tmp 66) (.tmp 70) rfl w.heap.size _ done rfl ((unhide HO).alloc _) w3.heap.size z x rfl ?d0 ?d1 ?d2 ?d3 ?_)
            case d0 => simp
            case d1 => simp
            case d2 => omega
            case d3 => simp; omega
            intro v' wn k1 k2
            have HB2 := hide (((unhide HB).alloc hsz _).grown k2 (by simp; omega) (fun k hk => ((unhide HO).lt k hk).1))
            have HO2 : Hid (wn.ownsRow w.heap.size 54 2 v' (done ++ [(z, x)]).length (encs (done ++ [(z, x)]))) := by unfold Hid; simpa using k1
            clear k1 k2
            go_wp2
            go_roundw
            case rel => exact ⟨(i + 1), (j + 1), done ++ [(z, x)], none, by go_num, by go_num, rfl, ⟨z, rfl, by simp⟩, unhide HN, by simp [cntO] at hdl ⊢; omega, HO2.out, unhide HB2⟩
            case measure => simp [intOf]; omega
        · cases o with
          | none =>
            go_wp2
            go_roundw
            case rel => exact ⟨(i + 1), (j + 1), done, some x, by go_num, by go_num, rfl, ⟨x, rfl, by simp⟩, unhide HN, by simp only [cntO] at hdl ⊢; omega, unhide HO, unhide HB⟩
            case measure => simp [intOf]; omega
          | some f =>
            go_wp2
            go_roundw
            case rel => exact ⟨(i + 1), (j + 1), done, some f, by go_num, by go_num, rfl, ⟨z, rfl, unhide HZ⟩, unhide HN, by simp only [cntO] at hdl ⊢; omega, unhide HO, unhide HB⟩
            case measure => simp [intOf]; omega
      · obtain ⟨hj1, hnew⟩ := hgt hxy
        rw [unhide HLB] at hj1
        have hj2 : j < 2 * b.length := by omega
        have HN := hide hnew
        have hmn : min x y = y := by omega
        clear hlt hgt heq hnew
        by_cases hi3 : i < 2 * a.length
        all_goals
          go_wp2_with fail
          refine (unhide HS1).mono ?_
          rintro e w1 ⟨rfl, rfl⟩
          go_wp2_with fail
          refine (unhide HS2).mono ?_
          rintro e w2 ⟨rfl, rfl⟩
          go_wp2_with fail
          refine (unhide HK _ _ _).mono ?_
          rintro e w3 ⟨rfl, rfl⟩
          rw [odd_cast, odd_cast1]
          generalize k (i % 2 == 1) ((j + 1) % 2 == 1) = nb at HN ⊢
          clear HK HS1 HS2
          cases nb
          · cases o with
            | none =>
              go_wp2
              go_roundw
              case rel => exact ⟨i, (j + 1), done, none, rfl, by go_num, rfl, ⟨z, rfl, by simp⟩, unhide HN, by simp only [cntO] at hdl ⊢; omega, unhide HO, unhide HB⟩
              case measure => simp [intOf]; omega
            | some f =>
              have hzf := unhide HZ f rfl
              subst hzf
              go_wp2_with (at_builtin; refine wpList_app58 _ rfl (.tmp 66) (.tmp 70) rfl w.heap.size _ done rfl ((unhide HO).alloc _) w3.heap.size z y rfl ?d0 ?d1 ?d2 ?d3 ?_)
              case d0 => simp
              case d1 => simp
              case d2 => omega
              case d3 => simp; omega
              intro v' wn k1 k2
              have HB2 := hide (((unhide HB).alloc hsz _).grown k2 (by simp; omega) (fun k hk => ((unhide HO).lt k hk).1))
              have HO2 : Hid (wn.ownsRow w.heap.size 54 2 v' (done ++ [(z, y)]).length (encs (done ++ [(z, y)]))) := by unfold Hid; simpa using k1
              clear k1 k2
              go_wp2
              go_roundw
              case rel => exact ⟨i, (j + 1), done ++ [(z, y)], none, rfl, by go_num, rfl, ⟨z, rfl, by simp⟩, unhide HN, by simp [cntO] at hdl ⊢; omega, HO2.out, unhide HB2⟩
              case measure => simp [intOf]; omega
          · cases o with
            | none =>
              go_wp2
              go_roundw
              case rel => exact ⟨i, (j + 1), done, some y, rfl, by go_num, rfl, ⟨y, rfl, by simp⟩, unhide HN, by simp only [cntO] at hdl ⊢; omega, unhide HO, unhide HB⟩
              case measure => simp [intOf]; omega
            | some f =>
              go_wp2
              go_roundw
              case rel => exact ⟨i, (j + 1), done, some f, rfl, by go_num, rfl, ⟨z, rfl, unhide HZ⟩, unhide HN, by simp only [cntO] at hdl ⊢; omega, unhide HO, unhide HB⟩
              case measure => simp [intOf]; omega
    · have hi4 : i = (sides a).length := by rw [unhide HLA]; omega
      have hj4 : j = (sides b).length := by rw [unhide HLB]; omega
      have hR := sinv_end (unhide HK0) (by rw [unhide HLA]; omega) (by rw [unhide HLB]; omega) hinv hi4 hj4
      rw [hR] at hown hdl
      have hRl : R.length ≤ a.length + b.length := by omega
      have HO := hide hown
      have HB := hide hbe
      clear hinv hown hbe hz hi4 hj4 hR
      go_wp2
      go_ret
      exact ⟨hRl, _, rfl, unhide HO, unhide HB⟩

end Go.Proofs.YtdjajnhiicfcaaaDoor
