/- TreeOrder, walked. -/
import Derived.Test.YtfcmkaiocnelgaaOrF
namespace Go.Proofs.Ytfcmkaiocnelgaa
open Go.RowKit Go.Maps

theorem errV_none {n : Int} (h : n = 0) : errV n = .nilIface := by
  subst h
  rfl

theorem PairT.addB {w : World} {A B : Nat} {L M : List Ent} {F G : Nat → Prop} {x : World} (h : PairT w A B L M F G x) {S : List Ent} (hp : M.Perm S) (e : Ent) (h0 : 0 ≤ e.id ∧ e.id ≤ 1048576) (hR : rightB e.lo e.hi = true) (hn : ∀ x, x ∈ S → x.id ≠ e.id) (hl : S.length < 4000) :
    Calls Try.prog 28 #[.pointer (some ⟨B, 0, none⟩), .int .i64 e.id, .agg #[.int .i64 e.lo, .int .i64 e.hi]] x fun r y => r = .returned .nilIface ∧ ∃ M' G', PairT w A B L M' F G' y ∧ M'.Perm (e :: S) := by
  obtain ⟨c1, _, c3⟩ := comes h.p.rising hp h0 hR hn hl
  refine (tree_Add M B G e.id e.lo e.hi x h.p).mono ?_
  rintro r y ⟨rfl, ht⟩
  obtain ⟨G', h1, _⟩ := h.second ht
  exact ⟨by rw [errV_none c1], _, G', h1, c3⟩

theorem PairT.addA {w : World} {A B : Nat} {L M : List Ent} {F G : Nat → Prop} {x : World} (h : PairT w A B L M F G x) {S : List Ent} (hp : L.Perm S) (e : Ent) (h0 : 0 ≤ e.id ∧ e.id ≤ 1048576) (hR : rightB e.lo e.hi = true) (hn : ∀ x, x ∈ S → x.id ≠ e.id) (hl : S.length < 4000) :
    Calls Try.prog 28 #[.pointer (some ⟨A, 0, none⟩), .int .i64 e.id, .agg #[.int .i64 e.lo, .int .i64 e.hi]] x fun r y => r = .returned .nilIface ∧ ∃ L' F', PairT w A B L' M F' G y ∧ L'.Perm (e :: S) := by
  obtain ⟨c1, _, c3⟩ := comes h.a.rising hp h0 hR hn hl
  refine (tree_Add L A F e.id e.lo e.hi x h.a).mono ?_
  rintro r y ⟨rfl, ht⟩
  obtain ⟨F', h1, _⟩ := h.first ht
  exact ⟨by rw [errV_none c1], _, F', h1, c3⟩

theorem PairT.dropB {w : World} {A B : Nat} {L M : List Ent} {F G : Nat → Prop} {x : World} (h : PairT w A B L M F G x) {S : List Ent} {e : Ent} (hp : M.Perm (e :: S)) (hw : (Lit.int .i64 e.id).wf = true) :
    Calls Try.prog 29 #[.pointer (some ⟨B, 0, none⟩), .int .i64 e.id] x fun r y => r = .returned .nilIface ∧ ∃ M' G', PairT w A B L M' F G' y ∧ M'.Perm S := by
  obtain ⟨c1, _, c3⟩ := goes h.p.rising hp
  refine (tree_Drop M B G e.id x h.p hw).mono ?_
  rintro r y ⟨rfl, ht⟩
  obtain ⟨G', h1, _⟩ := h.second ht
  exact ⟨by rw [errV_none c1], _, G', h1, c3⟩

theorem pair_start (w : World) : PairT w w.heap.size (w.heap.size + 1) [] [] (· = w.heap.size) (· = w.heap.size + 1) ((w.alloc (.cells #[.map none, .pointer none] 49)).alloc (.cells #[.map none, .pointer none] 49)) := by
  have b1 := below_box w (.cells #[.map none, .pointer none] 49)
  have b2 := below_box (w.alloc (.cells #[.map none, .pointer none] 49)) (.cells #[.map none, .pointer none] 49)
  have e1 : (w.alloc (.cells #[.map none, .pointer none] 49)).heap.size = w.heap.size + 1 := by simp
  refine ⟨(pt_new (B := w.heap.size) (by simp) (by simp) (fun i => by simp)).below b2, ?_, b1.trans (b2.mono (by omega)), fun i e => by rw [e]; exact Nat.le_refl _, fun i e => by rw [e]; exact Nat.le_succ _, fun i e q => by omega⟩
  rw [← e1]
  exact pt_new (by simp) (by simp) (fun i => by simp)

/-- What the three loops that make the trees hold. -/
def Or1 (w : World) (A B : Nat) (m : List (Int × Int)) (k : Nat) (x : World) : Prop := ∃ M F G, PairT w A B [] M F G x ∧ M.Perm (allM m k)
def Or2 (w : World) (A B : Nat) (l m : List (Int × Int)) (p k : Nat) (x : World) : Prop := ∃ L M F G, PairT w A B L M F G x ∧ L.Perm (allA l k) ∧ M.Perm (turnA l p k ++ allM m m.length)
def Or3 (w : World) (A B : Nat) (l m : List (Int × Int)) (p q k : Nat) (x : World) : Prop := ∃ M F G, PairT w A B (allA l l.length) M F G x ∧ M.Perm (turnA l p l.length ++ leftM m q k)
def Or4 (w : World) (A B : Nat) (l : List (Int × Int)) (x : World) : Prop := ∃ F G, PairT w A B (allA l l.length) (allA l l.length) F G x

theorem Or1.step {w : World} {A B : Nat} {m : List (Int × Int)} {k : Nat} {x y : World} (h : Or1 w A B m k x) (hb : Below x.heap.size x y) (hm : m.length ≤ 100) (hk : k < m.length) :
    Calls Try.prog 28 #[.pointer (some ⟨B, 0, none⟩), .int .i64 (1000 + (k : Int)), .agg #[.int .i64 (pickI (atL m k).1 200), .int .i64 (pickI (atL m k).1 200 + 1 + pickI (atL m k).2 50)]] y fun r z => r = .returned .nilIface ∧ Or1 w A B m (k + 1) z := by
  obtain ⟨M, F, G, hP, hM⟩ := h
  refine ((hP.below hb).addB hM (entM m k) ⟨by show 0 ≤ 1000 + (k : Int); omega, by show 1000 + (k : Int) ≤ 1048576; omega⟩ (entO_right _ _) (entM_not m k) (by simp [allM]; omega)).mono ?_
  rintro r z ⟨rfl, M', G', h1, h2⟩
  refine ⟨rfl, M', F, G', h1, ?_⟩
  rw [allM_succ]
  exact h2.trans (List.perm_append_singleton _ _).symm

/-- The first tree has one more, the second one not yet. -/
def Or2h (w : World) (A B : Nat) (l m : List (Int × Int)) (p k : Nat) (x : World) : Prop := ∃ L M F G, PairT w A B L M F G x ∧ L.Perm (allA l (k + 1)) ∧ M.Perm (turnA l p k ++ allM m m.length)

theorem Or2.step {w : World} {A B : Nat} {l m : List (Int × Int)} {p k : Nat} {x y : World} (h : Or2 w A B l m p k x) (hb : Below x.heap.size x y) (hl : l.length ≤ 100) (hk : k < l.length) :
    Calls Try.prog 28 #[.pointer (some ⟨A, 0, none⟩), .int .i64 (k : Int), .agg #[.int .i64 (pickI (atL l k).1 200), .int .i64 (pickI (atL l k).1 200 + 1 + pickI (atL l k).2 50)]] y fun r z => r = .returned .nilIface ∧ Or2h w A B l m p k z := by
  obtain ⟨L, M, F, G, hP, hL, hM⟩ := h
  refine ((hP.below hb).addA hL (entA l k) ⟨by show 0 ≤ (k : Int); omega, by show (k : Int) ≤ 1048576; omega⟩ (entO_right _ _) (entA_not l k) (by simp [allA]; omega)).mono ?_
  rintro r z ⟨rfl, L', F', h1, h2⟩
  refine ⟨rfl, L', M, F', G, h1, ?_, hM⟩
  rw [allA_succ]
  exact h2.trans (List.perm_append_singleton _ _).symm

theorem Or2h.step {w : World} {A B : Nat} {l m : List (Int × Int)} {p k j : Nat} {x y : World} (h : Or2h w A B l m p k x) (hb : Below x.heap.size x y) (hl : l.length ≤ 100) (hm : m.length ≤ 100) (hk : k < l.length) (hp : p < l.length) (hj : j = (k + p) % l.length) :
    Calls Try.prog 28 #[.pointer (some ⟨B, 0, none⟩), .int .i64 (j : Int), .agg #[.int .i64 (pickI (atL l j).1 200), .int .i64 (pickI (atL l j).1 200 + 1 + pickI (atL l j).2 50)]] y fun r z => r = .returned .nilIface ∧ Or2 w A B l m p (k + 1) z := by
  subst hj
  obtain ⟨L, M, F, G, hP, hL, hM⟩ := h
  have hj : (k + p) % l.length < l.length := Nat.mod_lt _ (by omega)
  refine ((hP.below hb).addB hM (entA l ((k + p) % l.length)) ⟨by show 0 ≤ (((k + p) % l.length : Nat) : Int); omega, by show (((k + p) % l.length : Nat) : Int) ≤ 1048576; omega⟩ (entO_right _ _) (turnA_not l m p k hp hl hk) (by simp [turnA, allM]; omega)).mono ?_
  rintro r z ⟨rfl, M', G', h1, h2⟩
  refine ⟨rfl, L, M', F, G', h1, hL, ?_⟩
  rw [turnA_succ, List.append_assoc]
  exact h2.trans List.perm_middle.symm

theorem Or3.step {w : World} {A B : Nat} {l m : List (Int × Int)} {p q k j : Nat} {x : World} (h : Or3 w A B l m p q k x) (hm : m.length ≤ 100) (hk : k < m.length) (hj : j = (k + q) % m.length) :
    Calls Try.prog 29 #[.pointer (some ⟨B, 0, none⟩), .int .i64 (1000 + (j : Int))] x fun r z => r = .returned .nilIface ∧ Or3 w A B l m p q (k + 1) z := by
  subst hj
  obtain ⟨M, F, G, hP, hM⟩ := h
  have hj : (k + q) % m.length < m.length := Nat.mod_lt _ (by omega)
  rw [leftM_step m q k hk] at hM
  refine (hP.dropB (hM.trans List.perm_middle) (WalkArith.wf_i64 (by show _ ≤ 1000 + (((k + q) % m.length : Nat) : Int) ∧ 1000 + (((k + q) % m.length : Nat) : Int) ≤ _; omega))).mono ?_
  rintro r z ⟨rfl, M', G', h1, h2⟩
  exact ⟨rfl, M', F, G', h1, h2⟩

theorem Or1.done {w : World} {A B : Nat} {l m : List (Int × Int)} (p : Nat) {x : World} (h : Or1 w A B m m.length x) : Or2 w A B l m p 0 x := by
  obtain ⟨M, F, G, hP, hM⟩ := h
  exact ⟨[], M, F, G, hP, List.Perm.refl _, hM⟩
theorem Or2.done {w : World} {A B : Nat} {l m : List (Int × Int)} {p q : Nat} {x : World} (hq : q ≤ m.length) (h : Or2 w A B l m p l.length x) : Or3 w A B l m p q 0 x := by
  obtain ⟨L, M, F, G, hP, hL, hM⟩ := h
  obtain rfl := rising_perm L _ hP.a.rising (rising_all l l.length) hL
  exact ⟨M, F, G, hP, hM.trans (List.Perm.append_left _ (leftM_all m q hq))⟩
theorem Or3.done {w : World} {A B : Nat} {l m : List (Int × Int)} {p q : Nat} {x : World} (hp : p ≤ l.length) (h : Or3 w A B l m p q m.length x) : Or4 w A B l x := by
  obtain ⟨M, F, G, hP, hM⟩ := h
  rw [leftM_none, List.append_nil] at hM
  obtain rfl := rising_perm M _ hP.p.rising (rising_all l l.length) (hM.trans (turnA_all l p hp))
  exact ⟨F, G, hP⟩
theorem Or4.below {w : World} {A B : Nat} {l : List (Int × Int)} {x y : World} (h : Or4 w A B l x) (hb : Below x.heap.size x y) : Or4 w A B l y := by
  obtain ⟨F, G, hP⟩ := h
  exact ⟨F, G, hP.below hb⟩
theorem Or4.b {w : World} {A B : Nat} {l : List (Int × Int)} {x : World} (h : Or4 w A B l x) : Below w.heap.size w x := by
  obtain ⟨F, G, hP⟩ := h
  exact hP.b

/-- What both trees are asked. -/
def Hands (l : List Int) (x : World) (e : Ending) (y : World) : Prop := ∃ ad c, e = .returned (.slice ad l.length c) ∧ NumsAt y ad l ∧ Below x.heap.size x y

theorem hands_of {l : List Int} {x : World} {e : Ending} {y : World} (h : GivesI l x e y) : Hands l x e y := by
  obtain ⟨v, rfl, ho, hb⟩ := h
  obtain ⟨g, ad, c, rfl, hf⟩ := own_form ho
  refine ⟨ad, c, rfl, fun j hj => ?_, hb⟩
  obtain ⟨h1, h2⟩ := hf j hj
  exact ⟨g, 0, h1, by rw [Nat.zero_add]; exact h2⟩

theorem all_length (l : List (Int × Int)) : (allA l l.length).length = l.length := by simp [allA]

theorem Or4.manyA {w : World} {A B : Nat} {l : List (Int × Int)} {x : World} (h : Or4 w A B l x) : Calls Try.prog 30 #[.pointer (some ⟨A, 0, none⟩)] x fun e y => e = .returned (.int .i64 (l.length : Nat)) ∧ y = x := by
  obtain ⟨F, G, hP⟩ := h
  have := tree_Many _ A F x hP.a
  rw [all_length] at this
  exact this
theorem Or4.manyB {w : World} {A B : Nat} {l : List (Int × Int)} {x : World} (h : Or4 w A B l x) : Calls Try.prog 30 #[.pointer (some ⟨B, 0, none⟩)] x fun e y => e = .returned (.int .i64 (l.length : Nat)) ∧ y = x := by
  obtain ⟨F, G, hP⟩ := h
  have := tree_Many _ B G x hP.p
  rw [all_length] at this
  exact this
theorem Or4.atA {w : World} {A B : Nat} {l : List (Int × Int)} {x : World} (h : Or4 w A B l x) (t : Int) (hw : (Lit.int .i64 t).wf = true) : Calls Try.prog 31 #[.pointer (some ⟨A, 0, none⟩), .int .i64 t] x (Hands (atT (allA l l.length) t) x) := by
  obtain ⟨F, G, hP⟩ := h
  exact (tree_At _ A F t x hP.a hw).mono fun _ _ => hands_of
theorem Or4.atB {w : World} {A B : Nat} {l : List (Int × Int)} {x : World} (h : Or4 w A B l x) (t : Int) (hw : (Lit.int .i64 t).wf = true) : Calls Try.prog 31 #[.pointer (some ⟨B, 0, none⟩), .int .i64 t] x (Hands (atT (allA l l.length) t) x) := by
  obtain ⟨F, G, hP⟩ := h
  exact (tree_At _ B G t x hP.p hw).mono fun _ _ => hands_of
theorem Or4.meetsA {w : World} {A B : Nat} {l : List (Int × Int)} {x : World} (h : Or4 w A B l x) (lo hi : Int) : Calls Try.prog 32 #[.pointer (some ⟨A, 0, none⟩), .agg #[.int .i64 lo, .int .i64 hi]] x (Hands (meetsT (allA l l.length) lo hi) x) := by
  obtain ⟨F, G, hP⟩ := h
  exact (tree_Meets _ A F lo hi x hP.a).mono fun _ _ => hands_of
theorem Or4.meetsB {w : World} {A B : Nat} {l : List (Int × Int)} {x : World} (h : Or4 w A B l x) (lo hi : Int) : Calls Try.prog 32 #[.pointer (some ⟨B, 0, none⟩), .agg #[.int .i64 lo, .int .i64 hi]] x (Hands (meetsT (allA l l.length) lo hi) x) := by
  obtain ⟨F, G, hP⟩ := h
  exact (tree_Meets _ B G lo hi x hP.p).mono fun _ _ => hands_of

theorem meets_rise (l : List (Int × Int)) (lo hi : Int) : (meetsT (allA l l.length) lo hi).Pairwise (· < ·) := by
  unfold meetsT
  split
  · exact met_rises _ (rising_all l l.length) _
  · exact List.Pairwise.nil

theorem cntA_le (l : List (Int × Int)) (t : Int) (k : Nat) : cntA l t k ≤ k := by
  have := List.length_filter_le (hasA l t) (List.range k)
  rw [List.length_range] at this
  exact this

theorem meets_short (l : List (Int × Int)) (lo hi : Int) : (meetsT (allA l l.length) lo hi).length ≤ l.length := by
  unfold meetsT
  split
  · rw [List.length_map]
    exact Nat.le_trans (List.length_filter_le _ _) (Nat.le_of_eq (all_length l))
  · exact Nat.zero_le _

theorem turn_of (turn : Int) (n : Nat) : ∃ p : Nat, p ≤ n ∧ (0 < n → p < n ∧ pickI turn n = (p : Int)) := by
  by_cases h : 0 < n
  · have := pickI_lt turn n (by omega)
    exact ⟨(pickI turn n).toNat, by omega, fun _ => ⟨by omega, by omega⟩⟩
  · exact ⟨0, by omega, fun q => absurd q h⟩

theorem rem_of (k p n : Nat) (_h : 0 < n) : ((k : Int) + (p : Int)).tmod (n : Int) = (((k + p) % n : Nat) : Int) := by
  rw [Int.tmod_eq_emod_of_nonneg (by omega)]
  simp

set_option maxHeartbeats 1000000 in
theorem span_Has (lo hi t : Int) (w : World) :
    Calls Try.prog 8 #[.agg #[.int .i64 lo, .int .i64 hi], .int .i64 t] w fun e w' => e = .returned (.bool (decide (lo ≤ t ∧ t < hi))) ∧ Below w.heap.size w w' := by
  by_cases h1 : lo ≤ t
  · by_cases h2 : t < hi
    · have e : decide (lo ≤ t ∧ t < hi) = true := by simp [h1, h2]
      rw [e]
      clear e
      go_enter Try.func8, Try.ntmps8
      go_wp2
      go_ret
      exact ⟨rfl, below_box _ _⟩
    · have e : decide (lo ≤ t ∧ t < hi) = false := by simp [h2]
      rw [e]
      clear e
      go_enter Try.func8, Try.ntmps8
      go_wp2
      go_ret
      exact ⟨rfl, below_box _ _⟩
  · have e : decide (lo ≤ t ∧ t < hi) = false := by simp [h1]
    rw [e]
    clear e
    go_enter Try.func8, Try.ntmps8
    go_wp2
    go_ret
    exact ⟨rfl, below_box _ _⟩

set_option maxRecDepth 100000 in
set_option maxHeartbeats 16000000 in
theorem treeOrder_walk (l m : List (Int × Int)) (ts : List Int) (turn : Int) (al am at_ : Option Addr) (cl cm ct : Nat) (w : World) (hl : SpansAt w al l) (hm : SpansAt w am m) (ht : NumsAt w at_ ts) :
    Calls Try.prog 5 #[.slice al l.length cl, .slice am m.length cm, .int .i64 turn, .slice at_ ts.length ct] w fun e w' => e = .returned (.bool true) ∧ Below w.heap.size w w' := by
  by_cases h1 : (100 : Int) < (l.length : Int)
  · go_enter Try.func5, Try.ntmps5
    go_wp2
    go_ret
    exact ⟨rfl, Below.refl _ _⟩
  · by_cases h2 : (100 : Int) < (m.length : Int)
    · go_enter Try.func5, Try.ntmps5
      go_wp2
      go_ret
      exact ⟨rfl, Below.refl _ _⟩
    · by_cases h3 : (40 : Int) < (ts.length : Int)
      · go_enter Try.func5, Try.ntmps5
        go_wp2
        go_ret
        exact ⟨rfl, Below.refl _ _⟩
      · have HF := hide (found_ok w)
        have HL := hide hl
        have HM := hide hm
        have HT := hide ht
        have HFit := hide (fun lo hi W => fit_ok lo hi W)
        clear hl hm ht
        go_enter Try.func5, Try.ntmps5
        go_wp2_with fail
        refine (unhide HF).mono ?_
        rintro e1 w1 ⟨rfl, b1⟩
        have HL1 := hide ((unhide HL).carry b1)
        have HM1 := hide ((unhide HM).carry b1)
        have HT1 := hide ((unhide HT).carry b1)
        have HP0 : Hid (Or1 w1 w1.heap.size (w1.heap.size + 1) m 0 _) := ⟨_, _, _, pair_start w1, List.Perm.refl _⟩
        have HB1 := hide b1
        clear HF HL HM HT b1
        go_wp2
        generalize hW0 : ((w1.alloc (.cells #[.map none, .pointer none] 49)).alloc (.cells #[.map none, .pointer none] 49)) = W0 at HP0 ⊢
        clear hW0
        obtain ⟨A, hA⟩ : ∃ A, A = w1.heap.size := ⟨_, rfl⟩
        obtain ⟨B, hB⟩ : ∃ B, B = w1.heap.size + 1 := ⟨_, rfl⟩
        rw [← hB, ← hA] at HP0 ⊢
        clear hB hA
        go_loopw [12] (fun i x => ∃ k : Nat, k ≤ m.length ∧ i = .int .i64 k ∧ Or1 w1 A B m k x) (fun i _ => m.length - (intOf i).toNat)
        case atStart => exact ⟨0, Nat.zero_le _, rfl, unhide HP0⟩
        case round =>
          clear HP0
          obtain ⟨k, hk, rfl, hO⟩ := hrel
          have HO := hide hO
          have hb0 : Below w1.heap.size w1 wr := by obtain ⟨_, _, _, h, _⟩ := hO; exact h.b
          clear hO
          by_cases hlt : k < m.length
          · have hlt' : (k : Int) < (m.length : Int) := by omega
            have hk0 : (0 : Int) ≤ (k : Int) := by omega
            obtain ⟨b, o, rfl, c0, c1⟩ := (unhide HM1).carry hb0 k hlt
            have HS := hide (fun y hy => (unhide HO).step (y := y) hy (by omega) hlt)
            clear hb0
            go_wp2_with fail
            refine (unhide HFit _ _ _).mono ?_
            rintro e2 w2 ⟨rfl, b2⟩
            go_wp2_with fail
            refine (unhide HS w2 b2).mono ?_
            rintro e3 w3 ⟨rfl, hO3⟩
            have HO3 := hide hO3
            clear hO3 HS HO b2
            go_wp2
            go_roundw
            case rel => exact ⟨k + 1, by omega, by go_num, unhide HO3⟩
            case measure => simp [intOf]; omega
          · have hlt' : ¬ (k : Int) < (m.length : Int) := by omega
            obtain rfl : k = m.length := by omega
            obtain ⟨p, hp1, hp2⟩ := turn_of turn l.length
            obtain ⟨q, hq1, hq2⟩ := turn_of turn m.length
            have HPP := hide hp2
            have HQQ := hide hq2
            have HO2 := hide ((unhide HO).done (l := l) p)
            clear hp2 hq2 HO hb0
            go_wp2
            clear hlt' hlt hk
            go_loopw [13, 14] (fun i _ x => ∃ k : Nat, k ≤ l.length ∧ i = .int .i64 k ∧ Or2 w1 A B l m p k x) (fun i _ _ => l.length - (intOf i).toNat)
            case atStart => exact ⟨0, Nat.zero_le _, rfl, unhide HO2⟩
            case round =>
              clear HO2
              obtain ⟨k, hk, rfl, hO⟩ := hrel
              have HO := hide hO
              have hb0 : Below w1.heap.size w1 wr := by obtain ⟨_, _, _, _, h, _⟩ := hO; exact h.b
              clear hO
              by_cases hlt : k < l.length
              · have hlt' : (k : Int) < (l.length : Int) := by omega
                have hk0 : (0 : Int) ≤ (k : Int) := by omega
                have hlp : (0 : Int) < (l.length : Int) := by omega
                obtain ⟨hpl, hpe⟩ := unhide HPP (by omega)
                have hpl' : (p : Int) < (l.length : Int) := by omega
                have HPk : Hid (∀ W, Calls Try.prog 27 #[.int .i64 turn, .int .i64 l.length] W fun e w' => e = .returned (.int .i64 (p : Int)) ∧ w' = W) := fun W => by rw [← hpe]; exact keep_pick turn l.length W (by omega) (by omega)
                have hmod := rem_of k p l.length (by omega)
                have hjl : (k + p) % l.length < l.length := Nat.mod_lt _ (by omega)
                obtain ⟨j, hj⟩ : ∃ j, j = (k + p) % l.length := ⟨_, rfl⟩
                rw [← hj] at hmod hjl
                have HJ := hide hj
                have hjl' : (j : Int) < (l.length : Int) := by omega
                have hj0 : (0 : Int) ≤ (j : Int) := by omega
                clear hj hpe
                obtain ⟨b, o, rfl, c0, c1⟩ := (unhide HL1).carry hb0 k hlt
                have HS := hide (fun y hy => (unhide HO).step (y := y) hy (by omega) hlt)
                have HCJ := hide ((unhide HL1).carry hb0 j hjl)
                go_wp2_with fail
                refine (unhide HPk _).mono ?_
                rintro e2 w2 ⟨rfl, rfl⟩
                go_wp2_with fail
                refine (unhide HFit _ _ _).mono ?_
                rintro e3 w3 ⟨rfl, b3⟩
                go_wp2_with fail
                refine (unhide HS w3 b3).mono ?_
                rintro e4 w4 ⟨rfl, hO4⟩
                have hb4 : Below w1.heap.size w1 w4 := by obtain ⟨_, _, _, _, h, _⟩ := hO4; exact h.b
                have HO4 := hide hO4
                obtain ⟨b', o', hbo, d0, d1⟩ := (unhide HL1).carry hb4 j hjl
                cases hbo
                have HS2 := hide (fun y hy => (unhide HO4).step (y := y) hy (by omega) (by omega) hlt hpl (unhide HJ))
                clear hO4 hb4 HS b3 HCJ hb0 c0 c1 hmod
                go_wp2_with fail
                refine (unhide HFit _ _ _).mono ?_
                rintro e5 w5 ⟨rfl, b5⟩
                go_wp2_with fail
                refine (unhide HS2 w5 b5).mono ?_
                rintro e6 w6 ⟨rfl, hO6⟩
                have HO6 := hide hO6
                clear hO6 HS2 b5 d0 d1 HO4
                go_wp2
                go_roundw
                case rel => exact ⟨k + 1, by omega, by go_num, unhide HO6⟩
                case measure => simp [intOf]; omega
              · have hlt' : ¬ (k : Int) < (l.length : Int) := by omega
                obtain rfl : k = l.length := by omega
                have HO3 := hide ((unhide HO).done hq1)
                clear HO hb0
                go_wp2
                clear hlt' hlt hk
                go_loopw [15] (fun i x => ∃ k : Nat, k ≤ m.length ∧ i = .int .i64 k ∧ Or3 w1 A B l m p q k x) (fun i _ => m.length - (intOf i).toNat)
                case atStart => exact ⟨0, Nat.zero_le _, rfl, unhide HO3⟩
                case round =>
                  clear HO3
                  obtain ⟨k, hk, rfl, hO⟩ := hrel
                  have HO := hide hO
                  clear hO
                  by_cases hlt : k < m.length
                  · have hlt' : (k : Int) < (m.length : Int) := by omega
                    have hk0 : (0 : Int) ≤ (k : Int) := by omega
                    have hlp : (0 : Int) < (m.length : Int) := by omega
                    obtain ⟨hpl, hpe⟩ := unhide HQQ (by omega)
                    have hpl' : (q : Int) < (m.length : Int) := by omega
                    have HPk : Hid (∀ W, Calls Try.prog 27 #[.int .i64 turn, .int .i64 m.length] W fun e w' => e = .returned (.int .i64 (q : Int)) ∧ w' = W) := fun W => by rw [← hpe]; exact keep_pick turn m.length W (by omega) (by omega)
                    have hmod := rem_of k q m.length (by omega)
                    have hjl : (k + q) % m.length < m.length := Nat.mod_lt _ (by omega)
                    obtain ⟨j, hj⟩ : ∃ j, j = (k + q) % m.length := ⟨_, rfl⟩
                    rw [← hj] at hmod hjl
                    have hjl' : (j : Int) < (m.length : Int) := by omega
                    have hj0 : (0 : Int) ≤ (j : Int) := by omega
                    have HS := hide ((unhide HO).step (by omega) hlt hj)
                    clear hj hpe
                    go_wp2_with fail
                    refine (unhide HPk _).mono ?_
                    rintro e2 w2 ⟨rfl, rfl⟩
                    go_wp2_with fail
                    refine (unhide HS).mono ?_
                    rintro e3 w3 ⟨rfl, hO3⟩
                    have HO3 := hide hO3
                    clear hO3 HS hmod HO
                    go_wp2
                    go_roundw
                    case rel => exact ⟨k + 1, by omega, by go_num, unhide HO3⟩
                    case measure => simp [intOf]; omega
                  · have hlt' : ¬ (k : Int) < (m.length : Int) := by omega
                    obtain rfl : k = m.length := by omega
                    have HO4 := hide ((unhide HO).done hp1)
                    clear HO HPP HQQ HM1
                    have HMA := hide ((unhide HO4).manyA)
                    have HMB := hide ((unhide HO4).manyB)
                    go_wp2_with fail
                    refine (unhide HMA).mono ?_
                    rintro e2 w2 ⟨rfl, rfl⟩
                    go_wp2_with fail
                    refine (unhide HMB).mono ?_
                    rintro e3 w3 ⟨rfl, rfl⟩
                    clear HMA HMB
                    go_wp2
                    clear hlt' hlt hk hp1 hq1
                    go_loopw [16, 17, 18, 19, 20, 21, 22, 23, 24] (fun i _ _ _ _ _ _ _ _ x => ∃ k : Nat, k ≤ ts.length ∧ i = .int .i64 k ∧ Or4 w1 A B l x) (fun i _ _ _ _ _ _ _ _ _ => ts.length - (intOf i).toNat)
                    case atStart => exact ⟨0, Nat.zero_le _, rfl, unhide HO4⟩
                    case round =>
                      clear HO4
                      obtain ⟨k, hk, rfl, hO⟩ := hrel
                      have HO := hide hO
                      clear hO
                      by_cases hlt : k < ts.length
                      · have hlt' : (k : Int) < (ts.length : Int) := by omega
                        have hk0 : (0 : Int) ≤ (k : Int) := by omega
                        obtain ⟨b, o, rfl, c0⟩ := (unhide HT1).carry (unhide HO).b k hlt
                        have HPk := hide (fun a W => keep_pick a 260 W (by decide) (by decide))
                        go_wp2_with fail
                        refine (unhide HPk _ _).mono ?_
                        rintro e2 w2 ⟨rfl, rfl⟩
                        have ht0 := pickI_lt ts[k] 260 (by decide)
                        generalize pickI ts[k] 260 = t at *
                        clear HPk c0
                        have HAA := hide ((unhide HO).atA t (WalkArith.wf_i64 (by omega)))
                        go_wp2_with fail
                        refine (unhide HAA).mono ?_
                        rintro e3 w3 ⟨ax, cx, rfl, hx, b3⟩
                        have HX := hide hx
                        have HO3 := hide ((unhide HO).below b3)
                        clear HAA hx b3 HO
                        have HAB := hide ((unhide HO3).atB t (WalkArith.wf_i64 (by omega)))
                        go_wp2_with fail
                        refine (unhide HAB).mono ?_
                        rintro e4 w4 ⟨ay, cy, rfl, hy, b4⟩
                        have HX4 := hide ((unhide HX).carry b4)
                        have HY4 := hide hy
                        have HO4 := hide ((unhide HO3).below b4)
                        clear HAB hy b4 HO3 HX
                        have HMA := hide ((unhide HO4).meetsA t (t + 9))
                        go_wp2_with fail
                        refine (unhide HMA).mono ?_
                        rintro e5 w5 ⟨au, cu, rfl, hu, b5⟩
                        have HX5 := hide ((unhide HX4).carry b5)
                        have HY5 := hide ((unhide HY4).carry b5)
                        have HU5 := hide hu
                        have HO5 := hide ((unhide HO4).below b5)
                        clear HMA hu b5 HO4 HX4 HY4
                        have HMB := hide ((unhide HO5).meetsB t (t + 9))
                        go_wp2_with fail
                        refine (unhide HMB).mono ?_
                        rintro e6 w6 ⟨av, cv, rfl, hv, b6⟩
                        have HX6 := hide ((unhide HX5).carry b6)
                        have HY6 := hide ((unhide HY5).carry b6)
                        have HU6 := hide ((unhide HU5).carry b6)
                        have HV6 := hide hv
                        have HO6 := hide ((unhide HO5).below b6)
                        clear HMB hv b6 HO5 HX5 HY5 HU5
                        have hlx := at_length l t l.length
                        have HXE := hide (fun j (hj : j < l.length) (hh : hasA l t j = true) => at_get l t j l.length hj hh)
                        have HR := hide (meets_rise l t (t + 9))
                        have HUL := hide (meets_short l t (t + 9))
                        generalize meetsT (allA l l.length) t (t + 9) = U at *
                        generalize atT (allA l l.length) t = X at *
                        have HLX := hide hlx
                        clear hlx
                        go_wp2
                        go_loopw [22, 23] (fun nn i x => ∃ j : Nat, j ≤ l.length ∧ i = .int .i64 j ∧ nn = .int .i64 (cntA l t j : Nat) ∧ Below w6.heap.size w6 x) (fun _ i _ => l.length - (intOf i).toNat)
                        case atStart => exact ⟨0, Nat.zero_le _, rfl, rfl, Below.refl _ _⟩
                        case round =>
                          obtain ⟨j, hj, rfl, rfl, hb⟩ := hrel
                          have HB6 := hide hb
                          clear hb
                          by_cases hjl : j < l.length
                          · have hjl' : (j : Int) < (l.length : Int) := by omega
                            have hj0 : (0 : Int) ≤ (j : Int) := by omega
                            obtain ⟨b', o', rfl, d0, d1⟩ := (unhide HL1).carry ((unhide HO6).below (unhide HB6)).b j hjl
                            have HH : Hid (∀ W, Calls Try.prog 8 #[.agg #[.int .i64 (pickI (atL l j).1 200), .int .i64 (pickI (atL l j).1 200 + 1 + pickI (atL l j).2 50)], .int .i64 t] W fun e w' => e = .returned (.bool (hasA l t j)) ∧ Below W.heap.size W w') := fun W => span_Has _ _ t W
                            go_wp2_with fail
                            refine (unhide HFit _ _ _).mono ?_
                            rintro e7 w7 ⟨rfl, b7⟩
                            go_wp2_with fail
                            refine (unhide HH _).mono ?_
                            rintro e8 w8 ⟨rfl, b8⟩
                            have HB8 := hide ((unhide HB6).trans ((b7.trans (b8.mono b7.size)).mono (unhide HB6).size))
                            clear HH b7 b8 d0 d1 HB6
                            have hsu := cntA_succ l t j
                            by_cases hh : hasA l t j = true
                            · rw [if_pos hh] at hsu
                              have hcl : cntA l t j < X.length := by rw [unhide HLX]; exact cntA_lt l t j l.length hjl hh
                              have hxe : X[cntA l t j] = (j : Int) := by
                                have := unhide HXE j hjl hh
                                rw [List.getElem?_eq_getElem hcl] at this
                                exact Option.some.inj this
                              obtain ⟨bx, ox, rfl, x0⟩ := (unhide HX6).carry (unhide HB8) _ hcl
                              obtain ⟨by_, oy, rfl, y0⟩ := (unhide HY6).carry (unhide HB8) _ hcl
                              rw [hxe] at x0 y0
                              rw [hh]
                              have HSU := hide hsu
                              clear hsu hxe hh
                              obtain ⟨c, hc⟩ : ∃ c, c = cntA l t j := ⟨_, rfl⟩
                              rw [← hc] at x0 y0 hcl HSU ⊢
                              have hcl' : (c : Int) < (X.length : Int) := by omega
                              have hc0 : (0 : Int) ≤ (c : Int) := by omega
                              have hX : (X.length : Int) ≤ 100000 := by
                                have := cntA_le l t l.length
                                have := unhide HLX
                                omega
                              clear hc
                              go_wp2
                              go_roundw
                              case rel => exact ⟨j + 1, by omega, by go_num, by rw [unhide HSU]; go_num, unhide HB8⟩
                              case measure => simp [intOf]; omega
                            · rw [if_neg hh] at hsu
                              rw [Bool.not_eq_true] at hh
                              rw [hh]
                              have HSU := hide hsu
                              clear hsu hh
                              go_wp2
                              go_roundw
                              case rel => exact ⟨j + 1, by omega, by go_num, by rw [unhide HSU]; rfl, unhide HB8⟩
                              case measure => simp [intOf]; omega
                          · have hjl' : ¬ (j : Int) < (l.length : Int) := by omega
                            obtain rfl : j = l.length := by omega
                            rw [← unhide HLX]
                            clear HX6 HY6 HXE HLX
                            go_wp2
                            clear hjl hjl' hj
                            go_loopw [24] (fun i x => ∃ j : Nat, j ≤ U.length ∧ i = .int .i64 j ∧ Below w6.heap.size w6 x) (fun i _ => U.length - (intOf i).toNat)
                            case atStart => exact ⟨0, Nat.zero_le _, rfl, unhide HB6⟩
                            case round =>
                              clear HB6
                              obtain ⟨j, hj, rfl, hb⟩ := hrel
                              have HB6 := hide hb
                              clear hb
                              by_cases hjl : j < U.length
                              · have hjl' : (j : Int) < (U.length : Int) := by omega
                                obtain ⟨bu, ou, rfl, u0⟩ := (unhide HU6).carry (unhide HB6) j hjl
                                obtain ⟨bv, ov, rfl, v0⟩ := (unhide HV6).carry (unhide HB6) j hjl
                                rcases Nat.eq_zero_or_pos j with rfl | hj1
                                · generalize U[0] = z at *
                                  rw [Nat.add_zero] at u0 v0
                                  go_wp2
                                  go_quiet (fail)
                                  go_wp2
                                  go_roundw
                                  case rel => exact ⟨0 + 1, by omega, by go_num, (unhide HB6).trans ((below_drewN wr _).mono (unhide HB6).size)⟩
                                  case measure => simp [intOf]; omega
                                · obtain ⟨i, hij⟩ : ∃ i, j = i + 1 := ⟨j - 1, by omega⟩
                                  obtain ⟨b2, o2, he, u1⟩ := (unhide HU6).carry (unhide HB6) i (by omega)
                                  cases he
                                  have hlt2 : U[i] < U[j] := List.pairwise_iff_getElem.1 (unhide HR) i j (by omega) hjl (by omega)
                                  generalize U[j] = z at *
                                  generalize U[i] = z' at *
                                  have hji : (j : Int) - 1 = (i : Int) := by omega
                                  have hi0 : (0 : Int) ≤ (i : Int) := by omega
                                  have hj0 : (0 : Int) < (j : Int) := by omega
                                  have hjl3 : (i : Int) < (U.length : Int) := by omega
                                  have HIJ := hide hij
                                  have hU : (U.length : Int) ≤ 100 := by
                                    have := unhide HUL
                                    omega
                                  have hwi : IntKind.i64.wrap (i : Int) = (i : Int) := by
                                    have := unhide HUL
                                    rw [← wrap64_is]
                                    unfold wrap64
                                    omega
                                  clear hij
                                  go_wp2
                                  go_quiet (fail)
                                  go_wp2
                                  go_roundw
                                  case rel => exact ⟨j + 1, by omega, by go_num, (unhide HB6).trans ((below_drewN wr _).mono (unhide HB6).size)⟩
                                  case measure => simp [intOf]; omega
                              · have hjl' : ¬ (j : Int) < (U.length : Int) := by omega
                                have HO7 := hide ((unhide HO6).below (unhide HB6))
                                go_wp2
                                go_roundw
                                case rel => exact ⟨k + 1, by omega, by go_num, unhide HO7⟩
                                case measure => simp [intOf]; omega
                      · have hlt' : ¬ (k : Int) < (ts.length : Int) := by omega
                        go_wp2
                        go_ret
                        exact ⟨rfl, (unhide HB1).trans ((unhide HO).b.mono (unhide HB1).size)⟩

end Go.Proofs.Ytfcmkaiocnelgaa
