/- Union, Both and Minus of two sets. -/
import Derived.Test.YtdjajnhiicfcaaaDoorSweep
namespace Go.Proofs.YtdjajnhiicfcaaaDoor
open Go.RowKit Palim

theorem bd_of {R : List (Int × Int)} (hc : Canon R) (h : ∀ t, In R t → -1099511627776 ≤ t ∧ t < 1099511627776) : Bd R := by
  intro x hx
  have hlt := canon_lt hc x hx
  have h1 := h x.1 ⟨x, hx, Int.le_refl _, hlt⟩
  have h2 := h (x.2 - 1) ⟨x, hx, by omega, by omega⟩
  omega

theorem Bd.times {l : List (Int × Int)} (h : Bd l) : ∀ t, In l t → -1099511627776 ≤ t ∧ t < 1099511627776 := by
  rintro t ⟨x, hx, h1, h2⟩
  have := h x hx
  omega

theorem set_sweep (a b : List (Int × Int)) (k : Bool → Bool → Bool) (g : Nat) (va vb : Value) (basea baseb : Nat) (w : World) (ha : Canon a) (hb : Canon b) (ba : Bd a) (bb : Bd b)
    (la : a.length < 1099511627) (lb : b.length < 1099511627) (hk0 : k false false = false)
    (eg : ∀ args w, (callFunc g args).run Tryd.prog w = .ok (.enter g args) w)
    (hk : ∀ x y W, Calls Tryd.prog g #[.bool x, .bool y] W fun e w' => e = .returned (.bool (k x y)) ∧ w' = W)
    (oa : w.ownsRow basea 54 2 va a.length (encs a)) (ob : w.ownsRow baseb 54 2 vb b.length (encs b)) :
    Calls Tryd.prog 34 #[va, vb, .func (.func g) #[] #[]] w fun e w' => ∃ R, Canon R ∧ (∀ t, In R t ↔ k (inL a t) (inL b t) = true) ∧ R.length ≤ a.length + b.length ∧ GivesS w R e w' := by
  obtain ⟨R, r1, r2, r3⟩ := sinv_start a b k hk0
  have sa : ∃ ad cap, va = .slice ad a.length cap := by
    rcases oa.2 with ⟨h0, h1⟩ | ⟨g, cap, _, h0, _⟩
    · exact ⟨none, 0, by rw [h0, h1]⟩
    · exact ⟨_, cap, h0⟩
  have sb : ∃ ad cap, vb = .slice ad b.length cap := by
    rcases ob.2 with ⟨h0, h1⟩ | ⟨g, cap, _, h0, _⟩
    · exact ⟨none, 0, by rw [h0, h1]⟩
    · exact ⟨_, cap, h0⟩
  obtain ⟨ada, capa, rfl⟩ := sa
  obtain ⟨adb, capb, rfl⟩ := sb
  exact (sweep_cells a b k R g ada adb capa capb w ha hb ba bb la lb hk0 eg hk (fun i W h => set_side _ a i W basea (by omega) (ownsRow_carry oa h)) (fun i W h => set_side _ b i W baseb (by omega) (ownsRow_carry ob h)) r3).mono fun e w' h => ⟨R, r1, r2, h.1, h.2⟩

set_option maxHeartbeats 400000 in
theorem keep_or (x y : Bool) (W : World) : Calls Tryd.prog 35 #[.bool x, .bool y] W fun e w' => e = .returned (.bool ((fun x y => x || y) x y)) ∧ w' = W := by
  cases x
  · go_enter Tryd.func35, Tryd.ntmps35
    go_wp2
    go_ret
    exact ⟨rfl, rfl⟩
  · go_enter Tryd.func35, Tryd.ntmps35
    go_wp2
    go_ret
    exact ⟨rfl, rfl⟩

set_option maxHeartbeats 400000 in
theorem keep_and (x y : Bool) (W : World) : Calls Tryd.prog 36 #[.bool x, .bool y] W fun e w' => e = .returned (.bool ((fun x y => x && y) x y)) ∧ w' = W := by
  cases x
  · go_enter Tryd.func36, Tryd.ntmps36
    go_wp2
    go_ret
    exact ⟨rfl, rfl⟩
  · go_enter Tryd.func36, Tryd.ntmps36
    go_wp2
    go_ret
    exact ⟨rfl, rfl⟩

set_option maxHeartbeats 400000 in
theorem keep_less (x y : Bool) (W : World) : Calls Tryd.prog 37 #[.bool x, .bool y] W fun e w' => e = .returned (.bool ((fun x y => x && !y) x y)) ∧ w' = W := by
  cases x
  · go_enter Tryd.func37, Tryd.ntmps37
    go_wp2
    go_ret
    exact ⟨rfl, rfl⟩
  · go_enter Tryd.func37, Tryd.ntmps37
    go_wp2
    go_ret
    exact ⟨rfl, rfl⟩

/-- What two sets make: a new one that has just these times, if it has not too many spans. -/
def Makes (w : World) (k : Bool → Bool → Bool) (a b : List (Int × Int)) (e : Ending) (w' : World) : Prop :=
  ∃ R, Canon R ∧ Bd R ∧ (∀ t, In R t ↔ k (inL a t) (inL b t) = true) ∧ R.length ≤ a.length + b.length ∧ Below w.heap.size w w' ∧
    ((R.length ≤ 60 ∧ ∃ s, e = .returned (.tuple #[s, .nilIface]) ∧ IsSet w' s R) ∨ (60 < R.length ∧ e = .returned (.tuple #[.pointer none, .iface 23 (.int .i64 4)])))

theorem bd_made {a b R : List (Int × Int)} {k : Bool → Bool → Bool} (hk0 : k false false = false) (ba : Bd a) (bb : Bd b) (hc : Canon R) (h : ∀ t, In R t ↔ k (inL a t) (inL b t) = true) : Bd R := by
  refine bd_of hc fun t ht => ?_
  have h1 := (h t).1 ht
  cases ea : inL a t
  · cases eb : inL b t
    · rw [ea, eb, hk0] at h1; cases h1
    · exact bb.times t ((inL_iff b t).1 eb)
  · exact ba.times t ((inL_iff a t).1 ea)

set_option maxHeartbeats 1000000 in
theorem set_Union (v u : Value) (a b : List (Int × Int)) (w : World) (ha : Canon a) (hb : Canon b) (ba : Bd a) (bb : Bd b) (la : a.length < 1099511627) (lb : b.length < 1099511627) (hv : IsSet w v a) (hu : IsSet w u b) :
    Calls Tryd.prog 16 #[v, u] w (Makes w (fun x y => x || y) a b) := by
  have hP := hide (set_parts v a w hv)
  have hQ := hide (set_parts u b w hu)
  have eg : ∀ args w, (callFunc 35 args).run Tryd.prog w = .ok (.enter 35 args) w := enters_of Tryd.func35 (by kernel_rfl) rfl
  have HS := hide (fun va vb basea baseb => set_sweep a b (fun x y => x || y) 35 va vb basea baseb w ha hb ba bb la lb rfl eg keep_or)
  clear hv hu eg
  go_enter Tryd.func16, Tryd.ntmps16
  go_wp2_with fail
  refine (unhide hP).mono ?_
  rintro e w1 ⟨sv, basea, rfl, oa, rfl⟩
  have OA := hide oa
  clear oa
  go_wp2_with fail
  refine (unhide hQ).mono ?_
  rintro e w2 ⟨su, baseb, rfl, ob, rfl⟩
  have OB := hide ob
  clear ob
  go_wp2_with fail
  refine (unhide HS sv su basea baseb (unhide OA) (unhide OB)).mono ?_
  rintro e w3 ⟨R, r1, r2, rl, vR, rfl, oR, bR⟩
  have H := hide (And.intro r1 (And.intro (bd_made (k := fun x y => x || y) rfl ba bb r1 r2) (And.intro r2 (And.intro oR bR))))
  clear r1 r2 oR bR HS OA OB hP hQ
  by_cases hl : R.length ≤ 60
  · go_wp2_with fail
    refine (set_bounded vR R w3 _ (unhide H).2.2.2.1 hl).mono ?_
    rintro e w4 ⟨s, rfl, hs, b4⟩
    have H4 := hide (And.intro hs ((unhide H).2.2.2.2.trans (b4.mono (unhide H).2.2.2.2.size)))
    clear hs b4
    go_wp2
    go_ret2
    exact ⟨R, (unhide H).1, (unhide H).2.1, (unhide H).2.2.1, rl, (unhide H4).2, Or.inl ⟨hl, _, rfl, (unhide H4).1⟩⟩
  · go_wp2_with fail
    refine (set_bounded_no vR R w3 _ (unhide H).2.2.2.1 (by omega)).mono ?_
    rintro e w4 ⟨rfl, rfl⟩
    go_wp2
    go_ret2
    exact ⟨R, (unhide H).1, (unhide H).2.1, (unhide H).2.2.1, rl, (unhide H).2.2.2.2, Or.inr ⟨by omega, rfl⟩⟩

set_option maxHeartbeats 1000000 in
theorem set_Both (v u : Value) (a b : List (Int × Int)) (w : World) (ha : Canon a) (hb : Canon b) (ba : Bd a) (bb : Bd b) (la : a.length < 1099511627) (lb : b.length < 1099511627) (hv : IsSet w v a) (hu : IsSet w u b) :
    Calls Tryd.prog 17 #[v, u] w (Makes w (fun x y => x && y) a b) := by
  have hP := hide (set_parts v a w hv)
  have hQ := hide (set_parts u b w hu)
  have eg : ∀ args w, (callFunc 36 args).run Tryd.prog w = .ok (.enter 36 args) w := enters_of Tryd.func36 (by kernel_rfl) rfl
  have HS := hide (fun va vb basea baseb => set_sweep a b (fun x y => x && y) 36 va vb basea baseb w ha hb ba bb la lb rfl eg keep_and)
  clear hv hu eg
  go_enter Tryd.func17, Tryd.ntmps17
  go_wp2_with fail
  refine (unhide hP).mono ?_
  rintro e w1 ⟨sv, basea, rfl, oa, rfl⟩
  have OA := hide oa
  clear oa
  go_wp2_with fail
  refine (unhide hQ).mono ?_
  rintro e w2 ⟨su, baseb, rfl, ob, rfl⟩
  have OB := hide ob
  clear ob
  go_wp2_with fail
  refine (unhide HS sv su basea baseb (unhide OA) (unhide OB)).mono ?_
  rintro e w3 ⟨R, r1, r2, rl, vR, rfl, oR, bR⟩
  have H := hide (And.intro r1 (And.intro (bd_made (k := fun x y => x && y) rfl ba bb r1 r2) (And.intro r2 (And.intro oR bR))))
  clear r1 r2 oR bR HS OA OB hP hQ
  by_cases hl : R.length ≤ 60
  · go_wp2_with fail
    refine (set_bounded vR R w3 _ (unhide H).2.2.2.1 hl).mono ?_
    rintro e w4 ⟨s, rfl, hs, b4⟩
    have H4 := hide (And.intro hs ((unhide H).2.2.2.2.trans (b4.mono (unhide H).2.2.2.2.size)))
    clear hs b4
    go_wp2
    go_ret2
    exact ⟨R, (unhide H).1, (unhide H).2.1, (unhide H).2.2.1, rl, (unhide H4).2, Or.inl ⟨hl, _, rfl, (unhide H4).1⟩⟩
  · go_wp2_with fail
    refine (set_bounded_no vR R w3 _ (unhide H).2.2.2.1 (by omega)).mono ?_
    rintro e w4 ⟨rfl, rfl⟩
    go_wp2
    go_ret2
    exact ⟨R, (unhide H).1, (unhide H).2.1, (unhide H).2.2.1, rl, (unhide H).2.2.2.2, Or.inr ⟨by omega, rfl⟩⟩

set_option maxHeartbeats 1000000 in
theorem set_Minus (v u : Value) (a b : List (Int × Int)) (w : World) (ha : Canon a) (hb : Canon b) (ba : Bd a) (bb : Bd b) (la : a.length < 1099511627) (lb : b.length < 1099511627) (hv : IsSet w v a) (hu : IsSet w u b) :
    Calls Tryd.prog 18 #[v, u] w (Makes w (fun x y => x && !y) a b) := by
  have hP := hide (set_parts v a w hv)
  have hQ := hide (set_parts u b w hu)
  have eg : ∀ args w, (callFunc 37 args).run Tryd.prog w = .ok (.enter 37 args) w := enters_of Tryd.func37 (by kernel_rfl) rfl
  have HS := hide (fun va vb basea baseb => set_sweep a b (fun x y => x && !y) 37 va vb basea baseb w ha hb ba bb la lb rfl eg keep_less)
  clear hv hu eg
  go_enter Tryd.func18, Tryd.ntmps18
  go_wp2_with fail
  refine (unhide hP).mono ?_
  rintro e w1 ⟨sv, basea, rfl, oa, rfl⟩
  have OA := hide oa
  clear oa
  go_wp2_with fail
  refine (unhide hQ).mono ?_
  rintro e w2 ⟨su, baseb, rfl, ob, rfl⟩
  have OB := hide ob
  clear ob
  go_wp2_with fail
  refine (unhide HS sv su basea baseb (unhide OA) (unhide OB)).mono ?_
  rintro e w3 ⟨R, r1, r2, rl, vR, rfl, oR, bR⟩
  have H := hide (And.intro r1 (And.intro (bd_made (k := fun x y => x && !y) rfl ba bb r1 r2) (And.intro r2 (And.intro oR bR))))
  clear r1 r2 oR bR HS OA OB hP hQ
  by_cases hl : R.length ≤ 60
  · go_wp2_with fail
    refine (set_bounded vR R w3 _ (unhide H).2.2.2.1 hl).mono ?_
    rintro e w4 ⟨s, rfl, hs, b4⟩
    have H4 := hide (And.intro hs ((unhide H).2.2.2.2.trans (b4.mono (unhide H).2.2.2.2.size)))
    clear hs b4
    go_wp2
    go_ret2
    exact ⟨R, (unhide H).1, (unhide H).2.1, (unhide H).2.2.1, rl, (unhide H4).2, Or.inl ⟨hl, _, rfl, (unhide H4).1⟩⟩
  · go_wp2_with fail
    refine (set_bounded_no vR R w3 _ (unhide H).2.2.2.1 (by omega)).mono ?_
    rintro e w4 ⟨rfl, rfl⟩
    go_wp2
    go_ret2
    exact ⟨R, (unhide H).1, (unhide H).2.1, (unhide H).2.2.1, rl, (unhide H).2.2.2.2, Or.inr ⟨by omega, rfl⟩⟩

end Go.Proofs.YtdjajnhiicfcaaaDoor
