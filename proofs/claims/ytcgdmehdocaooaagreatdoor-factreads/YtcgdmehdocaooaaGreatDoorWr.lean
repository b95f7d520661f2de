/- How one change is written: the program's write. -/
import Derived.Test.YtcgdmehdocaooaaGreatDoorCmp2
import Derived.Test.YtcgdmehdocaooaaGreatDoorShelf
namespace Go.Proofs.YtcgdmehdocaooaaGreatDoor
open Go.RowKit

/-- The library's table of powers of ten lies as it is written. -/
def Tab (w : World) : Prop := Lib.TabIs Tryz.prog w "internal/strconv.uint64pow10" .u64 Lib.pow10Tab

theorem var_carry {P : Program} {w w' : World} {n : String} {x : Array Value} (h : w.var? P n = some x) (hb : Below w.heap.size w w') : w'.var? P n = some x := by
  unfold World.var? at *
  cases hg : P.globalNamed n with
  | none => rw [hg] at h; simp at h
  | some g =>
    rw [hg] at h
    simp only [Option.bind_some] at h ⊢
    rw [hb.block g]
    · exact h
    · rcases Nat.lt_or_ge g w.heap.size with k | k
      · exact k
      · rw [Array.getElem?_eq_none k] at h; simp at h

theorem Tab.carry {w w' : World} (h : Tab w) (hb : Below w.heap.size w w') : Tab w' := var_carry h hb

theorem itoa (n : Int) (w : World) (h0 : -9223372036854775808 ≤ n) (h1 : n ≤ 9223372036854775807) (ht : Tab w) :
    Calls Tryz.prog 46 #[.int .i64 n] w fun e w' => e = .returned (.string ⟨(Lib.itoa n).toArray⟩) ∧ Below w.heap.size w w' :=
  (Tryz.strconv_Itoa n h0 h1 w ht).mono fun e w' ⟨h, k, os, hw⟩ => ⟨h, by rw [hw]; exact ⟨rfl, rfl, rfl, by simp [Go.Sort.grow, World.drewN], fun i hi => by simp [Go.Sort.grow, World.drewN, Array.getElem?_append_left hi]⟩⟩

def dashB (s : ByteArray) : ByteArray := if s.toList = [] then ⟨#[45]⟩ else s
theorem dashB_data (s : ByteArray) : (dashB s).data.toList = dashL s.data.toList := by
  unfold dashB dashL
  rw [ByteArray.toList_eq]
  split <;> simp_all

theorem ret_string {a b : ByteArray} (h : b = a) : Ending.returned (.string a) = .returned (.string b) := by rw [h]

/-- The first one that is not empty. -/
def orS : List ByteArray → ByteArray
  | [] => ⟨#[]⟩
  | x :: l => if x.toList = [] then orS l else x

theorem orS_none (l : List ByteArray) (h : ∀ x, x ∈ l → x.toList = []) : orS l = ⟨#[]⟩ := by
  induction l with
  | nil => rfl
  | cons x l ih => rw [orS, if_pos (h x (by simp)), ih (fun y hy => h y (by simp [hy]))]

theorem orS_at (l : List ByteArray) (k : Nat) (hk : k < l.length) (h : ∀ j, (hj : j < k) → l[j].toList = []) (h2 : l[k].toList ≠ []) : orS l = l[k] := by
  induction l generalizing k with
  | nil => simp at hk
  | cons x l ih =>
    cases k with
    | zero => simp only [List.getElem_cons_zero] at h2 ⊢; rw [orS, if_neg h2]
    | succ k =>
      have h0 := h 0 (by omega)
      simp only [List.getElem_cons_zero] at h0
      rw [orS, if_pos h0]
      simp only [List.getElem_cons_succ] at h2 ⊢
      exact ih k (by simpa using hk) (fun j hj => by have := h (j + 1) (by omega); simpa using this) h2

set_option maxHeartbeats 2000000 in
theorem or_string (xs : List ByteArray) (b o c : Nat) (w : World) (hn : xs.length < 1099511627776) (hc : ∀ k, (hk : k < xs.length) → w.cell? ⟨b, o + k, none⟩ = some (.string xs[k])) :
    Calls Tryz.prog 52 #[.slice (some ⟨b, o, none⟩) xs.length c] w fun e w' => e = .returned (.string (orS xs)) ∧ w' = w := by
  have HC := hide hc
  clear hc
  go_enter Tryz.func52, Tryz.ntmps52
  go_wp2
  go_loop [8] (fun i => ∃ k : Nat, k ≤ xs.length ∧ i = .int .i64 k ∧ ∀ j, (hj : j < xs.length) → j < k → xs[j].toList = []) (fun i => xs.length - (intOf i).toNat)
  case atStart => exact ⟨0, Nat.zero_le _, rfl, fun j _ h => absurd h (Nat.not_lt_zero _)⟩
  case round =>
    obtain ⟨k, hk, rfl, hz⟩ := hrel
    have HZ := hide hz
    clear hz
    by_cases hlt : k < xs.length
    · have hlt' : (k : Int) < (xs.length : Int) := by omega
      have c1 := unhide HC k hlt
      have hF : ∃ y, y = xs[k] := ⟨_, rfl⟩
      obtain ⟨y, hy⟩ := hF
      have HY := hide hy
      rw [← hy] at c1
      clear hy
      by_cases h0 : y.toList = []
      · go_wp2
        go_round
        case rel =>
          refine ⟨k + 1, by omega, by go_num, fun j hj hjk => ?_⟩
          by_cases e : j = k
          · subst e; rw [← unhide HY]; exact h0
          · exact unhide HZ j hj (by omega)
        case measure => simp [intOf]; omega
      · have h0' : y.toList.isEmpty = false := by simp [h0]
        have E := hide (orS_at xs k hlt (fun j hj => unhide HZ j (by omega) hj) (by rw [← unhide HY]; exact h0))
        go_wp2
        go_ret
        exact ⟨ret_string (by rw [unhide E, unhide HY]), rfl⟩
    · have hlt' : ¬ (k : Int) < (xs.length : Int) := by omega
      have E := hide (orS_none xs (fun x hx => by
        obtain ⟨j, hj, rfl⟩ := List.getElem_of_mem hx
        exact unhide HZ j hj (by omega)))
      go_wp2
      go_ret
      exact ⟨ret_string (unhide E), rfl⟩

theorem or_dash (s : ByteArray) (b c : Nat) (w : World) (h0 : w.cell? ⟨b, 0, none⟩ = some (.string s)) (h1 : w.cell? ⟨b, 1, none⟩ = some (.string ⟨#[45]⟩)) :
    Calls Tryz.prog 52 #[.slice (some ⟨b, 0, none⟩) 2 c] w fun e w' => e = .returned (.string (dashB s)) ∧ w' = w := by
  have h := or_string [s, ⟨#[45]⟩] b 0 c w (by simp) (fun k hk => by
    have hk' : k < 2 := hk
    rcases k with _ | _ | k
    · exact h0
    · exact h1
    · omega)
  have e : orS [s, ⟨#[45]⟩] = dashB s := by
    unfold dashB
    rw [orS, orS]
    split
    · rw [if_neg (by rw [ByteArray.toList_eq]; simp)]
    · rfl
  rw [e] at h
  exact h

theorem num5_0 (a b c d e : Int) (w : World) : (Instr.index 70 (.agg #[.int .i64 a, .int .i64 b, .int .i64 c, .int .i64 d, .int .i64 e]) (.int .i64 0)).run Tryz.prog w = .ok (.int .i64 a) w := by kernel_rfl
theorem num5_1 (a b c d e : Int) (w : World) : (Instr.index 70 (.agg #[.int .i64 a, .int .i64 b, .int .i64 c, .int .i64 d, .int .i64 e]) (.int .i64 1)).run Tryz.prog w = .ok (.int .i64 b) w := by kernel_rfl
theorem num5_2 (a b c d e : Int) (w : World) : (Instr.index 70 (.agg #[.int .i64 a, .int .i64 b, .int .i64 c, .int .i64 d, .int .i64 e]) (.int .i64 2)).run Tryz.prog w = .ok (.int .i64 c) w := by kernel_rfl
theorem num5_3 (a b c d e : Int) (w : World) : (Instr.index 70 (.agg #[.int .i64 a, .int .i64 b, .int .i64 c, .int .i64 d, .int .i64 e]) (.int .i64 3)).run Tryz.prog w = .ok (.int .i64 d) w := by kernel_rfl
theorem num5_4 (a b c d e : Int) (w : World) : (Instr.index 70 (.agg #[.int .i64 a, .int .i64 b, .int .i64 c, .int .i64 d, .int .i64 e]) (.int .i64 4)).run Tryz.prog w = .ok (.int .i64 e) w := by kernel_rfl

/-- The texts of the numbers that have been written so far. -/
def tcell (ns : List Int) (k j : Nat) : Value := .string (if j < k then ⟨(Lib.itoa (ns.getD j 0)).toArray⟩ else ⟨#[]⟩)
def numsOf (o : Fop) : List Int := [o.kind, o.a, o.b, o.lo, o.hi]

/-- What holds when k numbers have been written: the texts lie in the block T; word and value lie in the block B. -/
def WrInv (w : World) (o : Fop) (k : Nat) (x : World) : Prop :=
  Below w.heap.size w x ∧ x.cell? ⟨w.heap.size, 2, none⟩ = some (.string o.word) ∧ x.cell? ⟨w.heap.size, 6, none⟩ = some (.string o.value) ∧
  (∀ j, j < 5 → x.cell? ⟨w.heap.size + 1 + 1, j, none⟩ = some (tcell (numsOf o) k j) ∧ x.frozen? ⟨w.heap.size + 1 + 1, j, none⟩ = false)

theorem WrInv.carry {w : World} {o : Fop} {k : Nat} {x y : World} (h : WrInv w o k x) (hb : Below x.heap.size x y) : WrInv w o k y := by
  obtain ⟨h1, h2, h3, h4⟩ := h
  refine ⟨h1.trans (hb.mono h1.size), (hb.cell (lt_of_cell h2)).trans h2, (hb.cell (lt_of_cell h3)).trans h3, fun j hj => ?_⟩
  obtain ⟨c, f⟩ := h4 j hj
  exact ⟨(hb.cell (lt_of_cell c)).trans c, (hb.frozen (lt_of_cell c)).trans f⟩

theorem WrInv.step {w : World} {o : Fop} {k : Nat} {x : World} (h : WrInv w o k x) (hk : k < 5) : WrInv w o (k + 1) (x.setCell ⟨w.heap.size + 1 + 1, k, none⟩ (.string ⟨(Lib.itoa ((numsOf o).getD k 0)).toArray⟩)) := by
  obtain ⟨h1, h2, h3, h4⟩ := h
  refine ⟨h1.setCell (by simp; omega) _, ?_, ?_, fun j hj => ?_⟩
  · rw [World.cell?_setCell_other]
    · exact h2
    · simp
  · rw [World.cell?_setCell_other]
    · exact h3
    · simp
  · rw [World.frozen?_setCell]
    refine ⟨?_, (h4 j hj).2⟩
    by_cases e : j = k
    · subst e
      rw [World.cell?_setCell_same' _ _ _ (by rw [(h4 j hj).1]; rfl)]
      simp [tcell]
    · rw [World.cell?_setCell_other _ _ _ _ (fun h => e (by simpa using h.symm)), (h4 j hj).1]
      unfold tcell
      congr 2
      by_cases hj : j < k
      · simp [hj, Nat.lt_succ_of_lt hj]
      · have : ¬ j < k + 1 := by omega
        simp [hj, this]

theorem seven_cells (W : World) (n : Nat) (hn : n = W.heap.size) (a b c d e f g : ByteArray) (j : Nat) (x : ByteArray) (h : [a, b, c, d, e, f, g][j]? = some x) : (W.alloc (.cells #[.string a, .string b, .string c, .string d, .string e, .string f, .string g] 9)).cell? ⟨n, 0 + j, none⟩ = some (.string x) := by
  subst hn
  rcases j with _ | _ | _ | _ | _ | _ | _ | j
  all_goals (simp at h; try (subst h; simp))

theorem fields_map (o : Fop) : ([⟨(Lib.itoa o.kind).toArray⟩, ⟨(Lib.itoa o.a).toArray⟩, dashB o.word, ⟨(Lib.itoa o.b).toArray⟩, ⟨(Lib.itoa o.lo).toArray⟩, ⟨(Lib.itoa o.hi).toArray⟩, dashB o.value] : List ByteArray).map (·.data.toList) = fieldsL o := by
  simp [fieldsL, dashB_data]

/-- Cells of the write's own that its last statement reads. -/
def WrHeld (w : World) (o : Fop) (x : World) : Prop :=
  (x.cell? ⟨w.heap.size, 2, none⟩ = some (.string o.word) ∧ x.cell? ⟨w.heap.size, 6, none⟩ = some (.string o.value)) ∧
  x.cell? ⟨w.heap.size + 1 + 1, 0, none⟩ = some (.string ⟨(Lib.itoa o.kind).toArray⟩) ∧ x.cell? ⟨w.heap.size + 1 + 1, 1, none⟩ = some (.string ⟨(Lib.itoa o.a).toArray⟩) ∧ x.cell? ⟨w.heap.size + 1 + 1, 2, none⟩ = some (.string ⟨(Lib.itoa o.b).toArray⟩) ∧
  x.cell? ⟨w.heap.size + 1 + 1, 3, none⟩ = some (.string ⟨(Lib.itoa o.lo).toArray⟩) ∧ x.cell? ⟨w.heap.size + 1 + 1, 4, none⟩ = some (.string ⟨(Lib.itoa o.hi).toArray⟩) ∧ Below w.heap.size w x

theorem WrHeld.carry {w : World} {o : Fop} {x y : World} (h : WrHeld w o x) (hb : Below x.heap.size x y) : WrHeld w o y := by
  obtain ⟨⟨h1, h2⟩, h3, h4, h5, h6, h7, h8⟩ := h
  have t : ∀ {a : Addr} {v : Value}, x.cell? a = some v → y.cell? a = some v := fun {a v} e => (hb.cell (p := a) (lt_of_cell e)).trans e
  exact ⟨⟨t h1, t h2⟩, t h3, t h4, t h5, t h6, t h7, h8.trans (hb.mono h8.size)⟩

theorem WrInv.held {w : World} {o : Fop} {x : World} (h : WrInv w o 5 x) : WrHeld w o x := by
  obtain ⟨h1, h2, h3, h4⟩ := h
  exact ⟨⟨h2, h3⟩, (h4 0 (by omega)).1, (h4 1 (by omega)).1, (h4 2 (by omega)).1, (h4 3 (by omega)).1, (h4 4 (by omega)).1, h1⟩

set_option maxRecDepth 100000 in
set_option maxHeartbeats 8000000 in
theorem fact_write (o : Fop) (w : World) (ho : opB o = true) (ht : Tab w) :
    Calls Tryz.prog 34 #[opV o] w fun e w' => e = .returned (.string ⟨(opL o).toArray⟩) ∧ Below w.heap.size w w' := by
  have hp := op_parts o ho
  have HB : Hid (∀ j, j < 5 → -9223372036854775808 ≤ (numsOf o).getD j 0 ∧ (numsOf o).getD j 0 ≤ 9223372036854775807) := by
    intro j hj
    rcases j with _ | _ | _ | _ | _ | j
    all_goals (simp [numsOf]; try omega)
  have HL := hide (wr_length o ho)
  have HT := hide ht
  clear hp ho ht
  have HI : Hid (WrInv w o 0 (((w.alloc (.cells #[.int .i64 o.kind, .int .i64 o.a, .string o.word, .int .i64 o.b, .int .i64 o.lo, .int .i64 o.hi, .string o.value] 44)).alloc (.cells #[.int .i64 o.kind, .int .i64 o.a, .int .i64 o.b, .int .i64 o.lo, .int .i64 o.hi] 70)).alloc (.cells #[.string ⟨#[]⟩, .string ⟨#[]⟩, .string ⟨#[]⟩, .string ⟨#[]⟩, .string ⟨#[]⟩] 71))) := by
    unfold Hid WrInv
    refine ⟨(((Below.refl _ _).alloc (Nat.le_refl _) _).alloc (by simp) _).alloc (by simp; omega) _, by simp [go_sem], by simp [go_sem], fun j hj => ?_⟩
    rcases j with _ | _ | _ | _ | _ | j
    all_goals (first | (simp [tcell, go_sem]; done) | omega)
  unfold opV opCells
  go_enter Tryz.func34, Tryz.ntmps34
  go_wp2
  generalize (((w.alloc (.cells #[.int .i64 o.kind, .int .i64 o.a, .string o.word, .int .i64 o.b, .int .i64 o.lo, .int .i64 o.hi, .string o.value] 44)).alloc (.cells #[.int .i64 o.kind, .int .i64 o.a, .int .i64 o.b, .int .i64 o.lo, .int .i64 o.hi] 70)).alloc (.cells #[.string ⟨#[]⟩, .string ⟨#[]⟩, .string ⟨#[]⟩, .string ⟨#[]⟩, .string ⟨#[]⟩] 71)) = W at HI ⊢
  go_loopw [24] (fun i x => ∃ k : Nat, k ≤ 5 ∧ i = .int .i64 k ∧ WrInv w o k x) (fun i _ => 5 - (intOf i).toNat)
  case atStart => exact ⟨0, Nat.zero_le _, rfl, unhide HI⟩
  case round =>
    obtain ⟨k, hk, rfl, hinv⟩ := hrel
    by_cases hlt : k < 5
    · have HN := hide hinv
      clear hinv
      have hk5 : k = 0 ∨ k = 1 ∨ k = 2 ∨ k = 3 ∨ k = 4 := by omega
      rcases hk5 with rfl | rfl | rfl | rfl | rfl
      · have ix := fun W => num5_0 o.kind o.a o.b o.lo o.hi W
        have HC := hide (itoa o.kind wr (unhide HB 0 (by omega)).1 (unhide HB 0 (by omega)).2 ((unhide HT).carry (unhide HN).1))
        go_wp2_with fail
        refine (unhide HC).mono ?_
        rintro e w1 ⟨rfl, b1⟩
        have h1 := (unhide HN).carry b1
        have c1 := (h1.2.2.2 0 (by omega)).1
        have f1 := (h1.2.2.2 0 (by omega)).2
        have H2 := hide (h1.step (by omega))
        clear h1 b1
        go_wp2
        exact ⟨⟨1, by omega, rfl, unhide H2⟩, by simp [intOf]⟩
      · have ix := fun W => num5_1 o.kind o.a o.b o.lo o.hi W
        have HC := hide (itoa o.a wr (unhide HB 1 (by omega)).1 (unhide HB 1 (by omega)).2 ((unhide HT).carry (unhide HN).1))
        go_wp2_with fail
        refine (unhide HC).mono ?_
        rintro e w1 ⟨rfl, b1⟩
        have h1 := (unhide HN).carry b1
        have c1 := (h1.2.2.2 1 (by omega)).1
        have f1 := (h1.2.2.2 1 (by omega)).2
        have H2 := hide (h1.step (by omega))
        clear h1 b1
        go_wp2
        exact ⟨⟨2, by omega, rfl, unhide H2⟩, by simp [intOf]⟩
      · have ix := fun W => num5_2 o.kind o.a o.b o.lo o.hi W
        have HC := hide (itoa o.b wr (unhide HB 2 (by omega)).1 (unhide HB 2 (by omega)).2 ((unhide HT).carry (unhide HN).1))
        go_wp2_with fail
        refine (unhide HC).mono ?_
        rintro e w1 ⟨rfl, b1⟩
        have h1 := (unhide HN).carry b1
        have c1 := (h1.2.2.2 2 (by omega)).1
        have f1 := (h1.2.2.2 2 (by omega)).2
        have H2 := hide (h1.step (by omega))
        clear h1 b1
        go_wp2
        exact ⟨⟨3, by omega, rfl, unhide H2⟩, by simp [intOf]⟩
      · have ix := fun W => num5_3 o.kind o.a o.b o.lo o.hi W
        have HC := hide (itoa o.lo wr (unhide HB 3 (by omega)).1 (unhide HB 3 (by omega)).2 ((unhide HT).carry (unhide HN).1))
        go_wp2_with fail
        refine (unhide HC).mono ?_
        rintro e w1 ⟨rfl, b1⟩
        have h1 := (unhide HN).carry b1
        have c1 := (h1.2.2.2 3 (by omega)).1
        have f1 := (h1.2.2.2 3 (by omega)).2
        have H2 := hide (h1.step (by omega))
        clear h1 b1
        go_wp2
        exact ⟨⟨4, by omega, rfl, unhide H2⟩, by simp [intOf]⟩
      · have ix := fun W => num5_4 o.kind o.a o.b o.lo o.hi W
        have HC := hide (itoa o.hi wr (unhide HB 4 (by omega)).1 (unhide HB 4 (by omega)).2 ((unhide HT).carry (unhide HN).1))
        go_wp2_with fail
        refine (unhide HC).mono ?_
        rintro e w1 ⟨rfl, b1⟩
        have h1 := (unhide HN).carry b1
        have c1 := (h1.2.2.2 4 (by omega)).1
        have f1 := (h1.2.2.2 4 (by omega)).2
        have H2 := hide (h1.step (by omega))
        clear h1 b1
        go_wp2
        exact ⟨⟨5, by omega, rfl, unhide H2⟩, by simp [intOf]⟩
    · have hk5 : k = 5 := by omega
      subst hk5
      have HH := hide hinv.held
      clear hinv hlt hk HI HB
      go_wp2
      go_region_held3 (fun x => (x.cell? ⟨w.heap.size, 2, none⟩ = some (.string o.word) ∧ x.cell? ⟨w.heap.size, 6, none⟩ = some (.string o.value)) ∧
  x.cell? ⟨w.heap.size + 1 + 1, 0, none⟩ = some (.string ⟨(Lib.itoa o.kind).toArray⟩) ∧ x.cell? ⟨w.heap.size + 1 + 1, 1, none⟩ = some (.string ⟨(Lib.itoa o.a).toArray⟩) ∧ x.cell? ⟨w.heap.size + 1 + 1, 2, none⟩ = some (.string ⟨(Lib.itoa o.b).toArray⟩) ∧
  x.cell? ⟨w.heap.size + 1 + 1, 3, none⟩ = some (.string ⟨(Lib.itoa o.lo).toArray⟩) ∧ x.cell? ⟨w.heap.size + 1 + 1, 4, none⟩ = some (.string ⟨(Lib.itoa o.hi).toArray⟩) ∧ Below w.heap.size w x)
        (first | exact WrHeld.carry (unhide HH) (below_drew _) | (refine WrHeld.carry (by assumption) ?_; exact below_box _ _) | (refine WrHeld.carry (by assumption) ?_; assumption) | assumption)
        (first
          | (go_at_call 52; refine (or_dash _ _ _ _ (by simp [go_sem]; rfl) (by simp [go_sem])).mono ?_; rintro e w1 ⟨rfl, rfl⟩)
          | (go_at_call 35; refine (Tryz.strings_Join _ 0 _ [⟨(Lib.itoa o.kind).toArray⟩, ⟨(Lib.itoa o.a).toArray⟩, dashB o.word, ⟨(Lib.itoa o.b).toArray⟩, ⟨(Lib.itoa o.lo).toArray⟩, ⟨(Lib.itoa o.hi).toArray⟩, dashB o.value] _ _ (by exact seven_cells _ _ (by simp) _ _ _ _ _ _ _) (by simp) (by simp) (by simp) (by rw [fields_map]; exact Nat.le_trans (unhide HL) (by decide))).mono ?_; rintro e w1 ⟨rfl, b1⟩))
      all_goals
        rename_i hh
        have HF := hide hh.2.2.2.2.2.2
        clear hh b1
        go_wp2
        go_ret
        refine ⟨ret_string ?_, unhide HF⟩
        unfold opL
        rw [← fields_map]
        simp

end Go.Proofs.YtcgdmehdocaooaaGreatDoor
