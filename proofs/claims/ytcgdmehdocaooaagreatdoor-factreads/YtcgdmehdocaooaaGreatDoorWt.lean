/- How changes are written: the program's Write, of changes that may be, of too few or too many, of one that may not be. -/
import Derived.Test.YtcgdmehdocaooaaGreatDoorWr
namespace Go.Proofs.YtcgdmehdocaooaaGreatDoor
open Go.RowKit

/-- Changes that lie in memory, one behind the other. -/
def OpsAt (w : World) (b off : Nat) (l : List Fop) : Prop :=
  b < w.heap.size ∧ ∀ k, (hk : k < l.length) → (w.cell? ⟨b, off + k * 7, none⟩ = some (.int .i64 l[k].kind) ∧ w.cell? ⟨b, off + k * 7 + 1, none⟩ = some (.int .i64 l[k].a) ∧ w.cell? ⟨b, off + k * 7 + 2, none⟩ = some (.string l[k].word) ∧ w.cell? ⟨b, off + k * 7 + 3, none⟩ = some (.int .i64 l[k].b) ∧
    w.cell? ⟨b, off + k * 7 + 4, none⟩ = some (.int .i64 l[k].lo) ∧ w.cell? ⟨b, off + k * 7 + 5, none⟩ = some (.int .i64 l[k].hi) ∧ w.cell? ⟨b, off + k * 7 + 6, none⟩ = some (.string l[k].value))

theorem OpsAt.carry {w w' : World} {b off : Nat} {l : List Fop} (h : OpsAt w b off l) (hb : Below w.heap.size w w') : OpsAt w' b off l := by
  obtain ⟨h1, h2⟩ := h
  refine ⟨Nat.lt_of_lt_of_le h1 hb.size, fun k hk => ?_⟩
  obtain ⟨c0, c1, c2, c3, c4, c5, c6⟩ := h2 k hk
  have t : ∀ {o : Nat} {v : Value}, w.cell? ⟨b, o, none⟩ = some v → w'.cell? ⟨b, o, none⟩ = some v := fun {o v} e => (hb.cell (p := ⟨b, o, none⟩) h1).trans e
  exact ⟨t c0, t c1, t c2, t c3, t c4, t c5, t c6⟩

/-- A slice value that reads as these changes. -/
def ReadsOps (w : World) (v : Value) (l : List Fop) : Prop :=
  ∃ ad cap, v = .slice ad l.length cap ∧ (l = [] ∨ ∃ b off, ad = some ⟨b, off, none⟩ ∧ OpsAt w b off l)

theorem ReadsOps.carry {w w' : World} {v : Value} {l : List Fop} (h : ReadsOps w v l) (hb : Below w.heap.size w w') : ReadsOps w' v l := by
  obtain ⟨ad, cap, hv, h⟩ := h
  refine ⟨ad, cap, hv, ?_⟩
  rcases h with h | ⟨b, off, ha, h⟩
  · exact Or.inl h
  · exact Or.inr ⟨b, off, ha, h.carry hb⟩

/-- The first one that may not be. -/
def FirstBad (l : List Fop) (i : Nat) : Prop := ∃ h : i < l.length, opB l[i] = false ∧ ∀ j, (hj : j < i) → opB l[j] = true

theorem first_bad : ∀ (l : List Fop), (∀ x, x ∈ l → opB x = true) ∨ ∃ i, FirstBad l i
  | [] => Or.inl (by simp)
  | x :: l => by
      cases hx : opB x
      · exact Or.inr ⟨0, by simp, by simpa using hx, fun j hj => absurd hj (Nat.not_lt_zero _)⟩
      · rcases first_bad l with h | ⟨i, h1, h2, h3⟩
        · left
          intro y hy
          rcases List.mem_cons.1 hy with rfl | hy
          · exact hx
          · exact h y hy
        · refine Or.inr ⟨i + 1, by simpa using h1, by simpa using h2, fun j hj => ?_⟩
          cases j with
          | zero => simpa using hx
          | succ j => simpa using h3 j (by omega)

set_option maxHeartbeats 1000000 in
theorem write_wrong (o : Fop) (w : World) (hs : Small o) :
    Calls Tryz.prog 32 #[opV o] w fun e w' => e = .returned (.bool (!opB o)) ∧ Below w.heap.size w w' := by
  have HO := hide (fun W => fact_Op o W hs)
  unfold opV opCells at *
  generalize opB o = x at HO ⊢
  go_enter Tryz.func32, Tryz.ntmps32
  go_wp2_with fail
  refine (unhide HO _).mono ?_
  rintro e w1 ⟨rfl, b1⟩
  have HB : Hid (Below w.heap.size w w1) := ((Below.refl _ _).alloc (Nat.le_refl _) _).trans (b1.mono (by simp))
  clear b1
  go_wp2
  go_ret
  exact ⟨rfl, unhide HB⟩

set_option maxHeartbeats 4000000 in
theorem index_none (l : List Fop) (b off cap : Nat) (w : World) (hn : l.length < 1099511627776) (hs : ∀ x, x ∈ l → Small x) (h : OpsAt w b off l) (hok : ∀ x, x ∈ l → opB x = true) :
    Calls Tryz.prog 31 #[.slice (some ⟨b, off, none⟩) l.length cap, .func (.func 32) #[] #[]] w fun e w' => e = .returned (.int .i64 (-1)) ∧ Below w.heap.size w w' := by
  have eg : ∀ args w, (callFunc 32 args).run Tryz.prog w = .ok (.enter 32 args) w := enters_of Tryz.func32 (by kernel_rfl) rfl
  have H := hide h
  have HS := hide hs
  have HK := hide hok
  clear h hs hok
  go_enter Tryz.func31, Tryz.ntmps31
  go_wp2
  go_loopw [8] (fun i x => ∃ k : Nat, k ≤ l.length ∧ i = .int .i64 k ∧ Below w.heap.size w x) (fun i _ => l.length - (intOf i).toNat)
  case atStart => exact ⟨0, Nat.zero_le _, rfl, Below.refl _ _⟩
  case round =>
    obtain ⟨k, hk, rfl, hb⟩ := hrel
    by_cases hlt : k < l.length
    · have hlt' : (k : Int) < (l.length : Int) := by omega
      obtain ⟨c0, c1, c2, c3, c4, c5, c6⟩ := ((unhide H).carry hb).2 k hlt
      have HC := hide (write_wrong l[k] wr (unhide HS _ (List.getElem_mem hlt)))
      have hkk := unhide HK _ (List.getElem_mem hlt)
      unfold opV opCells at HC
      rw [hkk] at HC
      have HB := hide hb
      clear hkk hb
      generalize l[k] = o at *
      go_wp2_with (go_at_fn 32; refine (unhide HC).mono ?_; rintro e w1 ⟨rfl, b1⟩)
      go_roundw
      case rel => exact ⟨k + 1, by omega, by go_num, (unhide HB).trans (b1.mono (unhide HB).size)⟩
      case measure => simp [intOf]; omega
    · have hlt' : ¬ (k : Int) < (l.length : Int) := by omega
      go_wp2
      go_ret
      exact ⟨rfl, hb⟩

set_option maxHeartbeats 4000000 in
theorem index_bad (l : List Fop) (i0 b off cap : Nat) (w : World) (hn : l.length < 1099511627776) (hs : ∀ x, x ∈ l → Small x) (h : OpsAt w b off l) (hbad : FirstBad l i0) :
    Calls Tryz.prog 31 #[.slice (some ⟨b, off, none⟩) l.length cap, .func (.func 32) #[] #[]] w fun e w' => e = .returned (.int .i64 i0) ∧ Below w.heap.size w w' := by
  have eg : ∀ args w, (callFunc 32 args).run Tryz.prog w = .ok (.enter 32 args) w := enters_of Tryz.func32 (by kernel_rfl) rfl
  obtain ⟨hi0, hb1, hb2⟩ := hbad
  have H := hide h
  have HS := hide hs
  have H1 := hide hb1
  have H2 := hide hb2
  clear h hs hb1 hb2
  go_enter Tryz.func31, Tryz.ntmps31
  go_wp2
  go_loopw [8] (fun i x => ∃ k : Nat, k ≤ i0 ∧ i = .int .i64 k ∧ Below w.heap.size w x) (fun i _ => l.length - (intOf i).toNat)
  case atStart => exact ⟨0, Nat.zero_le _, rfl, Below.refl _ _⟩
  case round =>
    obtain ⟨k, hk, rfl, hb⟩ := hrel
    have hlt : k < l.length := by omega
    have hlt' : (k : Int) < (l.length : Int) := by omega
    obtain ⟨c0, c1, c2, c3, c4, c5, c6⟩ := ((unhide H).carry hb).2 k hlt
    have HC := hide (write_wrong l[k] wr (unhide HS _ (List.getElem_mem hlt)))
    unfold opV opCells at HC
    have HB := hide hb
    clear hb
    by_cases hki : k = i0
    · subst hki
      rw [unhide H1] at HC
      clear H1 H2
      generalize l[k] = o at *
      go_wp2_with (go_at_fn 32; refine (unhide HC).mono ?_; rintro e w1 ⟨rfl, b1⟩)
      go_ret
      exact ⟨rfl, (unhide HB).trans (b1.mono (unhide HB).size)⟩
    · rw [unhide H2 k (by omega)] at HC
      clear H1 H2
      generalize l[k] = o at *
      go_wp2_with (go_at_fn 32; refine (unhide HC).mono ?_; rintro e w1 ⟨rfl, b1⟩)
      go_roundw
      case rel => exact ⟨k + 1, by omega, by go_num, (unhide HB).trans (b1.mono (unhide HB).size)⟩
      case measure => simp [intOf]; omega

/-- An error with its place lies in a block. -/
def AtErr (w' : World) (n i : Int) (v : Value) : Prop :=
  ∃ b, v = .iface 75 (.pointer (some ⟨b, 0, none⟩)) ∧ w'.cell? ⟨b, 0, none⟩ = some (.int .i64 n) ∧ w'.cell? ⟨b, 1, none⟩ = some (.int .i64 i)

/-- Too few, or too many. -/
theorem write_limit (l : List Fop) (v : Value) (w : World) (hn : l.length < 1099511627776) (h : ReadsOps w v l) (hl : ¬ (1 ≤ l.length ∧ l.length ≤ 8)) :
    Calls Tryz.prog 15 #[v] w fun e w' => e = .returned (.tuple #[.string ⟨#[]⟩, .iface 23 (.int .i64 4)]) ∧ w' = w := by
  obtain ⟨ad, cap, rfl, h⟩ := h
  clear h
  by_cases h1 : l.length < 1
  · have h1' : (l.length : Int) < 1 := by omega
    go_enter Tryz.func15, Tryz.ntmps15
    go_wp2
    go_ret2
    exact ⟨rfl, rfl⟩
  · have h1' : ¬ (l.length : Int) < 1 := by omega
    have h2' : 8 < (l.length : Int) := by omega
    go_enter Tryz.func15, Tryz.ntmps15
    go_wp2
    go_ret2
    exact ⟨rfl, rfl⟩

set_option maxHeartbeats 4000000 in
/-- One may not be. -/
theorem write_bad (l : List Fop) (i0 : Nat) (v : Value) (w : World) (hs : ∀ x, x ∈ l → Small x) (h : ReadsOps w v l) (hl : 1 ≤ l.length ∧ l.length ≤ 8) (hbad : FirstBad l i0) :
    Calls Tryz.prog 15 #[v] w fun e w' => ∃ u, e = .returned (.tuple #[.string ⟨#[]⟩, u]) ∧ AtErr w' 1 i0 u ∧ Below w.heap.size w w' := by
  obtain ⟨ad, cap, rfl, h⟩ := h
  rcases h with rfl | ⟨b, off, rfl, h⟩
  · simp at hl
  · have HC := hide (index_bad l i0 b off cap w (by omega) hs h hbad)
    have h1' : ¬ (l.length : Int) < 1 := by omega
    have h2' : ¬ 8 < (l.length : Int) := by omega
    have h3 : (0 : Int) ≤ (i0 : Int) := by omega
    clear h hs hbad
    go_enter Tryz.func15, Tryz.ntmps15
    go_wp2_with fail
    refine (unhide HC).mono ?_
    rintro e w1 ⟨rfl, b1⟩
    have HB := hide (b1.alloc b1.size (.cells #[.int .i64 1, .int .i64 i0] 76))
    clear b1
    go_wp2
    go_ret2
    refine ⟨_, rfl, ⟨w1.heap.size, rfl, ?_, ?_⟩, unhide HB⟩
    · simp
    · simp

end Go.Proofs.YtcgdmehdocaooaaGreatDoor
