/- The document's tree: a span goes: walked. -/
import Derived.Test.YtfcmkaiocnelgaaDoorTrA
namespace Go.Proofs.YtfcmkaiocnelgaaDoor
open Go.RowKit

theorem own_rowI_any {w : World} {base : Nat} {v : Value} {l : List Int} (h : w.ownsRow base 3 1 v l.length (l.map (Value.int .i64))) : ∃ g, base ≤ g ∧ RowI w v g l := by
  by_cases hv : v = .slice none 0 0
  · by_cases hl : l = []
    · exact ⟨base, Nat.le_refl _, .inl ⟨hv, hl⟩⟩
    · exact own_rowI h (.inl hl)
  · exact own_rowI h (.inr hv)

theorem own_rowS_any {w : World} {base : Nat} {v : Value} {l : List Ent} (h : w.ownsRow base 29 2 v l.length (spanC l)) : ∃ g, base ≤ g ∧ RowS w v g l := by
  by_cases hv : v = .slice none 0 0
  · by_cases hl : l = []
    · exact ⟨base, Nat.le_refl _, .inl ⟨hv, hl⟩⟩
    · exact own_rowS h (.inl hl)
  · exact own_rowS h (.inr hv)

/-- What Drop does to the document's tree. -/
def DropSays (L : List Ent) (B bi bs : Nat) (id : Int) (w : World) (e : Ending) (w' : World) : Prop :=
  e = .returned (.int .i64 (dropErr L id)) ∧ (∃ bi' bs', RefTree w' B bi' bs' (dropTo L id) ∧ (bi' = bi ∨ w.heap.size ≤ bi') ∧ (bs' = bs ∨ w.heap.size ≤ bs')) ∧ w.grownBy w' (some B)

set_option maxRecDepth 100000 in
set_option maxHeartbeats 4000000 in
theorem ref_Drop (L : List Ent) (B bi bs : Nat) (id : Int) (w : World) (hr : Rising L) (hl : L.length ≤ 100000) (h : RefTree w B bi bs L) (hbs : bs ≠ B) :
    Calls Tryd.prog 43 #[.pointer (some ⟨B, 0, none⟩), .int .i64 id] w (DropSays L B bi bs id w) := by
  have HF := hide (ref_find L B bi bs id w hr hl h)
  by_cases h3 : foundT L id = true
  · obtain ⟨hlt, _⟩ := found_at L id h3
    have E : Hid (dropErr L id = 0 ∧ dropTo L id = L.take (posT L id) ++ L.drop (posT L id + 1)) := ⟨by unfold dropErr; rw [if_pos h3], by unfold dropTo; rw [if_pos h3]; rfl⟩
    rw [h3] at HF
    obtain ⟨vi, vs, c0, c1, f0, f1, hi', hs'⟩ := h
    have HRI := hide hi'
    have HRS := hide hs'
    obtain ⟨ai, ci, rfl, _⟩ := hi'.form
    obtain ⟨az, cz, rfl, _⟩ := hs'.form
    rw [List.length_map] at c0 HRI
    have hk0 : (0 : Int) ≤ (posT L id : Int) := by omega
    have hk1 : (posT L id : Int) + 1 ≤ (L.length : Int) := by omega
    have hk4 : (posT L id : Int) ≤ (L.length : Int) := by omega
    have hk5 : (0 : Int) ≤ (posT L id : Int) + 1 := by omega
    clear h3 hi' hs'
    go_enter Tryd.func43, Tryd.ntmps43
    go_wp2_with fail
    refine (unhide HF).mono ?_
    rintro e W ⟨rfl, b3⟩
    have BW := hide b3
    have hBl := lt_of_cell c0
    have hBW : B < W.heap.size := Nat.lt_of_lt_of_le hBl b3.size
    have d0 := (b3.cell (p := ⟨B, 0, none⟩) hBl).trans c0
    have d1 := (b3.cell (p := ⟨B, 1, none⟩) hBl).trans c1
    have g0 := (frozen_below (a := ⟨B, 0, none⟩) b3 hBl).trans f0
    have g1 := (frozen_below (a := ⟨B, 1, none⟩) b3 hBl).trans f1
    have HWI := hide ((unhide HRI).carry b3)
    have HWS := hide ((unhide HRS).carry b3)
    generalize posT L id = k at *
    have hwr : IntKind.i64.wrap ((k : Int) + 1) = (k : Int) + 1 := by simp [IntKind.wrap, IntKind.bits, IntKind.signed]; omega
    clear HF b3 HRI HRS c0 c1 f0 f1
    have HD1 := hide (And.intro d1 g1)
    clear d1 g1
    go_wp2
    rename_i K0 hK0
    have HK0 := hide hK0
    clear hK0
    have TB : ∀ (y2 y3 y6 y7 y8 y9 y10 y11 y12 y13 y14 y15 y16 y17 y18 y19 y20 y21 y22 y23 y24 y25 y26 y27 y28 y29 y30 y31 y32 y33 y34 y35 y36 y37 y38 y39 y40 y41 y42 y43 y44 y45 y46 y47 y48 y49 y50 y51 y52 : Value) (n3 : World) (a3 : Option Addr) (c3 : Nat), Below W.heap.size W n3 → n3.ownsRow W.heap.size 3 1 (.slice a3 (L.length - 1) c3) (L.length - 1) (((L.map (·.id)).take k ++ (L.map (·.id)).drop (k + 1)).map (Value.int .i64)) →
        K0 { tmps := #[.pointer (some ⟨B, 0, none⟩), .int .i64 id, y2, y3, .int .i64 0, .int .i64 k, y6, y7, y8, y9, y10, y11, y12, y13, y14, y15, y16, y17, y18, y19, y20, y21, y22, y23, y24, y25, y26, y27, y28, y29, y30, y31, y32, y33, y34, y35, y36, y37, y38, y39, y40, y41, y42, y43, y44, y45, y46, y47, y48, y49, y50, y51, y52], defers := [] } (n3.setCell ⟨B, 0, none⟩ (.slice a3 (L.length - 1) c3)) := by
      intro y2 y3 y6 y7 y8 y9 y10 y11 y12 y13 y14 y15 y16 y17 y18 y19 y20 y21 y22 y23 y24 y25 y26 y27 y28 y29 y30 y31 y32 y33 y34 y35 y36 y37 y38 y39 y40 y41 y42 y43 y44 y45 y46 y47 y48 y49 y50 y51 y52 n3 a3 c3 hN3 hI3
      refine unhide HK0 _ _ ?_
      clear HK0
      have hq : ((L.map (·.id)).take k ++ (L.map (·.id)).drop (k + 1)).length = L.length - 1 := by simp only [List.length_append, List.length_take, List.length_drop, List.length_map]; omega
      have x1 : (n3.setCell ⟨B, 0, none⟩ (.slice a3 (L.length - 1) c3)).cell? ⟨B, 1, none⟩ = some (.slice az L.length cz) := by
        rw [World.cell?_setCell_other _ _ _ _ (by simp)]
        exact (hN3.cell (p := ⟨B, 1, none⟩) hBW).trans (unhide HD1).1
      have x0 : (n3.setCell ⟨B, 0, none⟩ (.slice a3 (L.length - 1) c3)).cell? ⟨B, 0, none⟩ = some (.slice a3 (L.length - 1) c3) :=
        World.cell?_setCell_same _ _ _ ((hN3.cell (p := ⟨B, 0, none⟩) hBW).trans d0)
      have gx : (n3.setCell ⟨B, 0, none⟩ (.slice a3 (L.length - 1) c3)).frozen? ⟨B, 1, none⟩ = false := by
        rw [World.frozen?_setCell]
        exact (frozen_below (a := ⟨B, 1, none⟩) hN3 hBW).trans (unhide HD1).2
      have gx0 : (n3.setCell ⟨B, 0, none⟩ (.slice a3 (L.length - 1) c3)).frozen? ⟨B, 0, none⟩ = false := by
        rw [World.frozen?_setCell]
        exact (frozen_below (a := ⟨B, 0, none⟩) hN3 hBW).trans g0
      have hXS := ((unhide HWS).carry hN3).set B 0 (.slice a3 (L.length - 1) c3) hbs
      have hXI : ∃ g, W.heap.size ≤ g ∧ RowI (n3.setCell ⟨B, 0, none⟩ (.slice a3 (L.length - 1) c3)) (.slice a3 (L.length - 1) c3) g ((L.map (·.id)).take k ++ (L.map (·.id)).drop (k + 1)) := by
        have hI3' := hI3
        rw [← hq] at hI3'
        obtain ⟨g, hg, hR⟩ := own_rowI_any hI3'
        rw [hq] at hR
        exact ⟨g, hg, hR.set B 0 _ (by omega)⟩
      have hXw : w.grownBy (n3.setCell ⟨B, 0, none⟩ (.slice a3 (L.length - 1) c3)) (some B) := grown_trans (grown_trans (grown_below _ (unhide BW) (Nat.le_refl _)) (grown_below _ hN3 (Nat.le_refl _))) (grown_set _ _ _ _)
      have hXz : W.heap.size ≤ (n3.setCell ⟨B, 0, none⟩ (.slice a3 (L.length - 1) c3)).heap.size := by simpa using hN3.size
      have hwz := (unhide BW).size
      generalize n3.setCell ⟨B, 0, none⟩ (.slice a3 (L.length - 1) c3) = X at *
      clear hN3 hI3
      have hBX : B < X.heap.size := by omega
      have HEND : Hid (∀ (n6 : World) (a6 : Option Addr) (c6 : Nat), Below X.heap.size X n6 → n6.ownsRow X.heap.size 29 2 (.slice a6 (L.length - 1) c6) (L.length - 1) (spanC (L.take k ++ L.drop (k + 1))) →
          DropSays L B bi bs id w (.returned (.int .i64 0)) (n6.setCell ⟨B, 1, none⟩ (.slice a6 (L.length - 1) c6))) := fun n6 a6 c6 hN6 hI6 => by
        obtain ⟨g, hg, hR⟩ := hXI
        have hq2 : (L.take k ++ L.drop (k + 1)).length = L.length - 1 := by simp only [List.length_append, List.length_take, List.length_drop]; omega
        rw [← hq2] at hI6
        obtain ⟨gs, hgs, hS⟩ := own_rowS_any hI6
        rw [hq2] at hS
        refine ⟨by rw [(unhide E).1], ⟨g, gs, ?_, Or.inr (by omega), Or.inr (by omega)⟩, grown_trans hXw (grown_trans (grown_below _ hN6 (Nat.le_refl _)) (grown_set _ _ _ _))⟩
        rw [(unhide E).2]
        have em : (L.take k ++ L.drop (k + 1)).map (·.id) = (L.map (·.id)).take k ++ (L.map (·.id)).drop (k + 1) := by simp
        refine ⟨.slice a3 (L.length - 1) c3, .slice a6 (L.length - 1) c6, ?_, World.cell?_setCell_same _ _ _ ((hN6.cell (p := ⟨B, 1, none⟩) hBX).trans x1), ?_, ?_, ?_, hS.set B 1 _ (by omega)⟩
        · rw [World.cell?_setCell_other _ _ _ _ (by simp)]
          exact (hN6.cell (p := ⟨B, 0, none⟩) hBX).trans x0
        · rw [World.frozen?_setCell]
          exact (frozen_below (a := ⟨B, 0, none⟩) hN6 hBX).trans gx0
        · rw [World.frozen?_setCell]
          exact (frozen_below (a := ⟨B, 1, none⟩) hN6 hBX).trans gx
        · rw [em]
          rcases hR.carry hN6 with hR | hR
          · exact .inl hR
          · exact RowI.set (.inr hR) B 1 _ (by omega)
      have S0 : Hid (SA B 1 (.slice az L.length cz) X X.drew) := ⟨x1, below_drew X⟩
      have HXS := hide hXS
      clear hXS hXI hXw x0 x1 gx0 HWS HD1 hq
      go_wp2
      rename_i K1 hK1
      have HK1 := hide hK1
      clear hK1
      rcases unhide HXS with ⟨hnil, hn⟩ | ⟨cz', hsome, hcz, hbX, hcell⟩
      · rw [hn] at hlt
        simp at hlt
      · obtain ⟨rfl, rfl⟩ : az = some ⟨bs, 0, none⟩ ∧ cz = cz' := by simpa using hsome
        have HS1 : Hid (∀ x, Below X.heap.size X x → SrcE x (.slice (some ⟨bs, 0, none⟩) k cz) (L.take k)) := fun x hb => src_takeE hcell hbX (by omega) hb
        have HS3 : Hid (∀ x, Below X.heap.size X x → SrcE x (.slice (if cz = k + 1 then some ⟨bs, 0, none⟩ else some ⟨bs, (k + 1) * 2, none⟩) (L.length - (k + 1)) (cz - (k + 1))) (L.drop (k + 1))) := fun x hb => src_dropE rfl hcell hbX (by omega) hcz hb
        have hk2 : (k : Int) + 1 ≤ (cz : Int) := by omega
        have hk6 : (k : Int) ≤ (cz : Int) := by omega
        have hk3 : (L.length : Int) ≤ (cz : Int) := by omega
        clear hcell hsome HXS
        refine wp_region_tail (fun x => x.cell? ⟨B, 1, none⟩ = some (.slice (some ⟨bs, 0, none⟩) L.length cz) ∧ Below X.heap.size X x) 17 (by kernel_rfl) (by kernel_rfl) (unhide S0) (fun hHeld => ?_)
        refine wpAnyH_take (i := 0) (oi := ?to0_1) (v := ?tv0_1) ?th0_1 (by kernel_rfl) (by kernel_rfl) (by kernel_rfl) ?tq0_1 (Or.inl ⟨?tw0_1, ?ty0_1⟩) (by assumption) ?tr0_1
        case th0_1 => (simp only [List.getElem?_toArray, List.getElem?_cons_zero]; rfl)
        case tq0_1 => exact fun _ _ _ h => h
        case tw0_1 => rfl
        case ty0_1 => (intro w' hSw; (try dsimp only at hSw); go_simp <;> with_reducible rfl)
        try simp only [Act.put, List.setIfInBounds_toArray, List.set_cons_zero, List.set_cons_succ]
        refine wpAnyH_take (i := 2) (oi := ?to2_1) (v := ?tv2_1) ?th2_1 (by kernel_rfl) (by kernel_rfl) (by kernel_rfl) ?tq2_1 (Or.inl ⟨?tw2_1, ?ty2_1⟩) (by assumption) ?tr2_1
        case th2_1 => (simp only [List.getElem?_toArray, List.getElem?_cons_zero, List.getElem?_cons_succ]; rfl)
        case tq2_1 => exact fun _ _ _ h => h
        case tw2_1 => rfl
        case ty2_1 => (intro w' hSw; (try dsimp only at hSw); go_simp <;> with_reducible rfl)
        try simp only [Act.put, List.setIfInBounds_toArray, List.set_cons_zero, List.set_cons_succ]
        refine wpAnyH_take (i := 3) (oi := ?to3_1) (v := ?tv3_1) ?th3_1 (by kernel_rfl) (by kernel_rfl) (by kernel_rfl) ?tq3_1 (Or.inl ⟨?tw3_1, ?ty3_1⟩) (by assumption) ?tr3_1
        case th3_1 => (simp only [List.getElem?_toArray, List.getElem?_cons_zero, List.getElem?_cons_succ]; rfl)
        case tq3_1 => exact fun _ _ _ h => h
        case tw3_1 => rfl
        case ty3_1 => (intro w' hSw; (try dsimp only at hSw); go_simp <;> with_reducible rfl)
        try simp only [Act.put, List.setIfInBounds_toArray, List.set_cons_zero, List.set_cons_succ]
        refine wpAnyH_take (i := 4) (oi := ?to4_1) (v := ?tv4_1) ?th4_1 (by kernel_rfl) (by kernel_rfl) (by kernel_rfl) ?tq4_1 (Or.inl ⟨?tw4_1, ?ty4_1⟩) (by assumption) ?tr4_1
        case th4_1 => (simp only [List.getElem?_toArray, List.getElem?_cons_zero, List.getElem?_cons_succ]; rfl)
        case tq4_1 => exact fun _ _ _ h => h
        case tw4_1 => rfl
        case ty4_1 => (intro w' hSw; (try dsimp only at hSw); go_simp <;> with_reducible rfl)
        try simp only [Act.put, List.setIfInBounds_toArray, List.set_cons_zero, List.set_cons_succ]
        refine wpAnyH_take (i := 5) (oi := ?to5_1) (v := ?tv5_1) ?th5_1 (by kernel_rfl) (by kernel_rfl) (by kernel_rfl) ?tq5_1 (Or.inl ⟨?tw5_1, ?ty5_1⟩) (by assumption) ?tr5_1
        case th5_1 => (simp only [List.getElem?_toArray, List.getElem?_cons_zero, List.getElem?_cons_succ]; rfl)
        case tq5_1 => exact fun _ _ _ h => h
        case tw5_1 => rfl
        case ty5_1 => (intro w' hSw; (try dsimp only at hSw); go_simp <;> with_reducible rfl)
        try simp only [Act.put, List.setIfInBounds_toArray, List.set_cons_zero, List.set_cons_succ]
        refine wpAnyH_take (i := 6) (oi := ?to6_1) (v := ?tv6_1) ?th6_1 (by kernel_rfl) (by kernel_rfl) (by kernel_rfl) ?tq6_1 (Or.inl ⟨?tw6_1, ?ty6_1⟩) (by assumption) ?tr6_1
        case th6_1 => (simp only [List.getElem?_toArray, List.getElem?_cons_zero, List.getElem?_cons_succ]; rfl)
        case tq6_1 => exact fun _ _ _ h => h
        case tw6_1 => rfl
        case ty6_1 => (intro w' hSw; (try dsimp only at hSw); go_simp <;> with_reducible rfl)
        try simp only [Act.put, List.setIfInBounds_toArray, List.set_cons_zero, List.set_cons_succ]
        refine wpAnyH_take (i := 7) (oi := ?to7_1) (v := ?tv7_1) ?th7_1 (by kernel_rfl) (by kernel_rfl) (by kernel_rfl) ?tq7_1 (Or.inl ⟨?tw7_1, ?ty7_1⟩) (by assumption) ?tr7_1
        case th7_1 => (simp only [List.getElem?_toArray, List.getElem?_cons_zero, List.getElem?_cons_succ]; rfl)
        case tq7_1 => exact fun _ _ _ h => h
        case tw7_1 => rfl
        case ty7_1 => (intro w' hSw; (try dsimp only at hSw); go_simp <;> with_reducible rfl)
        try simp only [Act.put, List.setIfInBounds_toArray, List.set_cons_zero, List.set_cons_succ]
        refine wpAnyH_take (i := 9) (oi := ?to9_1) (v := ?tv9_1) ?th9_1 (by kernel_rfl) (by kernel_rfl) (by kernel_rfl) ?tq9_1 (Or.inl ⟨?tw9_1, ?ty9_1⟩) (by assumption) ?tr9_1
        case th9_1 => (simp only [List.getElem?_toArray, List.getElem?_cons_zero, List.getElem?_cons_succ]; rfl)
        case tq9_1 => exact fun _ _ _ h => h
        case tw9_1 => rfl
        case ty9_1 => (intro w' hSw; (try dsimp only at hSw); go_simp <;> with_reducible rfl)
        try simp only [Act.put, List.setIfInBounds_toArray, List.set_cons_zero, List.set_cons_succ]
        refine wpAnyH_take (i := 10) (oi := ?to10_1) (v := ?tv10_1) ?th10_1 (by kernel_rfl) (by kernel_rfl) (by kernel_rfl) ?tq10_1 (Or.inl ⟨?tw10_1, ?ty10_1⟩) (by assumption) ?tr10_1
        case th10_1 => (simp only [List.getElem?_toArray, List.getElem?_cons_zero, List.getElem?_cons_succ]; rfl)
        case tq10_1 => exact fun _ _ _ h => h
        case tw10_1 => rfl
        case ty10_1 => (intro w' hSw; (try dsimp only at hSw); go_simp <;> with_reducible rfl)
        try simp only [Act.put, List.setIfInBounds_toArray, List.set_cons_zero, List.set_cons_succ]
        refine wpAnyH_take (i := 11) (oi := ?to11_1) (v := ?tv11_1) ?th11_1 (by kernel_rfl) (by kernel_rfl) (by kernel_rfl) ?tq11_1 (Or.inl ⟨?tw11_1, ?ty11_1⟩) (by assumption) ?tr11_1
        case th11_1 => (simp only [List.getElem?_toArray, List.getElem?_cons_zero, List.getElem?_cons_succ]; rfl)
        case tq11_1 => exact fun _ _ _ h => h
        case tw11_1 => rfl
        case ty11_1 => (intro w' hSw; (try dsimp only at hSw); go_simp <;> with_reducible rfl)
        try simp only [Act.put, List.setIfInBounds_toArray, List.set_cons_zero, List.set_cons_succ]
        refine wpAnyH_take (i := 12) (oi := ?to12_1) (v := ?tv12_1) ?th12_1 (by kernel_rfl) (by kernel_rfl) (by kernel_rfl) ?tq12_1 (Or.inl ⟨?tw12_1, ?ty12_1⟩) (by assumption) ?tr12_1
        case th12_1 => (simp only [List.getElem?_toArray, List.getElem?_cons_zero, List.getElem?_cons_succ]; rfl)
        case tq12_1 => exact fun _ _ _ h => h
        case tw12_1 => rfl
        case ty12_1 => (intro w' hSw; (try dsimp only at hSw); go_simp <;> with_reducible rfl)
        try simp only [Act.put, List.setIfInBounds_toArray, List.set_cons_zero, List.set_cons_succ]
        refine wpAnyH_take (i := 13) (oi := ?to13_1) (v := ?tv13_1) ?th13_1 (by kernel_rfl) (by kernel_rfl) (by kernel_rfl) ?tq13_1 (Or.inl ⟨?tw13_1, ?ty13_1⟩) (by assumption) ?tr13_1
        case th13_1 => (simp only [List.getElem?_toArray, List.getElem?_cons_zero, List.getElem?_cons_succ]; rfl)
        case tq13_1 => exact fun _ _ _ h => h
        case tw13_1 => rfl
        case ty13_1 => (intro w' hSw; (try dsimp only at hSw); go_simp <;> with_reducible rfl)
        try simp only [Act.put, List.setIfInBounds_toArray, List.set_cons_zero, List.set_cons_succ]
        refine wpAnyH_take (i := 14) (oi := ?to14_1) (v := ?tv14_1) ?th14_1 (by kernel_rfl) (by kernel_rfl) (by kernel_rfl) ?tq14_1 (Or.inl ⟨?tw14_1, ?ty14_1⟩) (by assumption) ?tr14_1
        case th14_1 => (simp only [List.getElem?_toArray, List.getElem?_cons_zero, List.getElem?_cons_succ]; rfl)
        case tq14_1 => exact fun _ _ _ h => h
        case tw14_1 => rfl
        case ty14_1 => (intro w' hSw; (try dsimp only at hSw); go_simp <;> with_reducible rfl)
        try simp only [Act.put, List.setIfInBounds_toArray, List.set_cons_zero, List.set_cons_succ]
        refine wpAnyH_take (i := 15) (oi := ?to15_1) (v := ?tv15_1) ?th15_1 (by kernel_rfl) (by kernel_rfl) (by kernel_rfl) ?tq15_1 (Or.inl ⟨?tw15_1, ?ty15_1⟩) (by assumption) ?tr15_1
        case th15_1 => (simp only [List.getElem?_toArray, List.getElem?_cons_zero, List.getElem?_cons_succ]; rfl)
        case tq15_1 => exact fun _ _ _ h => h
        case tw15_1 => rfl
        case ty15_1 => (intro w' hSw; (try dsimp only at hSw); go_simp <;> with_reducible rfl)
        try simp only [Act.put, List.setIfInBounds_toArray, List.set_cons_zero, List.set_cons_succ]
        generalize (Value.slice (if cz = k + 1 then (some ⟨bs, 0, none⟩ : Option Addr) else some ⟨bs, (k + 1) * 2, none⟩) (L.length - (k + 1)) (cz - (k + 1))) = dv at HS3 ⊢
        refine wpAnyH_ready (rs := [1]) (by kernel_rfl) (by simp) ?_
        refine AllReadyH.cons (o := ?bo1_1) ?bh1_1 (fun K hK => ?bs1_1) ?bm1_1
        case bh1_1 => (simp only [List.getElem?_toArray, List.getElem?_cons_zero, List.getElem?_cons_succ]; rfl)
        case bs1_1 =>
          go_simp
          refine hK.out _ _ (SA.carry (by assumption) (below_box _ _)) (fun hHeld => ?_)
          clear hK K
          try simp only [Act.put, List.setIfInBounds_toArray, List.set_cons_zero, List.set_cons_succ]
          refine wpAnyH_ready (rs := [8]) (by kernel_rfl) (by simp) ?_
          refine AllReadyH.cons (o := ?bo8_2) ?bh8_2 (fun K hK => ?bs8_2) ?bm8_2
          case bh8_2 => (simp only [List.getElem?_toArray, List.getElem?_cons_zero, List.getElem?_cons_succ]; rfl)
          case bs8_2 =>
            refine step_appE _ (by rfl) (.tmp 35) (.tmp 41) (by rfl) X.heap.size _ _ [] (L.take k) (by rfl) (own_nil _ _ _ _ _ (Nat.le_refl _) (heap_alloc_new _ _)) (by rfl) (unhide HS1 _ (SA.two (by assumption))) (by simp <;> omega) (SA.two (by assumption)).size ?_
            intro v1 n1 k1 k2
            have k1n : n1.ownsRow X.heap.size 29 2 v1 (L.take k).length (spanC (L.take k)) := by simpa using k1
            refine hK.out _ _ (SA.grown (by assumption) hBX (fun j hj => by simp [Value.ownBlock] at hj; omega) k2) (fun hHeld => ?_)
            clear hK K
            try simp only [Act.put, List.setIfInBounds_toArray, List.set_cons_zero, List.set_cons_succ]
            refine wpAnyH_ready (rs := [16]) (by kernel_rfl) (by simp) ?_
            refine AllReadyH.cons (o := ?bo16_3) ?bh16_3 (fun K hK => ?bs16_3) ?bm16_3
            case bh16_3 => (simp only [List.getElem?_toArray, List.getElem?_cons_zero, List.getElem?_cons_succ]; rfl)
            case bs16_3 =>
              refine step_appE _ (by rfl) (.tmp 42) (.tmp 49) (by rfl) X.heap.size _ _ (L.take k) (L.drop (k + 1)) (by rfl) k1n (by rfl) (unhide HS3 _ (SA.two (by assumption))) (by simp <;> omega) (SA.two (by assumption)).size ?_
              intro v3 n3 i1 i2
              refine hK.out _ _ (SA.grown (by assumption) hBX (fun j hj => (k1n.lt j hj).1) i2) (fun hHeld => ?_)
              clear hK K
              try simp only [Act.put, List.setIfInBounds_toArray, List.set_cons_zero, List.set_cons_succ]
              refine wpAnyH_done (by kernel_rfl) ?_ _
              show wpList _ _ _ _ _ _
              have e0 := hHeld.1
              have g3 := (frozen_below (a := ⟨B, 1, none⟩) hHeld.2 hBX).trans gx
              have HN6 := hide hHeld.2
              have HI6 := hide i1
              obtain ⟨a6, c6, rfl⟩ := row_slice i1
              clear hHeld k1 k2 k1n i1 i2
              have hq : (L.take k ++ L.drop (k + 1)).length = L.length - 1 := by simp only [List.length_append, List.length_take, List.length_drop]; omega
              rw [hq] at HI6
              rw [hq]
              clear hq
              go_wp2
              refine unhide HK1 _ _ ?_
              go_wp2
              go_ret
              exact unhide HEND n3 a6 c6 (unhide HN6) (unhide HI6)
            exact AllReadyH.nil
          exact AllReadyH.nil
        exact AllReadyH.nil
    have HTB := hide TB
    clear TB
    rcases unhide HWI with ⟨hnil, hn⟩ | ⟨ci', hsome, hci, hbW, hcell⟩
    · have : L = [] := by simpa using hn
      rw [this] at hlt
      simp at hlt
    · obtain ⟨rfl, rfl⟩ : ai = some ⟨bi, 0, none⟩ ∧ ci = ci' := by simpa using hsome
      rw [List.length_map] at hci
      have hlm : (L.map (·.id)).length = L.length := List.length_map _
      have HS1 : Hid (∀ x, Below W.heap.size W x → SrcI x (.slice (some ⟨bi, 0, none⟩) k ci) ((L.map (·.id)).take k)) := fun x hb => src_take hcell hbW (by rw [hlm]; omega) hb
      have HS3 : Hid (∀ x, Below W.heap.size W x → SrcI x (.slice (if ci = k + 1 then some ⟨bi, 0, none⟩ else some ⟨bi, k + 1, none⟩) (L.length - (k + 1)) (ci - (k + 1))) ((L.map (·.id)).drop (k + 1))) := fun x hb => src_drop hlm hcell hbW (by omega) hci hb
      have hk2 : (k : Int) + 1 ≤ (ci : Int) := by omega
      have hk6 : (k : Int) ≤ (ci : Int) := by omega
      have hk3 : (L.length : Int) ≤ (ci : Int) := by omega
      have S0 : Hid (SA B 0 (.slice (some ⟨bi, 0, none⟩) L.length ci) W W.drew) := ⟨d0, below_drew W⟩
      clear hcell hsome HWI
      refine wp_region_tail (fun x => x.cell? ⟨B, 0, none⟩ = some (.slice (some ⟨bi, 0, none⟩) L.length ci) ∧ Below W.heap.size W x) 17 (by kernel_rfl) (by kernel_rfl) (unhide S0) (fun hHeld => ?_)
      refine wpAnyH_take (i := 0) (oi := ?to0_2) (v := ?tv0_2) ?th0_2 (by kernel_rfl) (by kernel_rfl) (by kernel_rfl) ?tq0_2 (Or.inl ⟨?tw0_2, ?ty0_2⟩) (by assumption) ?tr0_2
      case th0_2 => (simp only [List.getElem?_toArray, List.getElem?_cons_zero]; rfl)
      case tq0_2 => exact fun _ _ _ h => h
      case tw0_2 => rfl
      case ty0_2 => (intro w' hSw; (try dsimp only at hSw); go_simp <;> with_reducible rfl)
      try simp only [Act.put, List.setIfInBounds_toArray, List.set_cons_zero, List.set_cons_succ]
      refine wpAnyH_take (i := 2) (oi := ?to2_2) (v := ?tv2_2) ?th2_2 (by kernel_rfl) (by kernel_rfl) (by kernel_rfl) ?tq2_2 (Or.inl ⟨?tw2_2, ?ty2_2⟩) (by assumption) ?tr2_2
      case th2_2 => (simp only [List.getElem?_toArray, List.getElem?_cons_zero, List.getElem?_cons_succ]; rfl)
      case tq2_2 => exact fun _ _ _ h => h
      case tw2_2 => rfl
      case ty2_2 => (intro w' hSw; (try dsimp only at hSw); go_simp <;> with_reducible rfl)
      try simp only [Act.put, List.setIfInBounds_toArray, List.set_cons_zero, List.set_cons_succ]
      refine wpAnyH_take (i := 3) (oi := ?to3_2) (v := ?tv3_2) ?th3_2 (by kernel_rfl) (by kernel_rfl) (by kernel_rfl) ?tq3_2 (Or.inl ⟨?tw3_2, ?ty3_2⟩) (by assumption) ?tr3_2
      case th3_2 => (simp only [List.getElem?_toArray, List.getElem?_cons_zero, List.getElem?_cons_succ]; rfl)
      case tq3_2 => exact fun _ _ _ h => h
      case tw3_2 => rfl
      case ty3_2 => (intro w' hSw; (try dsimp only at hSw); go_simp <;> with_reducible rfl)
      try simp only [Act.put, List.setIfInBounds_toArray, List.set_cons_zero, List.set_cons_succ]
      refine wpAnyH_take (i := 4) (oi := ?to4_2) (v := ?tv4_2) ?th4_2 (by kernel_rfl) (by kernel_rfl) (by kernel_rfl) ?tq4_2 (Or.inl ⟨?tw4_2, ?ty4_2⟩) (by assumption) ?tr4_2
      case th4_2 => (simp only [List.getElem?_toArray, List.getElem?_cons_zero, List.getElem?_cons_succ]; rfl)
      case tq4_2 => exact fun _ _ _ h => h
      case tw4_2 => rfl
      case ty4_2 => (intro w' hSw; (try dsimp only at hSw); go_simp <;> with_reducible rfl)
      try simp only [Act.put, List.setIfInBounds_toArray, List.set_cons_zero, List.set_cons_succ]
      refine wpAnyH_take (i := 5) (oi := ?to5_2) (v := ?tv5_2) ?th5_2 (by kernel_rfl) (by kernel_rfl) (by kernel_rfl) ?tq5_2 (Or.inl ⟨?tw5_2, ?ty5_2⟩) (by assumption) ?tr5_2
      case th5_2 => (simp only [List.getElem?_toArray, List.getElem?_cons_zero, List.getElem?_cons_succ]; rfl)
      case tq5_2 => exact fun _ _ _ h => h
      case tw5_2 => rfl
      case ty5_2 => (intro w' hSw; (try dsimp only at hSw); go_simp <;> with_reducible rfl)
      try simp only [Act.put, List.setIfInBounds_toArray, List.set_cons_zero, List.set_cons_succ]
      refine wpAnyH_take (i := 6) (oi := ?to6_2) (v := ?tv6_2) ?th6_2 (by kernel_rfl) (by kernel_rfl) (by kernel_rfl) ?tq6_2 (Or.inl ⟨?tw6_2, ?ty6_2⟩) (by assumption) ?tr6_2
      case th6_2 => (simp only [List.getElem?_toArray, List.getElem?_cons_zero, List.getElem?_cons_succ]; rfl)
      case tq6_2 => exact fun _ _ _ h => h
      case tw6_2 => rfl
      case ty6_2 => (intro w' hSw; (try dsimp only at hSw); go_simp <;> with_reducible rfl)
      try simp only [Act.put, List.setIfInBounds_toArray, List.set_cons_zero, List.set_cons_succ]
      refine wpAnyH_take (i := 7) (oi := ?to7_2) (v := ?tv7_2) ?th7_2 (by kernel_rfl) (by kernel_rfl) (by kernel_rfl) ?tq7_2 (Or.inl ⟨?tw7_2, ?ty7_2⟩) (by assumption) ?tr7_2
      case th7_2 => (simp only [List.getElem?_toArray, List.getElem?_cons_zero, List.getElem?_cons_succ]; rfl)
      case tq7_2 => exact fun _ _ _ h => h
      case tw7_2 => rfl
      case ty7_2 => (intro w' hSw; (try dsimp only at hSw); go_simp <;> with_reducible rfl)
      try simp only [Act.put, List.setIfInBounds_toArray, List.set_cons_zero, List.set_cons_succ]
      refine wpAnyH_take (i := 9) (oi := ?to9_2) (v := ?tv9_2) ?th9_2 (by kernel_rfl) (by kernel_rfl) (by kernel_rfl) ?tq9_2 (Or.inl ⟨?tw9_2, ?ty9_2⟩) (by assumption) ?tr9_2
      case th9_2 => (simp only [List.getElem?_toArray, List.getElem?_cons_zero, List.getElem?_cons_succ]; rfl)
      case tq9_2 => exact fun _ _ _ h => h
      case tw9_2 => rfl
      case ty9_2 => (intro w' hSw; (try dsimp only at hSw); go_simp <;> with_reducible rfl)
      try simp only [Act.put, List.setIfInBounds_toArray, List.set_cons_zero, List.set_cons_succ]
      refine wpAnyH_take (i := 10) (oi := ?to10_2) (v := ?tv10_2) ?th10_2 (by kernel_rfl) (by kernel_rfl) (by kernel_rfl) ?tq10_2 (Or.inl ⟨?tw10_2, ?ty10_2⟩) (by assumption) ?tr10_2
      case th10_2 => (simp only [List.getElem?_toArray, List.getElem?_cons_zero, List.getElem?_cons_succ]; rfl)
      case tq10_2 => exact fun _ _ _ h => h
      case tw10_2 => rfl
      case ty10_2 => (intro w' hSw; (try dsimp only at hSw); go_simp <;> with_reducible rfl)
      try simp only [Act.put, List.setIfInBounds_toArray, List.set_cons_zero, List.set_cons_succ]
      refine wpAnyH_take (i := 11) (oi := ?to11_2) (v := ?tv11_2) ?th11_2 (by kernel_rfl) (by kernel_rfl) (by kernel_rfl) ?tq11_2 (Or.inl ⟨?tw11_2, ?ty11_2⟩) (by assumption) ?tr11_2
      case th11_2 => (simp only [List.getElem?_toArray, List.getElem?_cons_zero, List.getElem?_cons_succ]; rfl)
      case tq11_2 => exact fun _ _ _ h => h
      case tw11_2 => rfl
      case ty11_2 => (intro w' hSw; (try dsimp only at hSw); go_simp <;> with_reducible rfl)
      try simp only [Act.put, List.setIfInBounds_toArray, List.set_cons_zero, List.set_cons_succ]
      refine wpAnyH_take (i := 12) (oi := ?to12_2) (v := ?tv12_2) ?th12_2 (by kernel_rfl) (by kernel_rfl) (by kernel_rfl) ?tq12_2 (Or.inl ⟨?tw12_2, ?ty12_2⟩) (by assumption) ?tr12_2
      case th12_2 => (simp only [List.getElem?_toArray, List.getElem?_cons_zero, List.getElem?_cons_succ]; rfl)
      case tq12_2 => exact fun _ _ _ h => h
      case tw12_2 => rfl
      case ty12_2 => (intro w' hSw; (try dsimp only at hSw); go_simp <;> with_reducible rfl)
      try simp only [Act.put, List.setIfInBounds_toArray, List.set_cons_zero, List.set_cons_succ]
      refine wpAnyH_take (i := 13) (oi := ?to13_2) (v := ?tv13_2) ?th13_2 (by kernel_rfl) (by kernel_rfl) (by kernel_rfl) ?tq13_2 (Or.inl ⟨?tw13_2, ?ty13_2⟩) (by assumption) ?tr13_2
      case th13_2 => (simp only [List.getElem?_toArray, List.getElem?_cons_zero, List.getElem?_cons_succ]; rfl)
      case tq13_2 => exact fun _ _ _ h => h
      case tw13_2 => rfl
      case ty13_2 => (intro w' hSw; (try dsimp only at hSw); go_simp <;> with_reducible rfl)
      try simp only [Act.put, List.setIfInBounds_toArray, List.set_cons_zero, List.set_cons_succ]
      refine wpAnyH_take (i := 14) (oi := ?to14_2) (v := ?tv14_2) ?th14_2 (by kernel_rfl) (by kernel_rfl) (by kernel_rfl) ?tq14_2 (Or.inl ⟨?tw14_2, ?ty14_2⟩) (by assumption) ?tr14_2
      case th14_2 => (simp only [List.getElem?_toArray, List.getElem?_cons_zero, List.getElem?_cons_succ]; rfl)
      case tq14_2 => exact fun _ _ _ h => h
      case tw14_2 => rfl
      case ty14_2 => (intro w' hSw; (try dsimp only at hSw); go_simp <;> with_reducible rfl)
      try simp only [Act.put, List.setIfInBounds_toArray, List.set_cons_zero, List.set_cons_succ]
      refine wpAnyH_take (i := 15) (oi := ?to15_2) (v := ?tv15_2) ?th15_2 (by kernel_rfl) (by kernel_rfl) (by kernel_rfl) ?tq15_2 (Or.inl ⟨?tw15_2, ?ty15_2⟩) (by assumption) ?tr15_2
      case th15_2 => (simp only [List.getElem?_toArray, List.getElem?_cons_zero, List.getElem?_cons_succ]; rfl)
      case tq15_2 => exact fun _ _ _ h => h
      case tw15_2 => rfl
      case ty15_2 => (intro w' hSw; (try dsimp only at hSw); go_simp <;> with_reducible rfl)
      try simp only [Act.put, List.setIfInBounds_toArray, List.set_cons_zero, List.set_cons_succ]
      generalize (Value.slice (if ci = k + 1 then (some ⟨bi, 0, none⟩ : Option Addr) else some ⟨bi, k + 1, none⟩) (L.length - (k + 1)) (ci - (k + 1))) = dv at HS3 ⊢
      refine wpAnyH_ready (rs := [1]) (by kernel_rfl) (by simp) ?_
      refine AllReadyH.cons (o := ?bo1_4) ?bh1_4 (fun K hK => ?bs1_4) ?bm1_4
      case bh1_4 => (simp only [List.getElem?_toArray, List.getElem?_cons_zero, List.getElem?_cons_succ]; rfl)
      case bs1_4 =>
        go_simp
        refine hK.out _ _ (SA.carry (by assumption) (below_box _ _)) (fun hHeld => ?_)
        clear hK K
        try simp only [Act.put, List.setIfInBounds_toArray, List.set_cons_zero, List.set_cons_succ]
        refine wpAnyH_ready (rs := [8]) (by kernel_rfl) (by simp) ?_
        refine AllReadyH.cons (o := ?bo8_5) ?bh8_5 (fun K hK => ?bs8_5) ?bm8_5
        case bh8_5 => (simp only [List.getElem?_toArray, List.getElem?_cons_zero, List.getElem?_cons_succ]; rfl)
        case bs8_5 =>
          refine step_appI _ (by rfl) (.tmp 16) (.tmp 22) (by rfl) W.heap.size _ _ [] ((L.map (·.id)).take k) (by rfl) (own_nil _ _ _ _ _ (Nat.le_refl _) (heap_alloc_new _ _)) (by rfl) (unhide HS1 _ (SA.two (by assumption))) (by simp <;> omega) (SA.two (by assumption)).size ?_
          intro v1 n1 k1 k2
          have k1n : n1.ownsRow W.heap.size 3 1 v1 ((L.map (·.id)).take k).length (((L.map (·.id)).take k).map (Value.int .i64)) := by simpa using k1
          refine hK.out _ _ (SA.grown (by assumption) hBW (fun j hj => by simp [Value.ownBlock] at hj; omega) k2) (fun hHeld => ?_)
          clear hK K
          try simp only [Act.put, List.setIfInBounds_toArray, List.set_cons_zero, List.set_cons_succ]
          refine wpAnyH_ready (rs := [16]) (by kernel_rfl) (by simp) ?_
          refine AllReadyH.cons (o := ?bo16_6) ?bh16_6 (fun K hK => ?bs16_6) ?bm16_6
          case bh16_6 => (simp only [List.getElem?_toArray, List.getElem?_cons_zero, List.getElem?_cons_succ]; rfl)
          case bs16_6 =>
            refine step_appI _ (by rfl) (.tmp 23) (.tmp 30) (by rfl) W.heap.size _ _ ((L.map (·.id)).take k) ((L.map (·.id)).drop (k + 1)) (by rfl) k1n (by rfl) (unhide HS3 _ (SA.two (by assumption))) (by simp <;> omega) (SA.two (by assumption)).size ?_
            intro v3 n3 i1 i2
            refine hK.out _ _ (SA.grown (by assumption) hBW (fun j hj => (k1n.lt j hj).1) i2) (fun hHeld => ?_)
            clear hK K
            try simp only [Act.put, List.setIfInBounds_toArray, List.set_cons_zero, List.set_cons_succ]
            refine wpAnyH_done (by kernel_rfl) ?_ _
            show wpList _ _ _ _ _ _
            have e0 := hHeld.1
            have g3 := (frozen_below (a := ⟨B, 0, none⟩) hHeld.2 hBW).trans g0
            have HN3 := hide hHeld.2
            have HI3 := hide i1
            obtain ⟨a3, c3, rfl⟩ := row_slice i1
            clear hHeld k1 k2 k1n i1 i2
            have hq : ((L.map (·.id)).take k ++ (L.map (·.id)).drop (k + 1)).length = L.length - 1 := by simp only [List.length_append, List.length_take, List.length_drop, List.length_map]; omega
            rw [hq] at HI3
            rw [hq]
            clear hq
            go_wp2
            exact unhide HTB _ _ _ _ _ _ _ _ _ _ _ _ _ _ _ _ _ _ _ _ _ _ _ _ _ _ _ _ _ _ _ _ _ _ _ _ _ _ _ _ _ _ _ _ _ _ _ _ _ n3 a3 c3 (unhide HN3) (unhide HI3)
          exact AllReadyH.nil
        exact AllReadyH.nil
      exact AllReadyH.nil
  · have h3' : foundT L id = false := by simpa using h3
    have E : Hid (dropErr L id = 7 ∧ dropTo L id = L) := ⟨by unfold dropErr; rw [if_neg h3], by unfold dropTo; rw [if_neg h3]⟩
    rw [h3'] at HF
    clear h3 h3'
    have HH := hide h
    clear h
    go_enter Tryd.func43, Tryd.ntmps43
    go_wp2_with fail
    refine (unhide HF).mono ?_
    rintro e W ⟨rfl, b3⟩
    have BW := hide b3
    clear b3 HF
    go_wp2
    go_ret
    exact ⟨by rw [(unhide E).1]; rfl, ⟨bi, bs, by rw [(unhide E).2]; exact (unhide HH).carry (unhide BW), .inl rfl, .inl rfl⟩, grown_below _ (unhide BW) (Nat.le_refl _)⟩

end Go.Proofs.YtfcmkaiocnelgaaDoor
