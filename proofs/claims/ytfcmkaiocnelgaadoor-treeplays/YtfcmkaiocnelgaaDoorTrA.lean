/- The document's tree: a span comes: walked. -/
import Derived.Test.YtfcmkaiocnelgaaDoorTrB
import Derived.RangeFuncBox
namespace Go.Proofs.YtfcmkaiocnelgaaDoor
open Go.RowKit

theorem grown_below {n : Nat} {w x : World} (row : Option Nat) (h : Below n w x) (hn : w.heap.size ≤ n) : w.grownBy x row := ⟨h.os, h.tape, h.output, h.size, fun k hk _ => h.block k (by omega)⟩
theorem grown_trans {w x y : World} {row : Option Nat} (h1 : w.grownBy x row) (h2 : x.grownBy y row) : w.grownBy y row :=
  ⟨h2.os.trans h1.os, h2.tape.trans h1.tape, h2.output.trans h1.output, Nat.le_trans h1.size h2.size, fun k hk hr => (h2.block k (Nat.lt_of_lt_of_le hk h1.size) hr).trans (h1.block k hk hr)⟩
theorem grown_set (w : World) (B f : Nat) (v : Value) : w.grownBy (w.setCell ⟨B, f, none⟩ v) (some B) := by
  have h := World.keptBut_setCell w ⟨B, f, none⟩ v (may := fun p => p.block = B) rfl
  refine ⟨rfl, rfl, rfl, ?_, fun k hk hr => ?_⟩
  · simp
  · exact h.block hk (fun p hp e => hr (by rw [← e, hp]))

theorem RowS.set {n : World} {v : Value} {b : Nat} {l : List Ent} (h : RowS n v b l) (B f : Nat) (u : Value) (hb : b ≠ B) : RowS (n.setCell ⟨B, f, none⟩ u) v b l := by
  rcases h with h | ⟨c, h1, h2, h3, h4⟩
  · exact .inl h
  · exact .inr ⟨c, h1, h2, by simpa using h3, fun j hj => ⟨(World.cell?_setCell_far _ _ _ _ (fun e => hb e.symm)).trans (h4 j hj).1, (World.cell?_setCell_far _ _ _ _ (fun e => hb e.symm)).trans (h4 j hj).2⟩⟩

theorem RowI.set {n : World} {v : Value} {b : Nat} {l : List Int} (h : RowI n v b l) (B f : Nat) (u : Value) (hb : b ≠ B) : RowI (n.setCell ⟨B, f, none⟩ u) v b l := by
  rcases h with h | ⟨c, h1, h2, h3, h4⟩
  · exact .inl h
  · exact .inr ⟨c, h1, h2, by simpa using h3, fun j hj => (World.cell?_setCell_far _ _ _ _ (fun e => hb e.symm)).trans (h4 j hj)⟩

/-- What holds while the spans' new row is made. -/
def SB (B : Nat) (v : Value) (bx : Nat) (lo hi : Int) (W x : World) : Prop := x.cell? ⟨B, 1, none⟩ = some v ∧ Below W.heap.size W x ∧ x.cell? ⟨bx, 0, none⟩ = some (.int .i64 lo) ∧ x.cell? ⟨bx, 1, none⟩ = some (.int .i64 hi)

theorem SB.carry {B bx : Nat} {v : Value} {lo hi : Int} {W x y : World} (h : SB B v bx lo hi W x) (hb : Below x.heap.size x y) : SB B v bx lo hi W y := by
  obtain ⟨h1, h2, h3, h4⟩ := h
  have t : ∀ {z : Addr} {u : Value}, x.cell? z = some u → y.cell? z = some u := fun {z u} e => (hb.cell (p := z) (lt_of_cell e)).trans e
  exact ⟨t h1, h2.trans (hb.mono h2.size), t h3, t h4⟩

theorem SB.grown {B bx : Nat} {v : Value} {lo hi : Int} {row : Option Nat} {W x y : World} (h : SB B v bx lo hi W x) (hB : B < W.heap.size ∧ bx < W.heap.size) (hW : ∀ j, row = some j → W.heap.size ≤ j) (hg : x.grownBy y row) : SB B v bx lo hi W y := by
  obtain ⟨h1, h2, h3, h4⟩ := h
  have t : ∀ {z : Addr} {u : Value}, z.block < W.heap.size → x.cell? z = some u → y.cell? z = some u := fun {z u} hz e => (hg.cell_far z (lt_of_cell e) (fun e => by have h1 := hW _ e.symm; omega)).trans e
  exact ⟨t hB.1 h1, h2.grown hg h2.size hW, t hB.2 h3, t hB.2 h4⟩

theorem SB.two {B bx : Nat} {v : Value} {lo hi : Int} {W x : World} (h : SB B v bx lo hi W x) : Below W.heap.size W x := h.2.1

/-- What Add does to the document's tree. -/
def AddSays (L : List Ent) (B bi bs : Nat) (x : Ent) (w : World) (e : Ending) (w' : World) : Prop :=
  e = .returned (.int .i64 (addErr L x)) ∧ (∃ bi' bs', RefTree w' B bi' bs' (addTo L x) ∧ (bi' = bi ∨ w.heap.size ≤ bi') ∧ (bs' = bs ∨ w.heap.size ≤ bs')) ∧ w.grownBy w' (some B)

theorem add_err {L : List Ent} {B bi bs : Nat} {x : Ent} {w w' : World} {n : Int} (h : addErr L x = n) (hn : n ≠ 0) (hR : RefTree w' B bi bs L) (hb : Below w.heap.size w w') : AddSays L B bi bs x w (.returned (.int .i64 n)) w' := by
  have e : addTo L x = L := by unfold addTo; rw [if_neg (by rw [h]; exact hn)]
  exact ⟨by rw [h], ⟨bi, bs, by rw [e]; exact hR, .inl rfl, .inl rfl⟩, grown_below _ hb (Nat.le_refl _)⟩

set_option maxRecDepth 100000 in
set_option maxHeartbeats 4000000 in
theorem ref_Add (L : List Ent) (B bi bs : Nat) (id lo hi : Int) (w : World) (hr : Rising L) (hl : L.length ≤ 100000) (h : RefTree w B bi bs L) (hbs : bs ≠ B) :
    Calls Tryd.prog 39 #[.pointer (some ⟨B, 0, none⟩), .int .i64 id, .agg #[.int .i64 lo, .int .i64 hi]] w (AddSays L B bi bs ⟨id, lo, hi⟩ w) := by
  have hB0 := below_box w (.cells #[.int .i64 lo, .int .i64 hi] 29)
  have HI := hide (fun W => ref_in id 0 1048576 W)
  have HR := hide (fun W => ref_Right lo hi W)
  have HF := hide (fun W (hW : Below w.heap.size w W) => ref_find L B bi bs id W hr hl (h.carry hW))
  have HH := hide (fun W (hW : Below w.heap.size w W) => h.carry hW)
  have HE : Hid (addErr L ⟨id, lo, hi⟩ = if 0 ≤ id ∧ id ≤ 1048576 then (if rightB lo hi = true then (if foundT L id = true then 9 else if 4000 ≤ L.length then 12 else 0) else 1) else 2) := rfl
  by_cases h1 : inB id 0 1048576 = true
  · have h1' : 0 ≤ id ∧ id ≤ 1048576 := by simpa [inB] using h1
    rw [h1] at HI
    by_cases h2 : rightB lo hi = true
    · rw [h2] at HR
      by_cases h3 : foundT L id = true
      · have e0 : Hid (addErr L ⟨id, lo, hi⟩ = 9) := by unfold Hid; rw [unhide HE, if_pos h1', if_pos h2, if_pos h3]
        rw [h3] at HF
        clear HE h1 h2 h3 h
        go_enter Tryd.func39, Tryd.ntmps39
        go_wp2_with (first | (go_at_call 51; refine (unhide HI _).mono ?_; rintro e w1 ⟨rfl, rfl⟩) | (go_at_call 8; refine (unhide HR _).mono ?_; rintro e w2 ⟨rfl, rfl⟩))
        have B2 : Hid (Below w.heap.size w ((w.alloc (.cells #[.int .i64 lo, .int .i64 hi] 29)).alloc (.cells #[.int .i64 lo, .int .i64 hi] 29))) := hB0.trans ((below_box _ _).mono (by simp))
        refine (unhide HF _ (unhide B2)).mono ?_
        rintro e W ⟨rfl, b3⟩
        have BW := hide ((unhide B2).trans (b3.mono (unhide B2).size))
        clear b3 B2 HF HI HR hB0
        go_wp2
        go_ret
        exact add_err (unhide e0) (by decide) (unhide HH _ (unhide BW)) (unhide BW)
      · have h3' : foundT L id = false := by simpa using h3
        rw [h3'] at HF
        by_cases h4 : 4000 ≤ L.length
        · have e0 : Hid (addErr L ⟨id, lo, hi⟩ = 12) := by unfold Hid; rw [unhide HE, if_pos h1', if_pos h2, if_neg h3, if_pos h4]
          have h4' : 4000 ≤ (L.length : Int) := by omega
          obtain ⟨vi, vs, c0, _, _, _, hi', _⟩ := h
          obtain ⟨ai, ci, rfl, _⟩ := hi'.form
          rw [List.length_map] at c0
          clear HE h1 h2 h3 h4 hi'
          go_enter Tryd.func39, Tryd.ntmps39
          go_wp2_with (first | (go_at_call 51; refine (unhide HI _).mono ?_; rintro e w1 ⟨rfl, rfl⟩) | (go_at_call 8; refine (unhide HR _).mono ?_; rintro e w2 ⟨rfl, rfl⟩))
          have B2 : Hid (Below w.heap.size w ((w.alloc (.cells #[.int .i64 lo, .int .i64 hi] 29)).alloc (.cells #[.int .i64 lo, .int .i64 hi] 29))) := hB0.trans ((below_box _ _).mono (by simp))
          refine (unhide HF _ (unhide B2)).mono ?_
          rintro e W ⟨rfl, b3⟩
          have BW := hide ((unhide B2).trans (b3.mono (unhide B2).size))
          have d0 := ((unhide BW).cell (p := ⟨B, 0, none⟩) (lt_of_cell c0)).trans c0
          clear b3 B2 HF HI HR hB0 c0
          go_wp2
          go_ret
          exact add_err (unhide e0) (by decide) (unhide HH _ (unhide BW)) (unhide BW)
        · have h4' : ¬ 4000 ≤ (L.length : Int) := by omega
          have E : Hid (addErr L ⟨id, lo, hi⟩ = 0 ∧ addTo L ⟨id, lo, hi⟩ = L.take (posT L id) ++ [Ent.mk id lo hi] ++ L.drop (posT L id)) := by
            have e0 : addErr L ⟨id, lo, hi⟩ = 0 := by rw [unhide HE, if_pos h1', if_pos h2, if_neg h3, if_neg h4]
            exact ⟨e0, by unfold addTo; rw [if_pos e0]; simp [addT]⟩
          obtain ⟨vi, vs, c0, c1, f0, f1, hi', hs'⟩ := h
          have HRI := hide hi'
          have HRS := hide hs'
          obtain ⟨ai, ci, rfl, _⟩ := hi'.form
          obtain ⟨az, cz, rfl, _⟩ := hs'.form
          rw [List.length_map] at c0 HRI
          have hk := posT_le L id
          have hk0 : (0 : Int) ≤ (posT L id : Int) := by omega
          have hk1 : (posT L id : Int) ≤ (L.length : Int) := by omega
          clear h1 h2 h3 h3' h4 HE HH hi' hs'
          go_enter Tryd.func39, Tryd.ntmps39
          go_wp2_with (first | (go_at_call 51; refine (unhide HI _).mono ?_; rintro e w1 ⟨rfl, rfl⟩) | (go_at_call 8; refine (unhide HR _).mono ?_; rintro e w2 ⟨rfl, rfl⟩))
          have B2 : Hid (Below w.heap.size w ((w.alloc (.cells #[.int .i64 lo, .int .i64 hi] 29)).alloc (.cells #[.int .i64 lo, .int .i64 hi] 29))) := hB0.trans ((below_box _ _).mono (by simp))
          refine (unhide HF _ (unhide B2)).mono ?_
          rintro e W ⟨rfl, b3⟩
          have BW := hide ((unhide B2).trans (b3.mono (unhide B2).size))
          have hBl := lt_of_cell c0
          have hBW : B < W.heap.size := Nat.lt_of_lt_of_le hBl (unhide BW).size
          have d0 := ((unhide BW).cell (p := ⟨B, 0, none⟩) hBl).trans c0
          have d1 := ((unhide BW).cell (p := ⟨B, 1, none⟩) hBl).trans c1
          have g0 := (frozen_below (a := ⟨B, 0, none⟩) (unhide BW) hBl).trans f0
          have g1 := (frozen_below (a := ⟨B, 1, none⟩) (unhide BW) hBl).trans f1
          have HBX : Hid (W.cell? ⟨w.heap.size, 0, none⟩ = some (.int .i64 lo) ∧ W.cell? ⟨w.heap.size, 1, none⟩ = some (.int .i64 hi) ∧ w.heap.size < W.heap.size) := by
            refine ⟨(b3.cell (p := ⟨w.heap.size, 0, none⟩) (by simp; omega)).trans ?_, (b3.cell (p := ⟨w.heap.size, 1, none⟩) (by simp; omega)).trans ?_, ?_⟩
            · rw [World.cell?_alloc_lt _ _ _ (by simp)]; simp
            · rw [World.cell?_alloc_lt _ _ _ (by simp)]; simp
            · have := b3.size; simp at this; omega
          have HWI := hide ((unhide HRI).carry (unhide BW))
          have HWS := hide ((unhide HRS).carry (unhide BW))
          generalize posT L id = k at *
          clear HF HI HR hB0 b3 B2 HRI HRS c0 c1 f0 f1
          have HD1 := hide (And.intro d1 g1)
          clear d1 g1
          go_wp2
          rename_i K0 hK0
          have HK0 := hide hK0
          clear hK0
          have TB : ∀ (y2 y3 y4 y8 y9 y10 y11 y12 y13 y14 y15 y16 y17 y18 y19 y20 y21 y22 y23 y24 y25 y26 y27 y28 y29 y30 y31 y32 y33 y34 y35 y36 y37 y38 y39 y40 y41 y42 y43 y44 y45 y46 y47 y48 y49 y50 y51 y52 y53 y54 y55 y56 y57 y58 y59 y60 y61 y62 y63 y64 y65 y66 y67 y68 y69 : Value) (n3 : World) (q3 cq3 : Nat), Below W.heap.size W n3 → n3.ownsRow W.heap.size 3 1 (.slice (some ⟨q3, 0, none⟩) (L.length + 1) cq3) ((L.map (·.id)).take k ++ [id] ++ (L.map (·.id)).drop k).length (((L.map (·.id)).take k ++ [id] ++ (L.map (·.id)).drop k).map (Value.int .i64)) → W.heap.size ≤ q3 →
              K0 { tmps := #[.pointer (some ⟨B, 0, none⟩), .int .i64 id, y2, y3, y4, .pointer (some ⟨w.heap.size, 0, none⟩), .int .i64 0, .int .i64 k, y8, y9, y10, y11, y12, y13, y14, y15, y16, y17, y18, y19, y20, y21, y22, y23, y24, y25, y26, y27, y28, y29, y30, y31, y32, y33, y34, y35, y36, y37, y38, y39, y40, y41, y42, y43, y44, y45, y46, y47, y48, y49, y50, y51, y52, y53, y54, y55, y56, y57, y58, y59, y60, y61, y62, y63, y64, y65, y66, y67, y68, y69], defers := [] } (n3.setCell ⟨B, 0, none⟩ (.slice (some ⟨q3, 0, none⟩) (L.length + 1) cq3)) := by
            intro y2 y3 y4 y8 y9 y10 y11 y12 y13 y14 y15 y16 y17 y18 y19 y20 y21 y22 y23 y24 y25 y26 y27 y28 y29 y30 y31 y32 y33 y34 y35 y36 y37 y38 y39 y40 y41 y42 y43 y44 y45 y46 y47 y48 y49 y50 y51 y52 y53 y54 y55 y56 y57 y58 y59 y60 y61 y62 y63 y64 y65 y66 y67 y68 y69 n3 q3 cq3 hN3 hI3 hq3
            refine unhide HK0 _ _ ?_
            clear HK0
            have hwW := (unhide HBX).2.2
            have hBw : w.heap.size ≠ B := by omega
            have hq3B : q3 ≠ B := by omega
            have x1 : (n3.setCell ⟨B, 0, none⟩ (.slice (some ⟨q3, 0, none⟩) (L.length + 1) cq3)).cell? ⟨B, 1, none⟩ = some (.slice az L.length cz) := by
              rw [World.cell?_setCell_other _ _ _ _ (by simp)]
              exact (hN3.cell (p := ⟨B, 1, none⟩) hBW).trans (unhide HD1).1
            have x0 : (n3.setCell ⟨B, 0, none⟩ (.slice (some ⟨q3, 0, none⟩) (L.length + 1) cq3)).cell? ⟨B, 0, none⟩ = some (.slice (some ⟨q3, 0, none⟩) (L.length + 1) cq3) :=
              World.cell?_setCell_same _ _ _ ((hN3.cell (p := ⟨B, 0, none⟩) hBW).trans d0)
            have gx : (n3.setCell ⟨B, 0, none⟩ (.slice (some ⟨q3, 0, none⟩) (L.length + 1) cq3)).frozen? ⟨B, 1, none⟩ = false := by
              rw [World.frozen?_setCell]
              exact (frozen_below (a := ⟨B, 1, none⟩) hN3 hBW).trans (unhide HD1).2
            have gx0 : (n3.setCell ⟨B, 0, none⟩ (.slice (some ⟨q3, 0, none⟩) (L.length + 1) cq3)).frozen? ⟨B, 0, none⟩ = false := by
              rw [World.frozen?_setCell]
              exact (frozen_below (a := ⟨B, 0, none⟩) hN3 hBW).trans g0
            have bx0 : (n3.setCell ⟨B, 0, none⟩ (.slice (some ⟨q3, 0, none⟩) (L.length + 1) cq3)).cell? ⟨w.heap.size, 0, none⟩ = some (.int .i64 lo) := by
              rw [World.cell?_setCell_far _ _ _ _ (by simp; omega)]
              exact (hN3.cell (p := ⟨w.heap.size, 0, none⟩) hwW).trans (unhide HBX).1
            have bx1 : (n3.setCell ⟨B, 0, none⟩ (.slice (some ⟨q3, 0, none⟩) (L.length + 1) cq3)).cell? ⟨w.heap.size, 1, none⟩ = some (.int .i64 hi) := by
              rw [World.cell?_setCell_far _ _ _ _ (by simp; omega)]
              exact (hN3.cell (p := ⟨w.heap.size, 1, none⟩) hwW).trans (unhide HBX).2.1
            have hXS := ((unhide HWS).carry hN3).set B 0 (.slice (some ⟨q3, 0, none⟩) (L.length + 1) cq3) hbs
            have hXI : ∃ g, W.heap.size ≤ g ∧ RowI (n3.setCell ⟨B, 0, none⟩ (.slice (some ⟨q3, 0, none⟩) (L.length + 1) cq3)) (.slice (some ⟨q3, 0, none⟩) (L.length + 1) cq3) g ((L.map (·.id)).take k ++ [id] ++ (L.map (·.id)).drop k) := by
              obtain ⟨g, hg, hR⟩ := own_rowI hI3 (Or.inr (by simp))
              exact ⟨g, hg, hR.set B 0 _ (by omega)⟩
            have hXw : w.grownBy (n3.setCell ⟨B, 0, none⟩ (.slice (some ⟨q3, 0, none⟩) (L.length + 1) cq3)) (some B) := grown_trans (grown_trans (grown_below _ (unhide BW) (Nat.le_refl _)) (grown_below _ hN3 (Nat.le_refl _))) (grown_set _ _ _ _)
            have hXz : W.heap.size ≤ (n3.setCell ⟨B, 0, none⟩ (.slice (some ⟨q3, 0, none⟩) (L.length + 1) cq3)).heap.size := by simpa using hN3.size
            generalize n3.setCell ⟨B, 0, none⟩ (.slice (some ⟨q3, 0, none⟩) (L.length + 1) cq3) = X at *
            clear hN3 hI3
            have hBX : B < X.heap.size ∧ w.heap.size < X.heap.size := ⟨by omega, by omega⟩
            have HEND : Hid (∀ (n6 : World) (q6 cq6 : Nat), Below X.heap.size X n6 → n6.ownsRow X.heap.size 29 2 (.slice (some ⟨q6, 0, none⟩) (L.length + 1) cq6) (L.take k ++ [Ent.mk id lo hi] ++ L.drop k).length (spanC (L.take k ++ [Ent.mk id lo hi] ++ L.drop k)) → X.heap.size ≤ q6 →
                AddSays L B bi bs ⟨id, lo, hi⟩ w (.returned (.int .i64 0)) (n6.setCell ⟨B, 1, none⟩ (.slice (some ⟨q6, 0, none⟩) (L.length + 1) cq6))) := fun n6 q6 cq6 hN6 hI6 hq6 => by
              obtain ⟨g, hg, hR⟩ := hXI
              obtain ⟨gs, hgs, hS⟩ := own_rowS hI6 (Or.inr (by simp))
              refine ⟨by rw [(unhide E).1], ⟨g, gs, ?_, Or.inr (by omega), Or.inr (by omega)⟩, grown_trans hXw (grown_trans (grown_below _ hN6 (Nat.le_refl _)) (grown_set _ _ _ _))⟩
              rw [(unhide E).2]
              have em : (L.take k ++ [Ent.mk id lo hi] ++ L.drop k).map (·.id) = (L.map (·.id)).take k ++ [id] ++ (L.map (·.id)).drop k := by simp
              refine ⟨.slice (some ⟨q3, 0, none⟩) (L.length + 1) cq3, .slice (some ⟨q6, 0, none⟩) (L.length + 1) cq6, ?_, World.cell?_setCell_same _ _ _ ((hN6.cell (p := ⟨B, 1, none⟩) hBX.1).trans x1), ?_, ?_, ?_, hS.set B 1 _ (by omega)⟩
              · rw [World.cell?_setCell_other _ _ _ _ (by simp)]
                exact (hN6.cell (p := ⟨B, 0, none⟩) hBX.1).trans x0
              · rw [World.frozen?_setCell]
                exact (frozen_below (a := ⟨B, 0, none⟩) hN6 hBX.1).trans gx0
              · rw [World.frozen?_setCell]
                exact (frozen_below (a := ⟨B, 1, none⟩) hN6 hBX.1).trans gx
              · rw [em]
                exact (hR.carry hN6).set B 1 _ (by omega)
            have S0 : Hid (SB B (.slice az L.length cz) w.heap.size lo hi X X.drew) := ⟨x1, below_drew X, bx0, bx1⟩
            have HXS := hide hXS
            clear hXS hXI hXw x0 x1 gx0 bx0 bx1 HBX HWS HD1
            go_wp2
            rename_i K1 hK1
            have HK1 := hide hK1
            clear hK1
            rcases unhide HXS with ⟨hnil, hn⟩ | ⟨cz', hsome, hcz, hbX, hcell⟩
            · obtain ⟨rfl, hL0, rfl⟩ : az = none ∧ L.length = 0 ∧ cz = 0 := by simpa using hnil
              have hkz : k = 0 := by omega
              subst hkz
              have HS1 : Hid (∀ x, Below X.heap.size X x → SrcE x (.slice none 0 0) (L.take 0)) := fun x _ => .inl ⟨rfl, by simp⟩
              have HS3 : Hid (∀ x, Below X.heap.size X x → SrcE x (.slice none 0 0) (L.drop 0)) := fun x _ => .inl ⟨rfl, by simpa using hn⟩
              have S1 : Hid (SB B (.slice none 0 0) w.heap.size lo hi X X.drew) := by have := unhide S0; rw [hL0] at this; exact this
              clear hnil HXS S0 hn hL0
              refine wp_region_tail (fun x => x.cell? ⟨B, 1, none⟩ = some (.slice none 0 0) ∧ Below X.heap.size X x ∧ x.cell? ⟨w.heap.size, 0, none⟩ = some (.int .i64 lo) ∧ x.cell? ⟨w.heap.size, 1, none⟩ = some (.int .i64 hi)) 19 (by kernel_rfl) (by kernel_rfl) (unhide S1) (fun hHeld => ?_)
              refine wpAnyH_take (i := 0) (oi := ?to0_1) (v := ?tv0_1) ?th0_1 (by kernel_rfl) (by kernel_rfl) (by kernel_rfl) ?tq0_1 (Or.inl ⟨?tw0_1, ?ty0_1⟩) (by assumption) ?tr0_1
              case th0_1 => (simp only [List.getElem?_toArray, List.getElem?_cons_zero]; rfl)
              case tq0_1 => exact fun _ _ _ h => h
              case tw0_1 => rfl
              case ty0_1 => (intro w' hSw; (try dsimp only at hSw); go_simp <;> with_reducible rfl)
              try simp only [Act.put, List.setIfInBounds_toArray, List.set_cons_zero, List.set_cons_succ]
              refine wpAnyH_take (i := 2) (oi := ?to2_1) (v := ?tv2_1) ?th2_1 (by kernel_rfl) (by kernel_rfl) (by kernel_rfl) ?tq2_1 (Or.inl ⟨?tw2_1, ?ty2_1⟩) (by assumption) ?tr2_1
              case th2_1 => (simp only [List.getElem?_toArray, List.getElem?_cons_zero, List.getElem?_cons_succ]; rfl)
              case tq2_1 => exact fun _ _ _ h => h
              case tw2_1 => rfl
              case ty2_1 => (intro w' hSw; (try dsimp only at hSw); go_simp <;> with_reducible rfl)
              try simp only [Act.put, List.setIfInBounds_toArray, List.set_cons_zero, List.set_cons_succ]
              refine wpAnyH_take (i := 3) (oi := ?to3_1) (v := ?tv3_1) ?th3_1 (by kernel_rfl) (by kernel_rfl) (by kernel_rfl) ?tq3_1 (Or.inl ⟨?tw3_1, ?ty3_1⟩) (by assumption) ?tr3_1
              case th3_1 => (simp only [List.getElem?_toArray, List.getElem?_cons_zero, List.getElem?_cons_succ]; rfl)
              case tq3_1 => exact fun _ _ _ h => h
              case tw3_1 => rfl
              case ty3_1 => (intro w' hSw; (try dsimp only at hSw); go_simp <;> with_reducible rfl)
              try simp only [Act.put, List.setIfInBounds_toArray, List.set_cons_zero, List.set_cons_succ]
              refine wpAnyH_take (i := 4) (oi := ?to4_1) (v := ?tv4_1) ?th4_1 (by kernel_rfl) (by kernel_rfl) (by kernel_rfl) ?tq4_1 (Or.inl ⟨?tw4_1, ?ty4_1⟩) (by assumption) ?tr4_1
              case th4_1 => (simp only [List.getElem?_toArray, List.getElem?_cons_zero, List.getElem?_cons_succ]; rfl)
              case tq4_1 => exact fun _ _ _ h => h
              case tw4_1 => rfl
              case ty4_1 => (intro w' hSw; (try dsimp only at hSw); go_simp <;> with_reducible rfl)
              try simp only [Act.put, List.setIfInBounds_toArray, List.set_cons_zero, List.set_cons_succ]
              refine wpAnyH_take (i := 5) (oi := ?to5_1) (v := ?tv5_1) ?th5_1 (by kernel_rfl) (by kernel_rfl) (by kernel_rfl) ?tq5_1 (Or.inl ⟨?tw5_1, ?ty5_1⟩) (by assumption) ?tr5_1
              case th5_1 => (simp only [List.getElem?_toArray, List.getElem?_cons_zero, List.getElem?_cons_succ]; rfl)
              case tq5_1 => exact fun _ _ _ h => h
              case tw5_1 => rfl
              case ty5_1 => (intro w' hSw; (try dsimp only at hSw); go_simp <;> with_reducible rfl)
              try simp only [Act.put, List.setIfInBounds_toArray, List.set_cons_zero, List.set_cons_succ]
              refine wpAnyH_take (i := 6) (oi := ?to6_1) (v := ?tv6_1) ?th6_1 (by kernel_rfl) (by kernel_rfl) (by kernel_rfl) ?tq6_1 (Or.inl ⟨?tw6_1, ?ty6_1⟩) (by assumption) ?tr6_1
              case th6_1 => (simp only [List.getElem?_toArray, List.getElem?_cons_zero, List.getElem?_cons_succ]; rfl)
              case tq6_1 => exact fun _ _ _ h => h
              case tw6_1 => rfl
              case ty6_1 => (intro w' hSw; (try dsimp only at hSw); go_simp <;> with_reducible rfl)
              try simp only [Act.put, List.setIfInBounds_toArray, List.set_cons_zero, List.set_cons_succ]
              refine wpAnyH_take (i := 7) (oi := ?to7_1) (v := ?tv7_1) ?th7_1 (by kernel_rfl) (by kernel_rfl) (by kernel_rfl) ?tq7_1 (Or.inl ⟨?tw7_1, ?ty7_1⟩) (by assumption) ?tr7_1
              case th7_1 => (simp only [List.getElem?_toArray, List.getElem?_cons_zero, List.getElem?_cons_succ]; rfl)
              case tq7_1 => exact fun _ _ _ h => h
              case tw7_1 => rfl
              case ty7_1 => (intro w' hSw; (try dsimp only at hSw); go_simp <;> with_reducible rfl)
              try simp only [Act.put, List.setIfInBounds_toArray, List.set_cons_zero, List.set_cons_succ]
              refine wpAnyH_take (i := 9) (oi := ?to9_1) (v := ?tv9_1) ?th9_1 (by kernel_rfl) (by kernel_rfl) (by kernel_rfl) ?tq9_1 (Or.inl ⟨?tw9_1, ?ty9_1⟩) (by assumption) ?tr9_1
              case th9_1 => (simp only [List.getElem?_toArray, List.getElem?_cons_zero, List.getElem?_cons_succ]; rfl)
              case tq9_1 => exact fun _ _ _ h => h
              case tw9_1 => rfl
              case ty9_1 => (intro w' hSw; (try dsimp only at hSw); go_simp <;> with_reducible rfl)
              try simp only [Act.put, List.setIfInBounds_toArray, List.set_cons_zero, List.set_cons_succ]
              refine wpAnyH_take (i := 12) (oi := ?to12_1) (v := ?tv12_1) ?th12_1 (by kernel_rfl) (by kernel_rfl) (by kernel_rfl) ?tq12_1 (Or.inl ⟨?tw12_1, ?ty12_1⟩) (by assumption) ?tr12_1
              case th12_1 => (simp only [List.getElem?_toArray, List.getElem?_cons_zero, List.getElem?_cons_succ]; rfl)
              case tq12_1 => exact fun _ _ _ h => h
              case tw12_1 => rfl
              case ty12_1 => (intro w' hSw; (try dsimp only at hSw); go_simp <;> with_reducible rfl)
              try simp only [Act.put, List.setIfInBounds_toArray, List.set_cons_zero, List.set_cons_succ]
              refine wpAnyH_take (i := 13) (oi := ?to13_1) (v := ?tv13_1) ?th13_1 (by kernel_rfl) (by kernel_rfl) (by kernel_rfl) ?tq13_1 (Or.inl ⟨?tw13_1, ?ty13_1⟩) (by assumption) ?tr13_1
              case th13_1 => (simp only [List.getElem?_toArray, List.getElem?_cons_zero, List.getElem?_cons_succ]; rfl)
              case tq13_1 => exact fun _ _ _ h => h
              case tw13_1 => rfl
              case ty13_1 => (intro w' hSw; (try dsimp only at hSw); go_simp <;> with_reducible rfl)
              try simp only [Act.put, List.setIfInBounds_toArray, List.set_cons_zero, List.set_cons_succ]
              refine wpAnyH_take (i := 14) (oi := ?to14_1) (v := ?tv14_1) ?th14_1 (by kernel_rfl) (by kernel_rfl) (by kernel_rfl) ?tq14_1 (Or.inl ⟨?tw14_1, ?ty14_1⟩) (by assumption) ?tr14_1
              case th14_1 => (simp only [List.getElem?_toArray, List.getElem?_cons_zero, List.getElem?_cons_succ]; rfl)
              case tq14_1 => exact fun _ _ _ h => h
              case tw14_1 => rfl
              case ty14_1 => (intro w' hSw; (try dsimp only at hSw); go_simp <;> with_reducible rfl)
              try simp only [Act.put, List.setIfInBounds_toArray, List.set_cons_zero, List.set_cons_succ]
              refine wpAnyH_take (i := 15) (oi := ?to15_1) (v := ?tv15_1) ?th15_1 (by kernel_rfl) (by kernel_rfl) (by kernel_rfl) ?tq15_1 (Or.inl ⟨?tw15_1, ?ty15_1⟩) (by assumption) ?tr15_1
              case th15_1 => (simp only [List.getElem?_toArray, List.getElem?_cons_zero, List.getElem?_cons_succ]; rfl)
              case tq15_1 => exact fun _ _ _ h => h
              case tw15_1 => rfl
              case ty15_1 => (intro w' hSw; (try dsimp only at hSw); go_simp <;> with_reducible rfl)
              try simp only [Act.put, List.setIfInBounds_toArray, List.set_cons_zero, List.set_cons_succ]
              refine wpAnyH_take (i := 16) (oi := ?to16_1) (v := ?tv16_1) ?th16_1 (by kernel_rfl) (by kernel_rfl) (by kernel_rfl) ?tq16_1 (Or.inl ⟨?tw16_1, ?ty16_1⟩) (by assumption) ?tr16_1
              case th16_1 => (simp only [List.getElem?_toArray, List.getElem?_cons_zero, List.getElem?_cons_succ]; rfl)
              case tq16_1 => exact fun _ _ _ h => h
              case tw16_1 => rfl
              case ty16_1 => (intro w' hSw; (try dsimp only at hSw); go_simp <;> with_reducible rfl)
              try simp only [Act.put, List.setIfInBounds_toArray, List.set_cons_zero, List.set_cons_succ]
              refine wpAnyH_take (i := 17) (oi := ?to17_1) (v := ?tv17_1) ?th17_1 (by kernel_rfl) (by kernel_rfl) (by kernel_rfl) ?tq17_1 (Or.inl ⟨?tw17_1, ?ty17_1⟩) (by assumption) ?tr17_1
              case th17_1 => (simp only [List.getElem?_toArray, List.getElem?_cons_zero, List.getElem?_cons_succ]; rfl)
              case tq17_1 => exact fun _ _ _ h => h
              case tw17_1 => rfl
              case ty17_1 => (intro w' hSw; (try dsimp only at hSw); go_simp <;> with_reducible rfl)
              try simp only [Act.put, List.setIfInBounds_toArray, List.set_cons_zero, List.set_cons_succ]
              refine wpAnyH_ready (rs := [1, 10]) (by kernel_rfl) (by simp) ?_
              refine AllReadyH.cons (o := ?bo1_1) ?bh1_1 (fun K hK => ?bs1_1) ?bm1_1
              case bh1_1 => (simp only [List.getElem?_toArray, List.getElem?_cons_zero, List.getElem?_cons_succ]; rfl)
              case bs1_1 =>
                go_simp
                refine hK.out _ _ (SB.carry (by assumption) (below_box _ _)) (fun hHeld => ?_)
                clear hK K
                try simp only [Act.put, List.setIfInBounds_toArray, List.set_cons_zero, List.set_cons_succ]
                refine wpAnyH_ready (rs := [8, 10]) (by kernel_rfl) (by simp) ?_
                refine AllReadyH.cons (o := ?bo8_2) ?bh8_2 (fun K hK => ?bs8_2) ?bm8_2
                case bh8_2 => (simp only [List.getElem?_toArray, List.getElem?_cons_zero, List.getElem?_cons_succ]; rfl)
                case bs8_2 =>
                  refine step_appE _ (by rfl) (.tmp 50) (.tmp 56) (by rfl) X.heap.size _ _ [] (L.take 0) (by rfl) (own_nil _ _ _ _ _ (Nat.le_refl _) (heap_alloc_new _ _)) (by rfl) (unhide HS1 _ (SB.two (by assumption))) (by simp <;> omega) (SB.two (by assumption)).size ?_
                  intro v1 n1 k1 k2
                  have k1n : n1.ownsRow X.heap.size 29 2 v1 (L.take 0).length (spanC (L.take 0)) := by simpa using k1
                  refine hK.out _ _ (SB.grown (by assumption) hBX (fun j hj => by simp [Value.ownBlock] at hj; omega) k2) (fun hHeld => ?_)
                  clear hK K
                  try simp only [Act.put, List.setIfInBounds_toArray, List.set_cons_zero, List.set_cons_succ]
                  refine wpAnyH_ready (rs := [10]) (by kernel_rfl) (by simp) ?_
                  refine AllReadyH.cons (o := ?bo10_3) ?bh10_3 (fun K hK => ?bs10_3) ?bm10_3
                  case bh10_3 => (simp only [List.getElem?_toArray, List.getElem?_cons_zero, List.getElem?_cons_succ]; rfl)
                  case bs10_3 =>
                    go_simp
                    refine hK.out _ _ (SB.carry (by assumption) (below_box _ _)) (fun hHeld => ?_)
                    clear hK K
                    try simp only [Act.put, List.setIfInBounds_toArray, List.set_cons_zero, List.set_cons_succ]
                    refine wpAnyH_ready (rs := [11]) (by kernel_rfl) (by simp) ?_
                    refine AllReadyH.cons (o := ?bo11_4) ?bh11_4 (fun K hK => ?bs11_4) ?bm11_4
                    case bh11_4 => (simp only [List.getElem?_toArray, List.getElem?_cons_zero, List.getElem?_cons_succ]; rfl)
                    case bs11_4 =>
                      refine step_appE _ (by rfl) (.tmp 57) (.tmp 59) (by rfl) X.heap.size _ _ (L.take 0) [(Ent.mk id lo hi)] (by rfl) (k1n.alloc _) (by rfl) (src_oneE (e := Ent.mk id lo hi) (by simp) (by simp)) (by simp <;> omega) (SB.two (by assumption)).size ?_
                      intro v2 n2 j1 j2
                      refine hK.out _ _ (SB.grown (by assumption) hBX (fun j hj => (k1n.lt j hj).1) j2) (fun hHeld => ?_)
                      clear hK K
                      try simp only [Act.put, List.setIfInBounds_toArray, List.set_cons_zero, List.set_cons_succ]
                      refine wpAnyH_ready (rs := [18]) (by kernel_rfl) (by simp) ?_
                      refine AllReadyH.cons (o := ?bo18_5) ?bh18_5 (fun K hK => ?bs18_5) ?bm18_5
                      case bh18_5 => (simp only [List.getElem?_toArray, List.getElem?_cons_zero, List.getElem?_cons_succ]; rfl)
                      case bs18_5 =>
                        refine step_appE _ (by rfl) (.tmp 60) (.tmp 66) (by rfl) X.heap.size _ _ ((L.take 0) ++ [(Ent.mk id lo hi)]) (L.drop 0) (by rfl) j1 (by rfl) (unhide HS3 _ (SB.two (by assumption))) (by simp <;> omega) (SB.two (by assumption)).size ?_
                        intro v3 n3 i1 i2
                        refine hK.out _ _ (SB.grown (by assumption) hBX (fun j hj => (j1.lt j hj).1) i2) (fun hHeld => ?_)
                        clear hK K
                        try simp only [Act.put, List.setIfInBounds_toArray, List.set_cons_zero, List.set_cons_succ]
                        refine wpAnyH_done (by kernel_rfl) ?_ _
                        show wpList _ _ _ _ _ _
                        have e0 := hHeld.1
                        have g3 := (frozen_below (a := ⟨B, 1, none⟩) hHeld.2.1 hBX.1).trans gx
                        have HN6 := hide hHeld.2.1
                        have hq6n : (L.take 0 ++ [Ent.mk id lo hi] ++ L.drop 0).length = L.length + 1 := by simp only [List.length_append, List.length_take, List.length_drop, List.length_cons, List.length_nil]; omega
                        have HI6 := hide i1
                        rw [hq6n] at i1
                        obtain ⟨q6, cq6, rfl, hq6, hq6l⟩ := i1.form (Nat.succ_pos _)
                        clear hHeld k1 k2 k1n j1 j2 i1 i2
                        go_wp2
                        refine unhide HK1 _ _ ?_
                        go_wp2
                        go_ret
                        exact unhide HEND n3 q6 cq6 (unhide HN6) (unhide HI6) hq6
                      exact AllReadyH.nil
                    exact AllReadyH.nil
                  exact AllReadyH.nil
                refine AllReadyH.cons (o := ?bo10_6) ?bh10_6 (fun K hK => ?bs10_6) ?bm10_6
                case bh10_6 => (simp only [List.getElem?_toArray, List.getElem?_cons_zero, List.getElem?_cons_succ]; rfl)
                case bs10_6 =>
                  go_simp
                  refine hK.out _ _ (SB.carry (by assumption) (below_box _ _)) (fun hHeld => ?_)
                  clear hK K
                  try simp only [Act.put, List.setIfInBounds_toArray, List.set_cons_zero, List.set_cons_succ]
                  refine wpAnyH_ready (rs := [8]) (by kernel_rfl) (by simp) ?_
                  refine AllReadyH.cons (o := ?bo8_7) ?bh8_7 (fun K hK => ?bs8_7) ?bm8_7
                  case bh8_7 => (simp only [List.getElem?_toArray, List.getElem?_cons_zero, List.getElem?_cons_succ]; rfl)
                  case bs8_7 =>
                    refine step_appE _ (by rfl) (.tmp 50) (.tmp 56) (by rfl) X.heap.size _ _ [] (L.take 0) (by rfl) (own_nil _ _ _ _ _ (Nat.le_refl _) (((below_box _ _).block _ (by simp)).trans (heap_alloc_new _ _))) (by rfl) (unhide HS1 _ (SB.two (by assumption))) (by simp <;> omega) (SB.two (by assumption)).size ?_
                    intro v1 n1 k1 k2
                    have k1n : n1.ownsRow X.heap.size 29 2 v1 (L.take 0).length (spanC (L.take 0)) := by simpa using k1
                    refine hK.out _ _ (SB.grown (by assumption) hBX (fun j hj => by simp [Value.ownBlock] at hj; omega) k2) (fun hHeld => ?_)
                    clear hK K
                    try simp only [Act.put, List.setIfInBounds_toArray, List.set_cons_zero, List.set_cons_succ]
                    refine wpAnyH_ready (rs := [11]) (by kernel_rfl) (by simp) ?_
                    refine AllReadyH.cons (o := ?bo11_8) ?bh11_8 (fun K hK => ?bs11_8) ?bm11_8
                    case bh11_8 => (simp only [List.getElem?_toArray, List.getElem?_cons_zero, List.getElem?_cons_succ]; rfl)
                    case bs11_8 =>
                      refine step_appE _ (by rfl) (.tmp 57) (.tmp 59) (by rfl) X.heap.size _ _ (L.take 0) [(Ent.mk id lo hi)] (by rfl) (k1n) (by rfl) (src_oneE (e := Ent.mk id lo hi) ((k2.cell_far ⟨X.heap.size + 1, 0, none⟩ (by simp <;> omega) (by simp [Value.ownBlock])).trans (by simp)) ((k2.cell_far ⟨X.heap.size + 1, 1, none⟩ (by simp <;> omega) (by simp [Value.ownBlock])).trans (by simp))) (by simp <;> omega) (SB.two (by assumption)).size ?_
                      intro v2 n2 j1 j2
                      refine hK.out _ _ (SB.grown (by assumption) hBX (fun j hj => (k1n.lt j hj).1) j2) (fun hHeld => ?_)
                      clear hK K
                      try simp only [Act.put, List.setIfInBounds_toArray, List.set_cons_zero, List.set_cons_succ]
                      refine wpAnyH_ready (rs := [18]) (by kernel_rfl) (by simp) ?_
                      refine AllReadyH.cons (o := ?bo18_9) ?bh18_9 (fun K hK => ?bs18_9) ?bm18_9
                      case bh18_9 => (simp only [List.getElem?_toArray, List.getElem?_cons_zero, List.getElem?_cons_succ]; rfl)
                      case bs18_9 =>
                        refine step_appE _ (by rfl) (.tmp 60) (.tmp 66) (by rfl) X.heap.size _ _ ((L.take 0) ++ [(Ent.mk id lo hi)]) (L.drop 0) (by rfl) j1 (by rfl) (unhide HS3 _ (SB.two (by assumption))) (by simp <;> omega) (SB.two (by assumption)).size ?_
                        intro v3 n3 i1 i2
                        refine hK.out _ _ (SB.grown (by assumption) hBX (fun j hj => (j1.lt j hj).1) i2) (fun hHeld => ?_)
                        clear hK K
                        try simp only [Act.put, List.setIfInBounds_toArray, List.set_cons_zero, List.set_cons_succ]
                        refine wpAnyH_done (by kernel_rfl) ?_ _
                        show wpList _ _ _ _ _ _
                        have e0 := hHeld.1
                        have g3 := (frozen_below (a := ⟨B, 1, none⟩) hHeld.2.1 hBX.1).trans gx
                        have HN6 := hide hHeld.2.1
                        have hq6n : (L.take 0 ++ [Ent.mk id lo hi] ++ L.drop 0).length = L.length + 1 := by simp only [List.length_append, List.length_take, List.length_drop, List.length_cons, List.length_nil]; omega
                        have HI6 := hide i1
                        rw [hq6n] at i1
                        obtain ⟨q6, cq6, rfl, hq6, hq6l⟩ := i1.form (Nat.succ_pos _)
                        clear hHeld k1 k2 k1n j1 j2 i1 i2
                        go_wp2
                        refine unhide HK1 _ _ ?_
                        go_wp2
                        go_ret
                        exact unhide HEND n3 q6 cq6 (unhide HN6) (unhide HI6) hq6
                      exact AllReadyH.nil
                    exact AllReadyH.nil
                  exact AllReadyH.nil
                exact AllReadyH.nil
              refine AllReadyH.cons (o := ?bo10_10) ?bh10_10 (fun K hK => ?bs10_10) ?bm10_10
              case bh10_10 => (simp only [List.getElem?_toArray, List.getElem?_cons_zero, List.getElem?_cons_succ]; rfl)
              case bs10_10 =>
                go_simp
                refine hK.out _ _ (SB.carry (by assumption) (below_box _ _)) (fun hHeld => ?_)
                clear hK K
                try simp only [Act.put, List.setIfInBounds_toArray, List.set_cons_zero, List.set_cons_succ]
                refine wpAnyH_ready (rs := [1]) (by kernel_rfl) (by simp) ?_
                refine AllReadyH.cons (o := ?bo1_11) ?bh1_11 (fun K hK => ?bs1_11) ?bm1_11
                case bh1_11 => (simp only [List.getElem?_toArray, List.getElem?_cons_zero, List.getElem?_cons_succ]; rfl)
                case bs1_11 =>
                  go_simp
                  refine hK.out _ _ (SB.carry (by assumption) (below_box _ _)) (fun hHeld => ?_)
                  clear hK K
                  try simp only [Act.put, List.setIfInBounds_toArray, List.set_cons_zero, List.set_cons_succ]
                  refine wpAnyH_ready (rs := [8]) (by kernel_rfl) (by simp) ?_
                  refine AllReadyH.cons (o := ?bo8_12) ?bh8_12 (fun K hK => ?bs8_12) ?bm8_12
                  case bh8_12 => (simp only [List.getElem?_toArray, List.getElem?_cons_zero, List.getElem?_cons_succ]; rfl)
                  case bs8_12 =>
                    refine step_appE _ (by rfl) (.tmp 50) (.tmp 56) (by rfl) X.heap.size _ _ [] (L.take 0) (by rfl) (own_nil _ _ (X.heap.size + 1) _ _ (by omega) (by have := heap_alloc_new (X.alloc (.cells #[.int .i64 lo, .int .i64 hi] 29)) (.cells #[] 29); rw [World.size_alloc] at this; exact this)) (by rfl) (unhide HS1 _ (SB.two (by assumption))) (by simp <;> omega) (SB.two (by assumption)).size ?_
                    intro v1 n1 k1 k2
                    have k1n : n1.ownsRow X.heap.size 29 2 v1 (L.take 0).length (spanC (L.take 0)) := by simpa using k1
                    refine hK.out _ _ (SB.grown (by assumption) hBX (fun j hj => by simp [Value.ownBlock] at hj; omega) k2) (fun hHeld => ?_)
                    clear hK K
                    try simp only [Act.put, List.setIfInBounds_toArray, List.set_cons_zero, List.set_cons_succ]
                    refine wpAnyH_ready (rs := [11]) (by kernel_rfl) (by simp) ?_
                    refine AllReadyH.cons (o := ?bo11_13) ?bh11_13 (fun K hK => ?bs11_13) ?bm11_13
                    case bh11_13 => (simp only [List.getElem?_toArray, List.getElem?_cons_zero, List.getElem?_cons_succ]; rfl)
                    case bs11_13 =>
                      refine step_appE _ (by rfl) (.tmp 57) (.tmp 59) (by rfl) X.heap.size _ _ (L.take 0) [(Ent.mk id lo hi)] (by rfl) (k1n) (by rfl) (src_oneE (e := Ent.mk id lo hi) ((k2.cell_far ⟨X.heap.size, 0, none⟩ (by simp <;> omega) (by simp [Value.ownBlock])).trans (by simp)) ((k2.cell_far ⟨X.heap.size, 1, none⟩ (by simp <;> omega) (by simp [Value.ownBlock])).trans (by simp))) (by simp <;> omega) (SB.two (by assumption)).size ?_
                      intro v2 n2 j1 j2
                      refine hK.out _ _ (SB.grown (by assumption) hBX (fun j hj => (k1n.lt j hj).1) j2) (fun hHeld => ?_)
                      clear hK K
                      try simp only [Act.put, List.setIfInBounds_toArray, List.set_cons_zero, List.set_cons_succ]
                      refine wpAnyH_ready (rs := [18]) (by kernel_rfl) (by simp) ?_
                      refine AllReadyH.cons (o := ?bo18_14) ?bh18_14 (fun K hK => ?bs18_14) ?bm18_14
                      case bh18_14 => (simp only [List.getElem?_toArray, List.getElem?_cons_zero, List.getElem?_cons_succ]; rfl)
                      case bs18_14 =>
                        refine step_appE _ (by rfl) (.tmp 60) (.tmp 66) (by rfl) X.heap.size _ _ ((L.take 0) ++ [(Ent.mk id lo hi)]) (L.drop 0) (by rfl) j1 (by rfl) (unhide HS3 _ (SB.two (by assumption))) (by simp <;> omega) (SB.two (by assumption)).size ?_
                        intro v3 n3 i1 i2
                        refine hK.out _ _ (SB.grown (by assumption) hBX (fun j hj => (j1.lt j hj).1) i2) (fun hHeld => ?_)
                        clear hK K
                        try simp only [Act.put, List.setIfInBounds_toArray, List.set_cons_zero, List.set_cons_succ]
                        refine wpAnyH_done (by kernel_rfl) ?_ _
                        show wpList _ _ _ _ _ _
                        have e0 := hHeld.1
                        have g3 := (frozen_below (a := ⟨B, 1, none⟩) hHeld.2.1 hBX.1).trans gx
                        have HN6 := hide hHeld.2.1
                        have hq6n : (L.take 0 ++ [Ent.mk id lo hi] ++ L.drop 0).length = L.length + 1 := by simp only [List.length_append, List.length_take, List.length_drop, List.length_cons, List.length_nil]; omega
                        have HI6 := hide i1
                        rw [hq6n] at i1
                        obtain ⟨q6, cq6, rfl, hq6, hq6l⟩ := i1.form (Nat.succ_pos _)
                        clear hHeld k1 k2 k1n j1 j2 i1 i2
                        go_wp2
                        refine unhide HK1 _ _ ?_
                        go_wp2
                        go_ret
                        exact unhide HEND n3 q6 cq6 (unhide HN6) (unhide HI6) hq6
                      exact AllReadyH.nil
                    exact AllReadyH.nil
                  exact AllReadyH.nil
                exact AllReadyH.nil
              exact AllReadyH.nil
            · obtain ⟨rfl, rfl⟩ : az = some ⟨bs, 0, none⟩ ∧ cz = cz' := by simpa using hsome
              have HS1 : Hid (∀ x, Below X.heap.size X x → SrcE x (.slice (some ⟨bs, 0, none⟩) k cz) (L.take k)) := fun x hb => src_takeE hcell hbX hk hb
              have HS3 : Hid (∀ x, Below X.heap.size X x → SrcE x (.slice (if cz = k then some ⟨bs, 0, none⟩ else some ⟨bs, k * 2, none⟩) (L.length - k) (cz - k)) (L.drop k)) := fun x hb => src_dropE rfl hcell hbX hk hcz hb
              have hk2 : (k : Int) ≤ (cz : Int) := by omega
              have hk3 : (L.length : Int) ≤ (cz : Int) := by omega
              clear hcell hsome HXS
              refine wp_region_tail (fun x => x.cell? ⟨B, 1, none⟩ = some (.slice (some ⟨bs, 0, none⟩) L.length cz) ∧ Below X.heap.size X x ∧ x.cell? ⟨w.heap.size, 0, none⟩ = some (.int .i64 lo) ∧ x.cell? ⟨w.heap.size, 1, none⟩ = some (.int .i64 hi)) 19 (by kernel_rfl) (by kernel_rfl) (unhide S0) (fun hHeld => ?_)
              refine wpAnyH_take (i := 0) (oi := ?to0_2) (v := ?tv0_2) ?th0_2 (by kernel_rfl) (by kernel_rfl) (by kernel_rfl) ?tq0_2 (Or.inl ⟨?tw0_2, ?ty0_2⟩) (by assumption) ?tr0_2
              case th0_2 => (simp only [List.getElem?_toArray, List.getElem?_cons_zero]; rfl)
              case tq0_2 => exact fun _ _ _ h => h
              case tw0_2 => rfl
              case ty0_2 => (intro w' hSw; (try dsimp only at hSw); go_simp <;> with_reducible rfl)
              try simp only [Act.put, List.setIfInBounds_toArray, List.set_cons_zero, List.set_cons_succ]
              refine wpAnyH_take (i := 2) (oi := ?to2_2) (v := ?tv2_2) ?th2_2 (by kernel_rfl) (by kernel_rfl) (by kernel_rfl) ?tq2_2 (Or.inl ⟨?tw2_2, ?ty2_2⟩) (by assumption) ?tr2_2
              case th2_2 => (simp only [List.getElem?_toArray, List.getElem?_cons_zero, List.getElem?_cons_succ]; rfl)
              case tq2_2 => exact fun _ _ _ h => h
              case tw2_2 => rfl
              case ty2_2 => (intro w' hSw; (try dsimp only at hSw); go_simp <;> with_reducible rfl)
              try simp only [Act.put, List.setIfInBounds_toArray, List.set_cons_zero, List.set_cons_succ]
              refine wpAnyH_take (i := 3) (oi := ?to3_2) (v := ?tv3_2) ?th3_2 (by kernel_rfl) (by kernel_rfl) (by kernel_rfl) ?tq3_2 (Or.inl ⟨?tw3_2, ?ty3_2⟩) (by assumption) ?tr3_2
              case th3_2 => (simp only [List.getElem?_toArray, List.getElem?_cons_zero, List.getElem?_cons_succ]; rfl)
              case tq3_2 => exact fun _ _ _ h => h
              case tw3_2 => rfl
              case ty3_2 => (intro w' hSw; (try dsimp only at hSw); go_simp <;> with_reducible rfl)
              try simp only [Act.put, List.setIfInBounds_toArray, List.set_cons_zero, List.set_cons_succ]
              refine wpAnyH_take (i := 4) (oi := ?to4_2) (v := ?tv4_2) ?th4_2 (by kernel_rfl) (by kernel_rfl) (by kernel_rfl) ?tq4_2 (Or.inl ⟨?tw4_2, ?ty4_2⟩) (by assumption) ?tr4_2
              case th4_2 => (simp only [List.getElem?_toArray, List.getElem?_cons_zero, List.getElem?_cons_succ]; rfl)
              case tq4_2 => exact fun _ _ _ h => h
              case tw4_2 => rfl
              case ty4_2 => (intro w' hSw; (try dsimp only at hSw); go_simp <;> with_reducible rfl)
              try simp only [Act.put, List.setIfInBounds_toArray, List.set_cons_zero, List.set_cons_succ]
              refine wpAnyH_take (i := 5) (oi := ?to5_2) (v := ?tv5_2) ?th5_2 (by kernel_rfl) (by kernel_rfl) (by kernel_rfl) ?tq5_2 (Or.inl ⟨?tw5_2, ?ty5_2⟩) (by assumption) ?tr5_2
              case th5_2 => (simp only [List.getElem?_toArray, List.getElem?_cons_zero, List.getElem?_cons_succ]; rfl)
              case tq5_2 => exact fun _ _ _ h => h
              case tw5_2 => rfl
              case ty5_2 => (intro w' hSw; (try dsimp only at hSw); go_simp <;> with_reducible rfl)
              try simp only [Act.put, List.setIfInBounds_toArray, List.set_cons_zero, List.set_cons_succ]
              refine wpAnyH_take (i := 6) (oi := ?to6_2) (v := ?tv6_2) ?th6_2 (by kernel_rfl) (by kernel_rfl) (by kernel_rfl) ?tq6_2 (Or.inl ⟨?tw6_2, ?ty6_2⟩) (by assumption) ?tr6_2
              case th6_2 => (simp only [List.getElem?_toArray, List.getElem?_cons_zero, List.getElem?_cons_succ]; rfl)
              case tq6_2 => exact fun _ _ _ h => h
              case tw6_2 => rfl
              case ty6_2 => (intro w' hSw; (try dsimp only at hSw); go_simp <;> with_reducible rfl)
              try simp only [Act.put, List.setIfInBounds_toArray, List.set_cons_zero, List.set_cons_succ]
              refine wpAnyH_take (i := 7) (oi := ?to7_2) (v := ?tv7_2) ?th7_2 (by kernel_rfl) (by kernel_rfl) (by kernel_rfl) ?tq7_2 (Or.inl ⟨?tw7_2, ?ty7_2⟩) (by assumption) ?tr7_2
              case th7_2 => (simp only [List.getElem?_toArray, List.getElem?_cons_zero, List.getElem?_cons_succ]; rfl)
              case tq7_2 => exact fun _ _ _ h => h
              case tw7_2 => rfl
              case ty7_2 => (intro w' hSw; (try dsimp only at hSw); go_simp <;> with_reducible rfl)
              try simp only [Act.put, List.setIfInBounds_toArray, List.set_cons_zero, List.set_cons_succ]
              refine wpAnyH_take (i := 9) (oi := ?to9_2) (v := ?tv9_2) ?th9_2 (by kernel_rfl) (by kernel_rfl) (by kernel_rfl) ?tq9_2 (Or.inl ⟨?tw9_2, ?ty9_2⟩) (by assumption) ?tr9_2
              case th9_2 => (simp only [List.getElem?_toArray, List.getElem?_cons_zero, List.getElem?_cons_succ]; rfl)
              case tq9_2 => exact fun _ _ _ h => h
              case tw9_2 => rfl
              case ty9_2 => (intro w' hSw; (try dsimp only at hSw); go_simp <;> with_reducible rfl)
              try simp only [Act.put, List.setIfInBounds_toArray, List.set_cons_zero, List.set_cons_succ]
              refine wpAnyH_take (i := 12) (oi := ?to12_2) (v := ?tv12_2) ?th12_2 (by kernel_rfl) (by kernel_rfl) (by kernel_rfl) ?tq12_2 (Or.inl ⟨?tw12_2, ?ty12_2⟩) (by assumption) ?tr12_2
              case th12_2 => (simp only [List.getElem?_toArray, List.getElem?_cons_zero, List.getElem?_cons_succ]; rfl)
              case tq12_2 => exact fun _ _ _ h => h
              case tw12_2 => rfl
              case ty12_2 => (intro w' hSw; (try dsimp only at hSw); go_simp <;> with_reducible rfl)
              try simp only [Act.put, List.setIfInBounds_toArray, List.set_cons_zero, List.set_cons_succ]
              refine wpAnyH_take (i := 13) (oi := ?to13_2) (v := ?tv13_2) ?th13_2 (by kernel_rfl) (by kernel_rfl) (by kernel_rfl) ?tq13_2 (Or.inl ⟨?tw13_2, ?ty13_2⟩) (by assumption) ?tr13_2
              case th13_2 => (simp only [List.getElem?_toArray, List.getElem?_cons_zero, List.getElem?_cons_succ]; rfl)
              case tq13_2 => exact fun _ _ _ h => h
              case tw13_2 => rfl
              case ty13_2 => (intro w' hSw; (try dsimp only at hSw); go_simp <;> with_reducible rfl)
              try simp only [Act.put, List.setIfInBounds_toArray, List.set_cons_zero, List.set_cons_succ]
              refine wpAnyH_take (i := 14) (oi := ?to14_2) (v := ?tv14_2) ?th14_2 (by kernel_rfl) (by kernel_rfl) (by kernel_rfl) ?tq14_2 (Or.inl ⟨?tw14_2, ?ty14_2⟩) (by assumption) ?tr14_2
              case th14_2 => (simp only [List.getElem?_toArray, List.getElem?_cons_zero, List.getElem?_cons_succ]; rfl)
              case tq14_2 => exact fun _ _ _ h => h
              case tw14_2 => rfl
              case ty14_2 => (intro w' hSw; (try dsimp only at hSw); go_simp <;> with_reducible rfl)
              try simp only [Act.put, List.setIfInBounds_toArray, List.set_cons_zero, List.set_cons_succ]
              refine wpAnyH_take (i := 15) (oi := ?to15_2) (v := ?tv15_2) ?th15_2 (by kernel_rfl) (by kernel_rfl) (by kernel_rfl) ?tq15_2 (Or.inl ⟨?tw15_2, ?ty15_2⟩) (by assumption) ?tr15_2
              case th15_2 => (simp only [List.getElem?_toArray, List.getElem?_cons_zero, List.getElem?_cons_succ]; rfl)
              case tq15_2 => exact fun _ _ _ h => h
              case tw15_2 => rfl
              case ty15_2 => (intro w' hSw; (try dsimp only at hSw); go_simp <;> with_reducible rfl)
              try simp only [Act.put, List.setIfInBounds_toArray, List.set_cons_zero, List.set_cons_succ]
              refine wpAnyH_take (i := 16) (oi := ?to16_2) (v := ?tv16_2) ?th16_2 (by kernel_rfl) (by kernel_rfl) (by kernel_rfl) ?tq16_2 (Or.inl ⟨?tw16_2, ?ty16_2⟩) (by assumption) ?tr16_2
              case th16_2 => (simp only [List.getElem?_toArray, List.getElem?_cons_zero, List.getElem?_cons_succ]; rfl)
              case tq16_2 => exact fun _ _ _ h => h
              case tw16_2 => rfl
              case ty16_2 => (intro w' hSw; (try dsimp only at hSw); go_simp <;> with_reducible rfl)
              try simp only [Act.put, List.setIfInBounds_toArray, List.set_cons_zero, List.set_cons_succ]
              refine wpAnyH_take (i := 17) (oi := ?to17_2) (v := ?tv17_2) ?th17_2 (by kernel_rfl) (by kernel_rfl) (by kernel_rfl) ?tq17_2 (Or.inl ⟨?tw17_2, ?ty17_2⟩) (by assumption) ?tr17_2
              case th17_2 => (simp only [List.getElem?_toArray, List.getElem?_cons_zero, List.getElem?_cons_succ]; rfl)
              case tq17_2 => exact fun _ _ _ h => h
              case tw17_2 => rfl
              case ty17_2 => (intro w' hSw; (try dsimp only at hSw); go_simp <;> with_reducible rfl)
              try simp only [Act.put, List.setIfInBounds_toArray, List.set_cons_zero, List.set_cons_succ]
              generalize (Value.slice (if cz = k then (some ⟨bs, 0, none⟩ : Option Addr) else some ⟨bs, k * 2, none⟩) (L.length - k) (cz - k)) = dv at HS3 ⊢
              refine wpAnyH_ready (rs := [1, 10]) (by kernel_rfl) (by simp) ?_
              refine AllReadyH.cons (o := ?bo1_15) ?bh1_15 (fun K hK => ?bs1_15) ?bm1_15
              case bh1_15 => (simp only [List.getElem?_toArray, List.getElem?_cons_zero, List.getElem?_cons_succ]; rfl)
              case bs1_15 =>
                go_simp
                refine hK.out _ _ (SB.carry (by assumption) (below_box _ _)) (fun hHeld => ?_)
                clear hK K
                try simp only [Act.put, List.setIfInBounds_toArray, List.set_cons_zero, List.set_cons_succ]
                refine wpAnyH_ready (rs := [8, 10]) (by kernel_rfl) (by simp) ?_
                refine AllReadyH.cons (o := ?bo8_16) ?bh8_16 (fun K hK => ?bs8_16) ?bm8_16
                case bh8_16 => (simp only [List.getElem?_toArray, List.getElem?_cons_zero, List.getElem?_cons_succ]; rfl)
                case bs8_16 =>
                  refine step_appE _ (by rfl) (.tmp 50) (.tmp 56) (by rfl) X.heap.size _ _ [] (L.take k) (by rfl) (own_nil _ _ _ _ _ (Nat.le_refl _) (heap_alloc_new _ _)) (by rfl) (unhide HS1 _ (SB.two (by assumption))) (by simp <;> omega) (SB.two (by assumption)).size ?_
                  intro v1 n1 k1 k2
                  have k1n : n1.ownsRow X.heap.size 29 2 v1 (L.take k).length (spanC (L.take k)) := by simpa using k1
                  refine hK.out _ _ (SB.grown (by assumption) hBX (fun j hj => by simp [Value.ownBlock] at hj; omega) k2) (fun hHeld => ?_)
                  clear hK K
                  try simp only [Act.put, List.setIfInBounds_toArray, List.set_cons_zero, List.set_cons_succ]
                  refine wpAnyH_ready (rs := [10]) (by kernel_rfl) (by simp) ?_
                  refine AllReadyH.cons (o := ?bo10_17) ?bh10_17 (fun K hK => ?bs10_17) ?bm10_17
                  case bh10_17 => (simp only [List.getElem?_toArray, List.getElem?_cons_zero, List.getElem?_cons_succ]; rfl)
                  case bs10_17 =>
                    go_simp
                    refine hK.out _ _ (SB.carry (by assumption) (below_box _ _)) (fun hHeld => ?_)
                    clear hK K
                    try simp only [Act.put, List.setIfInBounds_toArray, List.set_cons_zero, List.set_cons_succ]
                    refine wpAnyH_ready (rs := [11]) (by kernel_rfl) (by simp) ?_
                    refine AllReadyH.cons (o := ?bo11_18) ?bh11_18 (fun K hK => ?bs11_18) ?bm11_18
                    case bh11_18 => (simp only [List.getElem?_toArray, List.getElem?_cons_zero, List.getElem?_cons_succ]; rfl)
                    case bs11_18 =>
                      refine step_appE _ (by rfl) (.tmp 57) (.tmp 59) (by rfl) X.heap.size _ _ (L.take k) [(Ent.mk id lo hi)] (by rfl) (k1n.alloc _) (by rfl) (src_oneE (e := Ent.mk id lo hi) (by simp) (by simp)) (by simp <;> omega) (SB.two (by assumption)).size ?_
                      intro v2 n2 j1 j2
                      refine hK.out _ _ (SB.grown (by assumption) hBX (fun j hj => (k1n.lt j hj).1) j2) (fun hHeld => ?_)
                      clear hK K
                      try simp only [Act.put, List.setIfInBounds_toArray, List.set_cons_zero, List.set_cons_succ]
                      refine wpAnyH_ready (rs := [18]) (by kernel_rfl) (by simp) ?_
                      refine AllReadyH.cons (o := ?bo18_19) ?bh18_19 (fun K hK => ?bs18_19) ?bm18_19
                      case bh18_19 => (simp only [List.getElem?_toArray, List.getElem?_cons_zero, List.getElem?_cons_succ]; rfl)
                      case bs18_19 =>
                        refine step_appE _ (by rfl) (.tmp 60) (.tmp 66) (by rfl) X.heap.size _ _ ((L.take k) ++ [(Ent.mk id lo hi)]) (L.drop k) (by rfl) j1 (by rfl) (unhide HS3 _ (SB.two (by assumption))) (by simp <;> omega) (SB.two (by assumption)).size ?_
                        intro v3 n3 i1 i2
                        refine hK.out _ _ (SB.grown (by assumption) hBX (fun j hj => (j1.lt j hj).1) i2) (fun hHeld => ?_)
                        clear hK K
                        try simp only [Act.put, List.setIfInBounds_toArray, List.set_cons_zero, List.set_cons_succ]
                        refine wpAnyH_done (by kernel_rfl) ?_ _
                        show wpList _ _ _ _ _ _
                        have e0 := hHeld.1
                        have g3 := (frozen_below (a := ⟨B, 1, none⟩) hHeld.2.1 hBX.1).trans gx
                        have HN6 := hide hHeld.2.1
                        have hq6n : (L.take k ++ [Ent.mk id lo hi] ++ L.drop k).length = L.length + 1 := by simp only [List.length_append, List.length_take, List.length_drop, List.length_cons, List.length_nil]; omega
                        have HI6 := hide i1
                        rw [hq6n] at i1
                        obtain ⟨q6, cq6, rfl, hq6, hq6l⟩ := i1.form (Nat.succ_pos _)
                        clear hHeld k1 k2 k1n j1 j2 i1 i2
                        go_wp2
                        refine unhide HK1 _ _ ?_
                        go_wp2
                        go_ret
                        exact unhide HEND n3 q6 cq6 (unhide HN6) (unhide HI6) hq6
                      exact AllReadyH.nil
                    exact AllReadyH.nil
                  exact AllReadyH.nil
                refine AllReadyH.cons (o := ?bo10_20) ?bh10_20 (fun K hK => ?bs10_20) ?bm10_20
                case bh10_20 => (simp only [List.getElem?_toArray, List.getElem?_cons_zero, List.getElem?_cons_succ]; rfl)
                case bs10_20 =>
                  go_simp
                  refine hK.out _ _ (SB.carry (by assumption) (below_box _ _)) (fun hHeld => ?_)
                  clear hK K
                  try simp only [Act.put, List.setIfInBounds_toArray, List.set_cons_zero, List.set_cons_succ]
                  refine wpAnyH_ready (rs := [8]) (by kernel_rfl) (by simp) ?_
                  refine AllReadyH.cons (o := ?bo8_21) ?bh8_21 (fun K hK => ?bs8_21) ?bm8_21
                  case bh8_21 => (simp only [List.getElem?_toArray, List.getElem?_cons_zero, List.getElem?_cons_succ]; rfl)
                  case bs8_21 =>
                    refine step_appE _ (by rfl) (.tmp 50) (.tmp 56) (by rfl) X.heap.size _ _ [] (L.take k) (by rfl) (own_nil _ _ _ _ _ (Nat.le_refl _) (((below_box _ _).block _ (by simp)).trans (heap_alloc_new _ _))) (by rfl) (unhide HS1 _ (SB.two (by assumption))) (by simp <;> omega) (SB.two (by assumption)).size ?_
                    intro v1 n1 k1 k2
                    have k1n : n1.ownsRow X.heap.size 29 2 v1 (L.take k).length (spanC (L.take k)) := by simpa using k1
                    refine hK.out _ _ (SB.grown (by assumption) hBX (fun j hj => by simp [Value.ownBlock] at hj; omega) k2) (fun hHeld => ?_)
                    clear hK K
                    try simp only [Act.put, List.setIfInBounds_toArray, List.set_cons_zero, List.set_cons_succ]
                    refine wpAnyH_ready (rs := [11]) (by kernel_rfl) (by simp) ?_
                    refine AllReadyH.cons (o := ?bo11_22) ?bh11_22 (fun K hK => ?bs11_22) ?bm11_22
                    case bh11_22 => (simp only [List.getElem?_toArray, List.getElem?_cons_zero, List.getElem?_cons_succ]; rfl)
                    case bs11_22 =>
                      refine step_appE _ (by rfl) (.tmp 57) (.tmp 59) (by rfl) X.heap.size _ _ (L.take k) [(Ent.mk id lo hi)] (by rfl) (k1n) (by rfl) (src_oneE (e := Ent.mk id lo hi) ((k2.cell_far ⟨X.heap.size + 1, 0, none⟩ (by simp <;> omega) (by simp [Value.ownBlock])).trans (by simp)) ((k2.cell_far ⟨X.heap.size + 1, 1, none⟩ (by simp <;> omega) (by simp [Value.ownBlock])).trans (by simp))) (by simp <;> omega) (SB.two (by assumption)).size ?_
                      intro v2 n2 j1 j2
                      refine hK.out _ _ (SB.grown (by assumption) hBX (fun j hj => (k1n.lt j hj).1) j2) (fun hHeld => ?_)
                      clear hK K
                      try simp only [Act.put, List.setIfInBounds_toArray, List.set_cons_zero, List.set_cons_succ]
                      refine wpAnyH_ready (rs := [18]) (by kernel_rfl) (by simp) ?_
                      refine AllReadyH.cons (o := ?bo18_23) ?bh18_23 (fun K hK => ?bs18_23) ?bm18_23
                      case bh18_23 => (simp only [List.getElem?_toArray, List.getElem?_cons_zero, List.getElem?_cons_succ]; rfl)
                      case bs18_23 =>
                        refine step_appE _ (by rfl) (.tmp 60) (.tmp 66) (by rfl) X.heap.size _ _ ((L.take k) ++ [(Ent.mk id lo hi)]) (L.drop k) (by rfl) j1 (by rfl) (unhide HS3 _ (SB.two (by assumption))) (by simp <;> omega) (SB.two (by assumption)).size ?_
                        intro v3 n3 i1 i2
                        refine hK.out _ _ (SB.grown (by assumption) hBX (fun j hj => (j1.lt j hj).1) i2) (fun hHeld => ?_)
                        clear hK K
                        try simp only [Act.put, List.setIfInBounds_toArray, List.set_cons_zero, List.set_cons_succ]
                        refine wpAnyH_done (by kernel_rfl) ?_ _
                        show wpList _ _ _ _ _ _
                        have e0 := hHeld.1
                        have g3 := (frozen_below (a := ⟨B, 1, none⟩) hHeld.2.1 hBX.1).trans gx
                        have HN6 := hide hHeld.2.1
                        have hq6n : (L.take k ++ [Ent.mk id lo hi] ++ L.drop k).length = L.length + 1 := by simp only [List.length_append, List.length_take, List.length_drop, List.length_cons, List.length_nil]; omega
                        have HI6 := hide i1
                        rw [hq6n] at i1
                        obtain ⟨q6, cq6, rfl, hq6, hq6l⟩ := i1.form (Nat.succ_pos _)
                        clear hHeld k1 k2 k1n j1 j2 i1 i2
                        go_wp2
                        refine unhide HK1 _ _ ?_
                        go_wp2
                        go_ret
                        exact unhide HEND n3 q6 cq6 (unhide HN6) (unhide HI6) hq6
                      exact AllReadyH.nil
                    exact AllReadyH.nil
                  exact AllReadyH.nil
                exact AllReadyH.nil
              refine AllReadyH.cons (o := ?bo10_24) ?bh10_24 (fun K hK => ?bs10_24) ?bm10_24
              case bh10_24 => (simp only [List.getElem?_toArray, List.getElem?_cons_zero, List.getElem?_cons_succ]; rfl)
              case bs10_24 =>
                go_simp
                refine hK.out _ _ (SB.carry (by assumption) (below_box _ _)) (fun hHeld => ?_)
                clear hK K
                try simp only [Act.put, List.setIfInBounds_toArray, List.set_cons_zero, List.set_cons_succ]
                refine wpAnyH_ready (rs := [1]) (by kernel_rfl) (by simp) ?_
                refine AllReadyH.cons (o := ?bo1_25) ?bh1_25 (fun K hK => ?bs1_25) ?bm1_25
                case bh1_25 => (simp only [List.getElem?_toArray, List.getElem?_cons_zero, List.getElem?_cons_succ]; rfl)
                case bs1_25 =>
                  go_simp
                  refine hK.out _ _ (SB.carry (by assumption) (below_box _ _)) (fun hHeld => ?_)
                  clear hK K
                  try simp only [Act.put, List.setIfInBounds_toArray, List.set_cons_zero, List.set_cons_succ]
                  refine wpAnyH_ready (rs := [8]) (by kernel_rfl) (by simp) ?_
                  refine AllReadyH.cons (o := ?bo8_26) ?bh8_26 (fun K hK => ?bs8_26) ?bm8_26
                  case bh8_26 => (simp only [List.getElem?_toArray, List.getElem?_cons_zero, List.getElem?_cons_succ]; rfl)
                  case bs8_26 =>
                    refine step_appE _ (by rfl) (.tmp 50) (.tmp 56) (by rfl) X.heap.size _ _ [] (L.take k) (by rfl) (own_nil _ _ (X.heap.size + 1) _ _ (by omega) (by have := heap_alloc_new (X.alloc (.cells #[.int .i64 lo, .int .i64 hi] 29)) (.cells #[] 29); rw [World.size_alloc] at this; exact this)) (by rfl) (unhide HS1 _ (SB.two (by assumption))) (by simp <;> omega) (SB.two (by assumption)).size ?_
                    intro v1 n1 k1 k2
                    have k1n : n1.ownsRow X.heap.size 29 2 v1 (L.take k).length (spanC (L.take k)) := by simpa using k1
                    refine hK.out _ _ (SB.grown (by assumption) hBX (fun j hj => by simp [Value.ownBlock] at hj; omega) k2) (fun hHeld => ?_)
                    clear hK K
                    try simp only [Act.put, List.setIfInBounds_toArray, List.set_cons_zero, List.set_cons_succ]
                    refine wpAnyH_ready (rs := [11]) (by kernel_rfl) (by simp) ?_
                    refine AllReadyH.cons (o := ?bo11_27) ?bh11_27 (fun K hK => ?bs11_27) ?bm11_27
                    case bh11_27 => (simp only [List.getElem?_toArray, List.getElem?_cons_zero, List.getElem?_cons_succ]; rfl)
                    case bs11_27 =>
                      refine step_appE _ (by rfl) (.tmp 57) (.tmp 59) (by rfl) X.heap.size _ _ (L.take k) [(Ent.mk id lo hi)] (by rfl) (k1n) (by rfl) (src_oneE (e := Ent.mk id lo hi) ((k2.cell_far ⟨X.heap.size, 0, none⟩ (by simp <;> omega) (by simp [Value.ownBlock])).trans (by simp)) ((k2.cell_far ⟨X.heap.size, 1, none⟩ (by simp <;> omega) (by simp [Value.ownBlock])).trans (by simp))) (by simp <;> omega) (SB.two (by assumption)).size ?_
                      intro v2 n2 j1 j2
                      refine hK.out _ _ (SB.grown (by assumption) hBX (fun j hj => (k1n.lt j hj).1) j2) (fun hHeld => ?_)
                      clear hK K
                      try simp only [Act.put, List.setIfInBounds_toArray, List.set_cons_zero, List.set_cons_succ]
                      refine wpAnyH_ready (rs := [18]) (by kernel_rfl) (by simp) ?_
                      refine AllReadyH.cons (o := ?bo18_28) ?bh18_28 (fun K hK => ?bs18_28) ?bm18_28
                      case bh18_28 => (simp only [List.getElem?_toArray, List.getElem?_cons_zero, List.getElem?_cons_succ]; rfl)
                      case bs18_28 =>
                        refine step_appE _ (by rfl) (.tmp 60) (.tmp 66) (by rfl) X.heap.size _ _ ((L.take k) ++ [(Ent.mk id lo hi)]) (L.drop k) (by rfl) j1 (by rfl) (unhide HS3 _ (SB.two (by assumption))) (by simp <;> omega) (SB.two (by assumption)).size ?_
                        intro v3 n3 i1 i2
                        refine hK.out _ _ (SB.grown (by assumption) hBX (fun j hj => (j1.lt j hj).1) i2) (fun hHeld => ?_)
                        clear hK K
                        try simp only [Act.put, List.setIfInBounds_toArray, List.set_cons_zero, List.set_cons_succ]
                        refine wpAnyH_done (by kernel_rfl) ?_ _
                        show wpList _ _ _ _ _ _
                        have e0 := hHeld.1
                        have g3 := (frozen_below (a := ⟨B, 1, none⟩) hHeld.2.1 hBX.1).trans gx
                        have HN6 := hide hHeld.2.1
                        have hq6n : (L.take k ++ [Ent.mk id lo hi] ++ L.drop k).length = L.length + 1 := by simp only [List.length_append, List.length_take, List.length_drop, List.length_cons, List.length_nil]; omega
                        have HI6 := hide i1
                        rw [hq6n] at i1
                        obtain ⟨q6, cq6, rfl, hq6, hq6l⟩ := i1.form (Nat.succ_pos _)
                        clear hHeld k1 k2 k1n j1 j2 i1 i2
                        go_wp2
                        refine unhide HK1 _ _ ?_
                        go_wp2
                        go_ret
                        exact unhide HEND n3 q6 cq6 (unhide HN6) (unhide HI6) hq6
                      exact AllReadyH.nil
                    exact AllReadyH.nil
                  exact AllReadyH.nil
                exact AllReadyH.nil
              exact AllReadyH.nil
          have HTB := hide TB
          clear TB
          rcases unhide HWI with ⟨hnil, hn⟩ | ⟨ci', hsome, hci, hbW, hcell⟩
          · obtain ⟨rfl, hL0, rfl⟩ : ai = none ∧ L.length = 0 ∧ ci = 0 := by simpa using hnil
            have hkz : k = 0 := by omega
            subst hkz
            have HS1 : Hid (∀ x, Below W.heap.size W x → SrcI x (.slice none 0 0) ((L.map (·.id)).take 0)) := fun x _ => .inl ⟨rfl, by simp⟩
            have HS3 : Hid (∀ x, Below W.heap.size W x → SrcI x (.slice none 0 0) ((L.map (·.id)).drop 0)) := fun x _ => .inl ⟨rfl, by simpa using hn⟩
            rw [hL0] at d0
            have S0 : Hid (SA B 0 (.slice none 0 0) W W.drew) := ⟨d0, below_drew W⟩
            clear hnil HWI hn hL0
            refine wp_region_tail (fun x => x.cell? ⟨B, 0, none⟩ = some (.slice none 0 0) ∧ Below W.heap.size W x) 19 (by kernel_rfl) (by kernel_rfl) (unhide S0) (fun hHeld => ?_)
            refine wpAnyH_take (i := 0) (oi := ?to0_3) (v := ?tv0_3) ?th0_3 (by kernel_rfl) (by kernel_rfl) (by kernel_rfl) ?tq0_3 (Or.inl ⟨?tw0_3, ?ty0_3⟩) (by assumption) ?tr0_3
            case th0_3 => (simp only [List.getElem?_toArray, List.getElem?_cons_zero]; rfl)
            case tq0_3 => exact fun _ _ _ h => h
            case tw0_3 => rfl
            case ty0_3 => (intro w' hSw; (try dsimp only at hSw); go_simp <;> with_reducible rfl)
            try simp only [Act.put, List.setIfInBounds_toArray, List.set_cons_zero, List.set_cons_succ]
            refine wpAnyH_take (i := 2) (oi := ?to2_3) (v := ?tv2_3) ?th2_3 (by kernel_rfl) (by kernel_rfl) (by kernel_rfl) ?tq2_3 (Or.inl ⟨?tw2_3, ?ty2_3⟩) (by assumption) ?tr2_3
            case th2_3 => (simp only [List.getElem?_toArray, List.getElem?_cons_zero, List.getElem?_cons_succ]; rfl)
            case tq2_3 => exact fun _ _ _ h => h
            case tw2_3 => rfl
            case ty2_3 => (intro w' hSw; (try dsimp only at hSw); go_simp <;> with_reducible rfl)
            try simp only [Act.put, List.setIfInBounds_toArray, List.set_cons_zero, List.set_cons_succ]
            refine wpAnyH_take (i := 3) (oi := ?to3_3) (v := ?tv3_3) ?th3_3 (by kernel_rfl) (by kernel_rfl) (by kernel_rfl) ?tq3_3 (Or.inl ⟨?tw3_3, ?ty3_3⟩) (by assumption) ?tr3_3
            case th3_3 => (simp only [List.getElem?_toArray, List.getElem?_cons_zero, List.getElem?_cons_succ]; rfl)
            case tq3_3 => exact fun _ _ _ h => h
            case tw3_3 => rfl
            case ty3_3 => (intro w' hSw; (try dsimp only at hSw); go_simp <;> with_reducible rfl)
            try simp only [Act.put, List.setIfInBounds_toArray, List.set_cons_zero, List.set_cons_succ]
            refine wpAnyH_take (i := 4) (oi := ?to4_3) (v := ?tv4_3) ?th4_3 (by kernel_rfl) (by kernel_rfl) (by kernel_rfl) ?tq4_3 (Or.inl ⟨?tw4_3, ?ty4_3⟩) (by assumption) ?tr4_3
            case th4_3 => (simp only [List.getElem?_toArray, List.getElem?_cons_zero, List.getElem?_cons_succ]; rfl)
            case tq4_3 => exact fun _ _ _ h => h
            case tw4_3 => rfl
            case ty4_3 => (intro w' hSw; (try dsimp only at hSw); go_simp <;> with_reducible rfl)
            try simp only [Act.put, List.setIfInBounds_toArray, List.set_cons_zero, List.set_cons_succ]
            refine wpAnyH_take (i := 5) (oi := ?to5_3) (v := ?tv5_3) ?th5_3 (by kernel_rfl) (by kernel_rfl) (by kernel_rfl) ?tq5_3 (Or.inl ⟨?tw5_3, ?ty5_3⟩) (by assumption) ?tr5_3
            case th5_3 => (simp only [List.getElem?_toArray, List.getElem?_cons_zero, List.getElem?_cons_succ]; rfl)
            case tq5_3 => exact fun _ _ _ h => h
            case tw5_3 => rfl
            case ty5_3 => (intro w' hSw; (try dsimp only at hSw); go_simp <;> with_reducible rfl)
            try simp only [Act.put, List.setIfInBounds_toArray, List.set_cons_zero, List.set_cons_succ]
            refine wpAnyH_take (i := 6) (oi := ?to6_3) (v := ?tv6_3) ?th6_3 (by kernel_rfl) (by kernel_rfl) (by kernel_rfl) ?tq6_3 (Or.inl ⟨?tw6_3, ?ty6_3⟩) (by assumption) ?tr6_3
            case th6_3 => (simp only [List.getElem?_toArray, List.getElem?_cons_zero, List.getElem?_cons_succ]; rfl)
            case tq6_3 => exact fun _ _ _ h => h
            case tw6_3 => rfl
            case ty6_3 => (intro w' hSw; (try dsimp only at hSw); go_simp <;> with_reducible rfl)
            try simp only [Act.put, List.setIfInBounds_toArray, List.set_cons_zero, List.set_cons_succ]
            refine wpAnyH_take (i := 7) (oi := ?to7_3) (v := ?tv7_3) ?th7_3 (by kernel_rfl) (by kernel_rfl) (by kernel_rfl) ?tq7_3 (Or.inl ⟨?tw7_3, ?ty7_3⟩) (by assumption) ?tr7_3
            case th7_3 => (simp only [List.getElem?_toArray, List.getElem?_cons_zero, List.getElem?_cons_succ]; rfl)
            case tq7_3 => exact fun _ _ _ h => h
            case tw7_3 => rfl
            case ty7_3 => (intro w' hSw; (try dsimp only at hSw); go_simp <;> with_reducible rfl)
            try simp only [Act.put, List.setIfInBounds_toArray, List.set_cons_zero, List.set_cons_succ]
            refine wpAnyH_take (i := 9) (oi := ?to9_3) (v := ?tv9_3) ?th9_3 (by kernel_rfl) (by kernel_rfl) (by kernel_rfl) ?tq9_3 (Or.inl ⟨?tw9_3, ?ty9_3⟩) (by assumption) ?tr9_3
            case th9_3 => (simp only [List.getElem?_toArray, List.getElem?_cons_zero, List.getElem?_cons_succ]; rfl)
            case tq9_3 => exact fun _ _ _ h => h
            case tw9_3 => rfl
            case ty9_3 => (intro w' hSw; (try dsimp only at hSw); go_simp <;> with_reducible rfl)
            try simp only [Act.put, List.setIfInBounds_toArray, List.set_cons_zero, List.set_cons_succ]
            refine wpAnyH_take (i := 12) (oi := ?to12_3) (v := ?tv12_3) ?th12_3 (by kernel_rfl) (by kernel_rfl) (by kernel_rfl) ?tq12_3 (Or.inl ⟨?tw12_3, ?ty12_3⟩) (by assumption) ?tr12_3
            case th12_3 => (simp only [List.getElem?_toArray, List.getElem?_cons_zero, List.getElem?_cons_succ]; rfl)
            case tq12_3 => exact fun _ _ _ h => h
            case tw12_3 => rfl
            case ty12_3 => (intro w' hSw; (try dsimp only at hSw); go_simp <;> with_reducible rfl)
            try simp only [Act.put, List.setIfInBounds_toArray, List.set_cons_zero, List.set_cons_succ]
            refine wpAnyH_take (i := 13) (oi := ?to13_3) (v := ?tv13_3) ?th13_3 (by kernel_rfl) (by kernel_rfl) (by kernel_rfl) ?tq13_3 (Or.inl ⟨?tw13_3, ?ty13_3⟩) (by assumption) ?tr13_3
            case th13_3 => (simp only [List.getElem?_toArray, List.getElem?_cons_zero, List.getElem?_cons_succ]; rfl)
            case tq13_3 => exact fun _ _ _ h => h
            case tw13_3 => rfl
            case ty13_3 => (intro w' hSw; (try dsimp only at hSw); go_simp <;> with_reducible rfl)
            try simp only [Act.put, List.setIfInBounds_toArray, List.set_cons_zero, List.set_cons_succ]
            refine wpAnyH_take (i := 14) (oi := ?to14_3) (v := ?tv14_3) ?th14_3 (by kernel_rfl) (by kernel_rfl) (by kernel_rfl) ?tq14_3 (Or.inl ⟨?tw14_3, ?ty14_3⟩) (by assumption) ?tr14_3
            case th14_3 => (simp only [List.getElem?_toArray, List.getElem?_cons_zero, List.getElem?_cons_succ]; rfl)
            case tq14_3 => exact fun _ _ _ h => h
            case tw14_3 => rfl
            case ty14_3 => (intro w' hSw; (try dsimp only at hSw); go_simp <;> with_reducible rfl)
            try simp only [Act.put, List.setIfInBounds_toArray, List.set_cons_zero, List.set_cons_succ]
            refine wpAnyH_take (i := 15) (oi := ?to15_3) (v := ?tv15_3) ?th15_3 (by kernel_rfl) (by kernel_rfl) (by kernel_rfl) ?tq15_3 (Or.inl ⟨?tw15_3, ?ty15_3⟩) (by assumption) ?tr15_3
            case th15_3 => (simp only [List.getElem?_toArray, List.getElem?_cons_zero, List.getElem?_cons_succ]; rfl)
            case tq15_3 => exact fun _ _ _ h => h
            case tw15_3 => rfl
            case ty15_3 => (intro w' hSw; (try dsimp only at hSw); go_simp <;> with_reducible rfl)
            try simp only [Act.put, List.setIfInBounds_toArray, List.set_cons_zero, List.set_cons_succ]
            refine wpAnyH_take (i := 16) (oi := ?to16_3) (v := ?tv16_3) ?th16_3 (by kernel_rfl) (by kernel_rfl) (by kernel_rfl) ?tq16_3 (Or.inl ⟨?tw16_3, ?ty16_3⟩) (by assumption) ?tr16_3
            case th16_3 => (simp only [List.getElem?_toArray, List.getElem?_cons_zero, List.getElem?_cons_succ]; rfl)
            case tq16_3 => exact fun _ _ _ h => h
            case tw16_3 => rfl
            case ty16_3 => (intro w' hSw; (try dsimp only at hSw); go_simp <;> with_reducible rfl)
            try simp only [Act.put, List.setIfInBounds_toArray, List.set_cons_zero, List.set_cons_succ]
            refine wpAnyH_take (i := 17) (oi := ?to17_3) (v := ?tv17_3) ?th17_3 (by kernel_rfl) (by kernel_rfl) (by kernel_rfl) ?tq17_3 (Or.inl ⟨?tw17_3, ?ty17_3⟩) (by assumption) ?tr17_3
            case th17_3 => (simp only [List.getElem?_toArray, List.getElem?_cons_zero, List.getElem?_cons_succ]; rfl)
            case tq17_3 => exact fun _ _ _ h => h
            case tw17_3 => rfl
            case ty17_3 => (intro w' hSw; (try dsimp only at hSw); go_simp <;> with_reducible rfl)
            try simp only [Act.put, List.setIfInBounds_toArray, List.set_cons_zero, List.set_cons_succ]
            refine wpAnyH_ready (rs := [1, 10]) (by kernel_rfl) (by simp) ?_
            refine AllReadyH.cons (o := ?bo1_29) ?bh1_29 (fun K hK => ?bs1_29) ?bm1_29
            case bh1_29 => (simp only [List.getElem?_toArray, List.getElem?_cons_zero, List.getElem?_cons_succ]; rfl)
            case bs1_29 =>
              go_simp
              refine hK.out _ _ (SA.carry (by assumption) (below_box _ _)) (fun hHeld => ?_)
              clear hK K
              try simp only [Act.put, List.setIfInBounds_toArray, List.set_cons_zero, List.set_cons_succ]
              refine wpAnyH_ready (rs := [8, 10]) (by kernel_rfl) (by simp) ?_
              refine AllReadyH.cons (o := ?bo8_30) ?bh8_30 (fun K hK => ?bs8_30) ?bm8_30
              case bh8_30 => (simp only [List.getElem?_toArray, List.getElem?_cons_zero, List.getElem?_cons_succ]; rfl)
              case bs8_30 =>
                refine step_appI _ (by rfl) (.tmp 29) (.tmp 35) (by rfl) W.heap.size _ _ [] ((L.map (·.id)).take 0) (by rfl) (own_nil _ _ _ _ _ (Nat.le_refl _) (heap_alloc_new _ _)) (by rfl) (unhide HS1 _ (SA.two (by assumption))) (by simp <;> omega) (SA.two (by assumption)).size ?_
                intro v1 n1 k1 k2
                have k1n : n1.ownsRow W.heap.size 3 1 v1 ((L.map (·.id)).take 0).length (((L.map (·.id)).take 0).map (Value.int .i64)) := by simpa using k1
                refine hK.out _ _ (SA.grown (by assumption) hBW (fun j hj => by simp [Value.ownBlock] at hj; omega) k2) (fun hHeld => ?_)
                clear hK K
                try simp only [Act.put, List.setIfInBounds_toArray, List.set_cons_zero, List.set_cons_succ]
                refine wpAnyH_ready (rs := [10]) (by kernel_rfl) (by simp) ?_
                refine AllReadyH.cons (o := ?bo10_31) ?bh10_31 (fun K hK => ?bs10_31) ?bm10_31
                case bh10_31 => (simp only [List.getElem?_toArray, List.getElem?_cons_zero, List.getElem?_cons_succ]; rfl)
                case bs10_31 =>
                  go_simp
                  refine hK.out _ _ (SA.carry (by assumption) (below_box _ _)) (fun hHeld => ?_)
                  clear hK K
                  try simp only [Act.put, List.setIfInBounds_toArray, List.set_cons_zero, List.set_cons_succ]
                  refine wpAnyH_ready (rs := [11]) (by kernel_rfl) (by simp) ?_
                  refine AllReadyH.cons (o := ?bo11_32) ?bh11_32 (fun K hK => ?bs11_32) ?bm11_32
                  case bh11_32 => (simp only [List.getElem?_toArray, List.getElem?_cons_zero, List.getElem?_cons_succ]; rfl)
                  case bs11_32 =>
                    refine step_appI _ (by rfl) (.tmp 36) (.tmp 38) (by rfl) W.heap.size _ _ ((L.map (·.id)).take 0) [id] (by rfl) (k1n.alloc _) (by rfl) (src_one (by simp)) (by simp <;> omega) (SA.two (by assumption)).size ?_
                    intro v2 n2 j1 j2
                    refine hK.out _ _ (SA.grown (by assumption) hBW (fun j hj => (k1n.lt j hj).1) j2) (fun hHeld => ?_)
                    clear hK K
                    try simp only [Act.put, List.setIfInBounds_toArray, List.set_cons_zero, List.set_cons_succ]
                    refine wpAnyH_ready (rs := [18]) (by kernel_rfl) (by simp) ?_
                    refine AllReadyH.cons (o := ?bo18_33) ?bh18_33 (fun K hK => ?bs18_33) ?bm18_33
                    case bh18_33 => (simp only [List.getElem?_toArray, List.getElem?_cons_zero, List.getElem?_cons_succ]; rfl)
                    case bs18_33 =>
                      refine step_appI _ (by rfl) (.tmp 39) (.tmp 45) (by rfl) W.heap.size _ _ (((L.map (·.id)).take 0) ++ [id]) ((L.map (·.id)).drop 0) (by rfl) j1 (by rfl) (unhide HS3 _ (SA.two (by assumption))) (by simp <;> omega) (SA.two (by assumption)).size ?_
                      intro v3 n3 i1 i2
                      refine hK.out _ _ (SA.grown (by assumption) hBW (fun j hj => (j1.lt j hj).1) i2) (fun hHeld => ?_)
                      clear hK K
                      try simp only [Act.put, List.setIfInBounds_toArray, List.set_cons_zero, List.set_cons_succ]
                      refine wpAnyH_done (by kernel_rfl) ?_ _
                      show wpList _ _ _ _ _ _
                      have e0 := hHeld.1
                      have g3 := (frozen_below (a := ⟨B, 0, none⟩) hHeld.2 hBW).trans g0
                      have HN3 := hide hHeld.2
                      have hq3n : ((L.map (·.id)).take 0 ++ [id] ++ (L.map (·.id)).drop 0).length = L.length + 1 := by simp only [List.length_append, List.length_take, List.length_drop, List.length_map, List.length_cons, List.length_nil]; omega
                      have HI3 := hide i1
                      rw [hq3n] at i1
                      obtain ⟨q3, cq3, rfl, hq3, hq3l⟩ := i1.form (Nat.succ_pos _)
                      skip
                      clear hHeld k1 k2 k1n j1 j2 i1 i2
                      go_wp2
                      exact unhide HTB _ _ _ _ _ _ _ _ _ _ _ _ _ _ _ _ _ _ _ _ _ _ _ _ _ _ _ _ _ _ _ _ _ _ _ _ _ _ _ _ _ _ _ _ _ _ _ _ _ _ _ _ _ _ _ _ _ _ _ _ _ _ _ _ _ n3 q3 cq3 (unhide HN3) (unhide HI3) hq3
                    exact AllReadyH.nil
                  exact AllReadyH.nil
                exact AllReadyH.nil
              refine AllReadyH.cons (o := ?bo10_34) ?bh10_34 (fun K hK => ?bs10_34) ?bm10_34
              case bh10_34 => (simp only [List.getElem?_toArray, List.getElem?_cons_zero, List.getElem?_cons_succ]; rfl)
              case bs10_34 =>
                go_simp
                refine hK.out _ _ (SA.carry (by assumption) (below_box _ _)) (fun hHeld => ?_)
                clear hK K
                try simp only [Act.put, List.setIfInBounds_toArray, List.set_cons_zero, List.set_cons_succ]
                refine wpAnyH_ready (rs := [8]) (by kernel_rfl) (by simp) ?_
                refine AllReadyH.cons (o := ?bo8_35) ?bh8_35 (fun K hK => ?bs8_35) ?bm8_35
                case bh8_35 => (simp only [List.getElem?_toArray, List.getElem?_cons_zero, List.getElem?_cons_succ]; rfl)
                case bs8_35 =>
                  refine step_appI _ (by rfl) (.tmp 29) (.tmp 35) (by rfl) W.heap.size _ _ [] ((L.map (·.id)).take 0) (by rfl) (own_nil _ _ _ _ _ (Nat.le_refl _) (((below_box _ _).block _ (by simp)).trans (heap_alloc_new _ _))) (by rfl) (unhide HS1 _ (SA.two (by assumption))) (by simp <;> omega) (SA.two (by assumption)).size ?_
                  intro v1 n1 k1 k2
                  have k1n : n1.ownsRow W.heap.size 3 1 v1 ((L.map (·.id)).take 0).length (((L.map (·.id)).take 0).map (Value.int .i64)) := by simpa using k1
                  refine hK.out _ _ (SA.grown (by assumption) hBW (fun j hj => by simp [Value.ownBlock] at hj; omega) k2) (fun hHeld => ?_)
                  clear hK K
                  try simp only [Act.put, List.setIfInBounds_toArray, List.set_cons_zero, List.set_cons_succ]
                  refine wpAnyH_ready (rs := [11]) (by kernel_rfl) (by simp) ?_
                  refine AllReadyH.cons (o := ?bo11_36) ?bh11_36 (fun K hK => ?bs11_36) ?bm11_36
                  case bh11_36 => (simp only [List.getElem?_toArray, List.getElem?_cons_zero, List.getElem?_cons_succ]; rfl)
                  case bs11_36 =>
                    refine step_appI _ (by rfl) (.tmp 36) (.tmp 38) (by rfl) W.heap.size _ _ ((L.map (·.id)).take 0) [id] (by rfl) (k1n) (by rfl) (src_one ((k2.cell_far ⟨W.heap.size + 1, 0, none⟩ (by simp <;> omega) (by simp [Value.ownBlock])).trans (by simp))) (by simp <;> omega) (SA.two (by assumption)).size ?_
                    intro v2 n2 j1 j2
                    refine hK.out _ _ (SA.grown (by assumption) hBW (fun j hj => (k1n.lt j hj).1) j2) (fun hHeld => ?_)
                    clear hK K
                    try simp only [Act.put, List.setIfInBounds_toArray, List.set_cons_zero, List.set_cons_succ]
                    refine wpAnyH_ready (rs := [18]) (by kernel_rfl) (by simp) ?_
                    refine AllReadyH.cons (o := ?bo18_37) ?bh18_37 (fun K hK => ?bs18_37) ?bm18_37
                    case bh18_37 => (simp only [List.getElem?_toArray, List.getElem?_cons_zero, List.getElem?_cons_succ]; rfl)
                    case bs18_37 =>
                      refine step_appI _ (by rfl) (.tmp 39) (.tmp 45) (by rfl) W.heap.size _ _ (((L.map (·.id)).take 0) ++ [id]) ((L.map (·.id)).drop 0) (by rfl) j1 (by rfl) (unhide HS3 _ (SA.two (by assumption))) (by simp <;> omega) (SA.two (by assumption)).size ?_
                      intro v3 n3 i1 i2
                      refine hK.out _ _ (SA.grown (by assumption) hBW (fun j hj => (j1.lt j hj).1) i2) (fun hHeld => ?_)
                      clear hK K
                      try simp only [Act.put, List.setIfInBounds_toArray, List.set_cons_zero, List.set_cons_succ]
                      refine wpAnyH_done (by kernel_rfl) ?_ _
                      show wpList _ _ _ _ _ _
                      have e0 := hHeld.1
                      have g3 := (frozen_below (a := ⟨B, 0, none⟩) hHeld.2 hBW).trans g0
                      have HN3 := hide hHeld.2
                      have hq3n : ((L.map (·.id)).take 0 ++ [id] ++ (L.map (·.id)).drop 0).length = L.length + 1 := by simp only [List.length_append, List.length_take, List.length_drop, List.length_map, List.length_cons, List.length_nil]; omega
                      have HI3 := hide i1
                      rw [hq3n] at i1
                      obtain ⟨q3, cq3, rfl, hq3, hq3l⟩ := i1.form (Nat.succ_pos _)
                      skip
                      clear hHeld k1 k2 k1n j1 j2 i1 i2
                      go_wp2
                      exact unhide HTB _ _ _ _ _ _ _ _ _ _ _ _ _ _ _ _ _ _ _ _ _ _ _ _ _ _ _ _ _ _ _ _ _ _ _ _ _ _ _ _ _ _ _ _ _ _ _ _ _ _ _ _ _ _ _ _ _ _ _ _ _ _ _ _ _ n3 q3 cq3 (unhide HN3) (unhide HI3) hq3
                    exact AllReadyH.nil
                  exact AllReadyH.nil
                exact AllReadyH.nil
              exact AllReadyH.nil
            refine AllReadyH.cons (o := ?bo10_38) ?bh10_38 (fun K hK => ?bs10_38) ?bm10_38
            case bh10_38 => (simp only [List.getElem?_toArray, List.getElem?_cons_zero, List.getElem?_cons_succ]; rfl)
            case bs10_38 =>
              go_simp
              refine hK.out _ _ (SA.carry (by assumption) (below_box _ _)) (fun hHeld => ?_)
              clear hK K
              try simp only [Act.put, List.setIfInBounds_toArray, List.set_cons_zero, List.set_cons_succ]
              refine wpAnyH_ready (rs := [1]) (by kernel_rfl) (by simp) ?_
              refine AllReadyH.cons (o := ?bo1_39) ?bh1_39 (fun K hK => ?bs1_39) ?bm1_39
              case bh1_39 => (simp only [List.getElem?_toArray, List.getElem?_cons_zero, List.getElem?_cons_succ]; rfl)
              case bs1_39 =>
                go_simp
                refine hK.out _ _ (SA.carry (by assumption) (below_box _ _)) (fun hHeld => ?_)
                clear hK K
                try simp only [Act.put, List.setIfInBounds_toArray, List.set_cons_zero, List.set_cons_succ]
                refine wpAnyH_ready (rs := [8]) (by kernel_rfl) (by simp) ?_
                refine AllReadyH.cons (o := ?bo8_40) ?bh8_40 (fun K hK => ?bs8_40) ?bm8_40
                case bh8_40 => (simp only [List.getElem?_toArray, List.getElem?_cons_zero, List.getElem?_cons_succ]; rfl)
                case bs8_40 =>
                  refine step_appI _ (by rfl) (.tmp 29) (.tmp 35) (by rfl) W.heap.size _ _ [] ((L.map (·.id)).take 0) (by rfl) (own_nil _ _ (W.heap.size + 1) _ _ (by omega) (by have := heap_alloc_new (W.alloc (.cells #[.int .i64 id] 3)) (.cells #[] 3); rw [World.size_alloc] at this; exact this)) (by rfl) (unhide HS1 _ (SA.two (by assumption))) (by simp <;> omega) (SA.two (by assumption)).size ?_
                  intro v1 n1 k1 k2
                  have k1n : n1.ownsRow W.heap.size 3 1 v1 ((L.map (·.id)).take 0).length (((L.map (·.id)).take 0).map (Value.int .i64)) := by simpa using k1
                  refine hK.out _ _ (SA.grown (by assumption) hBW (fun j hj => by simp [Value.ownBlock] at hj; omega) k2) (fun hHeld => ?_)
                  clear hK K
                  try simp only [Act.put, List.setIfInBounds_toArray, List.set_cons_zero, List.set_cons_succ]
                  refine wpAnyH_ready (rs := [11]) (by kernel_rfl) (by simp) ?_
                  refine AllReadyH.cons (o := ?bo11_41) ?bh11_41 (fun K hK => ?bs11_41) ?bm11_41
                  case bh11_41 => (simp only [List.getElem?_toArray, List.getElem?_cons_zero, List.getElem?_cons_succ]; rfl)
                  case bs11_41 =>
                    refine step_appI _ (by rfl) (.tmp 36) (.tmp 38) (by rfl) W.heap.size _ _ ((L.map (·.id)).take 0) [id] (by rfl) (k1n) (by rfl) (src_one ((k2.cell_far ⟨W.heap.size, 0, none⟩ (by simp <;> omega) (by simp [Value.ownBlock])).trans (by simp))) (by simp <;> omega) (SA.two (by assumption)).size ?_
                    intro v2 n2 j1 j2
                    refine hK.out _ _ (SA.grown (by assumption) hBW (fun j hj => (k1n.lt j hj).1) j2) (fun hHeld => ?_)
                    clear hK K
                    try simp only [Act.put, List.setIfInBounds_toArray, List.set_cons_zero, List.set_cons_succ]
                    refine wpAnyH_ready (rs := [18]) (by kernel_rfl) (by simp) ?_
                    refine AllReadyH.cons (o := ?bo18_42) ?bh18_42 (fun K hK => ?bs18_42) ?bm18_42
                    case bh18_42 => (simp only [List.getElem?_toArray, List.getElem?_cons_zero, List.getElem?_cons_succ]; rfl)
                    case bs18_42 =>
                      refine step_appI _ (by rfl) (.tmp 39) (.tmp 45) (by rfl) W.heap.size _ _ (((L.map (·.id)).take 0) ++ [id]) ((L.map (·.id)).drop 0) (by rfl) j1 (by rfl) (unhide HS3 _ (SA.two (by assumption))) (by simp <;> omega) (SA.two (by assumption)).size ?_
                      intro v3 n3 i1 i2
                      refine hK.out _ _ (SA.grown (by assumption) hBW (fun j hj => (j1.lt j hj).1) i2) (fun hHeld => ?_)
                      clear hK K
                      try simp only [Act.put, List.setIfInBounds_toArray, List.set_cons_zero, List.set_cons_succ]
                      refine wpAnyH_done (by kernel_rfl) ?_ _
                      show wpList _ _ _ _ _ _
                      have e0 := hHeld.1
                      have g3 := (frozen_below (a := ⟨B, 0, none⟩) hHeld.2 hBW).trans g0
                      have HN3 := hide hHeld.2
                      have hq3n : ((L.map (·.id)).take 0 ++ [id] ++ (L.map (·.id)).drop 0).length = L.length + 1 := by simp only [List.length_append, List.length_take, List.length_drop, List.length_map, List.length_cons, List.length_nil]; omega
                      have HI3 := hide i1
                      rw [hq3n] at i1
                      obtain ⟨q3, cq3, rfl, hq3, hq3l⟩ := i1.form (Nat.succ_pos _)
                      skip
                      clear hHeld k1 k2 k1n j1 j2 i1 i2
                      go_wp2
                      exact unhide HTB _ _ _ _ _ _ _ _ _ _ _ _ _ _ _ _ _ _ _ _ _ _ _ _ _ _ _ _ _ _ _ _ _ _ _ _ _ _ _ _ _ _ _ _ _ _ _ _ _ _ _ _ _ _ _ _ _ _ _ _ _ _ _ _ _ n3 q3 cq3 (unhide HN3) (unhide HI3) hq3
                    exact AllReadyH.nil
                  exact AllReadyH.nil
                exact AllReadyH.nil
              exact AllReadyH.nil
            exact AllReadyH.nil
          · obtain ⟨rfl, rfl⟩ : ai = some ⟨bi, 0, none⟩ ∧ ci = ci' := by simpa using hsome
            rw [List.length_map] at hci
            have hlm : (L.map (·.id)).length = L.length := List.length_map _
            have HS1 : Hid (∀ x, Below W.heap.size W x → SrcI x (.slice (some ⟨bi, 0, none⟩) k ci) ((L.map (·.id)).take k)) := fun x hb => src_take hcell hbW (by rw [hlm]; omega) hb
            have HS3 : Hid (∀ x, Below W.heap.size W x → SrcI x (.slice (if ci = k then some ⟨bi, 0, none⟩ else some ⟨bi, k, none⟩) (L.length - k) (ci - k)) ((L.map (·.id)).drop k)) := fun x hb => src_drop hlm hcell hbW hk hci hb
            have hk2 : (k : Int) ≤ (ci : Int) := by omega
            have hk3 : (L.length : Int) ≤ (ci : Int) := by omega
            have S0 : Hid (SA B 0 (.slice (some ⟨bi, 0, none⟩) L.length ci) W W.drew) := ⟨d0, below_drew W⟩
            clear hcell hsome HWI
            refine wp_region_tail (fun x => x.cell? ⟨B, 0, none⟩ = some (.slice (some ⟨bi, 0, none⟩) L.length ci) ∧ Below W.heap.size W x) 19 (by kernel_rfl) (by kernel_rfl) (unhide S0) (fun hHeld => ?_)
            refine wpAnyH_take (i := 0) (oi := ?to0_4) (v := ?tv0_4) ?th0_4 (by kernel_rfl) (by kernel_rfl) (by kernel_rfl) ?tq0_4 (Or.inl ⟨?tw0_4, ?ty0_4⟩) (by assumption) ?tr0_4
            case th0_4 => (simp only [List.getElem?_toArray, List.getElem?_cons_zero]; rfl)
            case tq0_4 => exact fun _ _ _ h => h
            case tw0_4 => rfl
            case ty0_4 => (intro w' hSw; (try dsimp only at hSw); go_simp <;> with_reducible rfl)
            try simp only [Act.put, List.setIfInBounds_toArray, List.set_cons_zero, List.set_cons_succ]
            refine wpAnyH_take (i := 2) (oi := ?to2_4) (v := ?tv2_4) ?th2_4 (by kernel_rfl) (by kernel_rfl) (by kernel_rfl) ?tq2_4 (Or.inl ⟨?tw2_4, ?ty2_4⟩) (by assumption) ?tr2_4
            case th2_4 => (simp only [List.getElem?_toArray, List.getElem?_cons_zero, List.getElem?_cons_succ]; rfl)
            case tq2_4 => exact fun _ _ _ h => h
            case tw2_4 => rfl
            case ty2_4 => (intro w' hSw; (try dsimp only at hSw); go_simp <;> with_reducible rfl)
            try simp only [Act.put, List.setIfInBounds_toArray, List.set_cons_zero, List.set_cons_succ]
            refine wpAnyH_take (i := 3) (oi := ?to3_4) (v := ?tv3_4) ?th3_4 (by kernel_rfl) (by kernel_rfl) (by kernel_rfl) ?tq3_4 (Or.inl ⟨?tw3_4, ?ty3_4⟩) (by assumption) ?tr3_4
            case th3_4 => (simp only [List.getElem?_toArray, List.getElem?_cons_zero, List.getElem?_cons_succ]; rfl)
            case tq3_4 => exact fun _ _ _ h => h
            case tw3_4 => rfl
            case ty3_4 => (intro w' hSw; (try dsimp only at hSw); go_simp <;> with_reducible rfl)
            try simp only [Act.put, List.setIfInBounds_toArray, List.set_cons_zero, List.set_cons_succ]
            refine wpAnyH_take (i := 4) (oi := ?to4_4) (v := ?tv4_4) ?th4_4 (by kernel_rfl) (by kernel_rfl) (by kernel_rfl) ?tq4_4 (Or.inl ⟨?tw4_4, ?ty4_4⟩) (by assumption) ?tr4_4
            case th4_4 => (simp only [List.getElem?_toArray, List.getElem?_cons_zero, List.getElem?_cons_succ]; rfl)
            case tq4_4 => exact fun _ _ _ h => h
            case tw4_4 => rfl
            case ty4_4 => (intro w' hSw; (try dsimp only at hSw); go_simp <;> with_reducible rfl)
            try simp only [Act.put, List.setIfInBounds_toArray, List.set_cons_zero, List.set_cons_succ]
            refine wpAnyH_take (i := 5) (oi := ?to5_4) (v := ?tv5_4) ?th5_4 (by kernel_rfl) (by kernel_rfl) (by kernel_rfl) ?tq5_4 (Or.inl ⟨?tw5_4, ?ty5_4⟩) (by assumption) ?tr5_4
            case th5_4 => (simp only [List.getElem?_toArray, List.getElem?_cons_zero, List.getElem?_cons_succ]; rfl)
            case tq5_4 => exact fun _ _ _ h => h
            case tw5_4 => rfl
            case ty5_4 => (intro w' hSw; (try dsimp only at hSw); go_simp <;> with_reducible rfl)
            try simp only [Act.put, List.setIfInBounds_toArray, List.set_cons_zero, List.set_cons_succ]
            refine wpAnyH_take (i := 6) (oi := ?to6_4) (v := ?tv6_4) ?th6_4 (by kernel_rfl) (by kernel_rfl) (by kernel_rfl) ?tq6_4 (Or.inl ⟨?tw6_4, ?ty6_4⟩) (by assumption) ?tr6_4
            case th6_4 => (simp only [List.getElem?_toArray, List.getElem?_cons_zero, List.getElem?_cons_succ]; rfl)
            case tq6_4 => exact fun _ _ _ h => h
            case tw6_4 => rfl
            case ty6_4 => (intro w' hSw; (try dsimp only at hSw); go_simp <;> with_reducible rfl)
            try simp only [Act.put, List.setIfInBounds_toArray, List.set_cons_zero, List.set_cons_succ]
            refine wpAnyH_take (i := 7) (oi := ?to7_4) (v := ?tv7_4) ?th7_4 (by kernel_rfl) (by kernel_rfl) (by kernel_rfl) ?tq7_4 (Or.inl ⟨?tw7_4, ?ty7_4⟩) (by assumption) ?tr7_4
            case th7_4 => (simp only [List.getElem?_toArray, List.getElem?_cons_zero, List.getElem?_cons_succ]; rfl)
            case tq7_4 => exact fun _ _ _ h => h
            case tw7_4 => rfl
            case ty7_4 => (intro w' hSw; (try dsimp only at hSw); go_simp <;> with_reducible rfl)
            try simp only [Act.put, List.setIfInBounds_toArray, List.set_cons_zero, List.set_cons_succ]
            refine wpAnyH_take (i := 9) (oi := ?to9_4) (v := ?tv9_4) ?th9_4 (by kernel_rfl) (by kernel_rfl) (by kernel_rfl) ?tq9_4 (Or.inl ⟨?tw9_4, ?ty9_4⟩) (by assumption) ?tr9_4
            case th9_4 => (simp only [List.getElem?_toArray, List.getElem?_cons_zero, List.getElem?_cons_succ]; rfl)
            case tq9_4 => exact fun _ _ _ h => h
            case tw9_4 => rfl
            case ty9_4 => (intro w' hSw; (try dsimp only at hSw); go_simp <;> with_reducible rfl)
            try simp only [Act.put, List.setIfInBounds_toArray, List.set_cons_zero, List.set_cons_succ]
            refine wpAnyH_take (i := 12) (oi := ?to12_4) (v := ?tv12_4) ?th12_4 (by kernel_rfl) (by kernel_rfl) (by kernel_rfl) ?tq12_4 (Or.inl ⟨?tw12_4, ?ty12_4⟩) (by assumption) ?tr12_4
            case th12_4 => (simp only [List.getElem?_toArray, List.getElem?_cons_zero, List.getElem?_cons_succ]; rfl)
            case tq12_4 => exact fun _ _ _ h => h
            case tw12_4 => rfl
            case ty12_4 => (intro w' hSw; (try dsimp only at hSw); go_simp <;> with_reducible rfl)
            try simp only [Act.put, List.setIfInBounds_toArray, List.set_cons_zero, List.set_cons_succ]
            refine wpAnyH_take (i := 13) (oi := ?to13_4) (v := ?tv13_4) ?th13_4 (by kernel_rfl) (by kernel_rfl) (by kernel_rfl) ?tq13_4 (Or.inl ⟨?tw13_4, ?ty13_4⟩) (by assumption) ?tr13_4
            case th13_4 => (simp only [List.getElem?_toArray, List.getElem?_cons_zero, List.getElem?_cons_succ]; rfl)
            case tq13_4 => exact fun _ _ _ h => h
            case tw13_4 => rfl
            case ty13_4 => (intro w' hSw; (try dsimp only at hSw); go_simp <;> with_reducible rfl)
            try simp only [Act.put, List.setIfInBounds_toArray, List.set_cons_zero, List.set_cons_succ]
            refine wpAnyH_take (i := 14) (oi := ?to14_4) (v := ?tv14_4) ?th14_4 (by kernel_rfl) (by kernel_rfl) (by kernel_rfl) ?tq14_4 (Or.inl ⟨?tw14_4, ?ty14_4⟩) (by assumption) ?tr14_4
            case th14_4 => (simp only [List.getElem?_toArray, List.getElem?_cons_zero, List.getElem?_cons_succ]; rfl)
            case tq14_4 => exact fun _ _ _ h => h
            case tw14_4 => rfl
            case ty14_4 => (intro w' hSw; (try dsimp only at hSw); go_simp <;> with_reducible rfl)
            try simp only [Act.put, List.setIfInBounds_toArray, List.set_cons_zero, List.set_cons_succ]
            refine wpAnyH_take (i := 15) (oi := ?to15_4) (v := ?tv15_4) ?th15_4 (by kernel_rfl) (by kernel_rfl) (by kernel_rfl) ?tq15_4 (Or.inl ⟨?tw15_4, ?ty15_4⟩) (by assumption) ?tr15_4
            case th15_4 => (simp only [List.getElem?_toArray, List.getElem?_cons_zero, List.getElem?_cons_succ]; rfl)
            case tq15_4 => exact fun _ _ _ h => h
            case tw15_4 => rfl
            case ty15_4 => (intro w' hSw; (try dsimp only at hSw); go_simp <;> with_reducible rfl)
            try simp only [Act.put, List.setIfInBounds_toArray, List.set_cons_zero, List.set_cons_succ]
            refine wpAnyH_take (i := 16) (oi := ?to16_4) (v := ?tv16_4) ?th16_4 (by kernel_rfl) (by kernel_rfl) (by kernel_rfl) ?tq16_4 (Or.inl ⟨?tw16_4, ?ty16_4⟩) (by assumption) ?tr16_4
            case th16_4 => (simp only [List.getElem?_toArray, List.getElem?_cons_zero, List.getElem?_cons_succ]; rfl)
            case tq16_4 => exact fun _ _ _ h => h
            case tw16_4 => rfl
            case ty16_4 => (intro w' hSw; (try dsimp only at hSw); go_simp <;> with_reducible rfl)
            try simp only [Act.put, List.setIfInBounds_toArray, List.set_cons_zero, List.set_cons_succ]
            refine wpAnyH_take (i := 17) (oi := ?to17_4) (v := ?tv17_4) ?th17_4 (by kernel_rfl) (by kernel_rfl) (by kernel_rfl) ?tq17_4 (Or.inl ⟨?tw17_4, ?ty17_4⟩) (by assumption) ?tr17_4
            case th17_4 => (simp only [List.getElem?_toArray, List.getElem?_cons_zero, List.getElem?_cons_succ]; rfl)
            case tq17_4 => exact fun _ _ _ h => h
            case tw17_4 => rfl
            case ty17_4 => (intro w' hSw; (try dsimp only at hSw); go_simp <;> with_reducible rfl)
            try simp only [Act.put, List.setIfInBounds_toArray, List.set_cons_zero, List.set_cons_succ]
            generalize (Value.slice (if ci = k then (some ⟨bi, 0, none⟩ : Option Addr) else some ⟨bi, k, none⟩) (L.length - k) (ci - k)) = dv at HS3 ⊢
            refine wpAnyH_ready (rs := [1, 10]) (by kernel_rfl) (by simp) ?_
            refine AllReadyH.cons (o := ?bo1_43) ?bh1_43 (fun K hK => ?bs1_43) ?bm1_43
            case bh1_43 => (simp only [List.getElem?_toArray, List.getElem?_cons_zero, List.getElem?_cons_succ]; rfl)
            case bs1_43 =>
              go_simp
              refine hK.out _ _ (SA.carry (by assumption) (below_box _ _)) (fun hHeld => ?_)
              clear hK K
              try simp only [Act.put, List.setIfInBounds_toArray, List.set_cons_zero, List.set_cons_succ]
              refine wpAnyH_ready (rs := [8, 10]) (by kernel_rfl) (by simp) ?_
              refine AllReadyH.cons (o := ?bo8_44) ?bh8_44 (fun K hK => ?bs8_44) ?bm8_44
              case bh8_44 => (simp only [List.getElem?_toArray, List.getElem?_cons_zero, List.getElem?_cons_succ]; rfl)
              case bs8_44 =>
                refine step_appI _ (by rfl) (.tmp 29) (.tmp 35) (by rfl) W.heap.size _ _ [] ((L.map (·.id)).take k) (by rfl) (own_nil _ _ _ _ _ (Nat.le_refl _) (heap_alloc_new _ _)) (by rfl) (unhide HS1 _ (SA.two (by assumption))) (by simp <;> omega) (SA.two (by assumption)).size ?_
                intro v1 n1 k1 k2
                have k1n : n1.ownsRow W.heap.size 3 1 v1 ((L.map (·.id)).take k).length (((L.map (·.id)).take k).map (Value.int .i64)) := by simpa using k1
                refine hK.out _ _ (SA.grown (by assumption) hBW (fun j hj => by simp [Value.ownBlock] at hj; omega) k2) (fun hHeld => ?_)
                clear hK K
                try simp only [Act.put, List.setIfInBounds_toArray, List.set_cons_zero, List.set_cons_succ]
                refine wpAnyH_ready (rs := [10]) (by kernel_rfl) (by simp) ?_
                refine AllReadyH.cons (o := ?bo10_45) ?bh10_45 (fun K hK => ?bs10_45) ?bm10_45
                case bh10_45 => (simp only [List.getElem?_toArray, List.getElem?_cons_zero, List.getElem?_cons_succ]; rfl)
                case bs10_45 =>
                  go_simp
                  refine hK.out _ _ (SA.carry (by assumption) (below_box _ _)) (fun hHeld => ?_)
                  clear hK K
                  try simp only [Act.put, List.setIfInBounds_toArray, List.set_cons_zero, List.set_cons_succ]
                  refine wpAnyH_ready (rs := [11]) (by kernel_rfl) (by simp) ?_
                  refine AllReadyH.cons (o := ?bo11_46) ?bh11_46 (fun K hK => ?bs11_46) ?bm11_46
                  case bh11_46 => (simp only [List.getElem?_toArray, List.getElem?_cons_zero, List.getElem?_cons_succ]; rfl)
                  case bs11_46 =>
                    refine step_appI _ (by rfl) (.tmp 36) (.tmp 38) (by rfl) W.heap.size _ _ ((L.map (·.id)).take k) [id] (by rfl) (k1n.alloc _) (by rfl) (src_one (by simp)) (by simp <;> omega) (SA.two (by assumption)).size ?_
                    intro v2 n2 j1 j2
                    refine hK.out _ _ (SA.grown (by assumption) hBW (fun j hj => (k1n.lt j hj).1) j2) (fun hHeld => ?_)
                    clear hK K
                    try simp only [Act.put, List.setIfInBounds_toArray, List.set_cons_zero, List.set_cons_succ]
                    refine wpAnyH_ready (rs := [18]) (by kernel_rfl) (by simp) ?_
                    refine AllReadyH.cons (o := ?bo18_47) ?bh18_47 (fun K hK => ?bs18_47) ?bm18_47
                    case bh18_47 => (simp only [List.getElem?_toArray, List.getElem?_cons_zero, List.getElem?_cons_succ]; rfl)
                    case bs18_47 =>
                      refine step_appI _ (by rfl) (.tmp 39) (.tmp 45) (by rfl) W.heap.size _ _ (((L.map (·.id)).take k) ++ [id]) ((L.map (·.id)).drop k) (by rfl) j1 (by rfl) (unhide HS3 _ (SA.two (by assumption))) (by simp <;> omega) (SA.two (by assumption)).size ?_
                      intro v3 n3 i1 i2
                      refine hK.out _ _ (SA.grown (by assumption) hBW (fun j hj => (j1.lt j hj).1) i2) (fun hHeld => ?_)
                      clear hK K
                      try simp only [Act.put, List.setIfInBounds_toArray, List.set_cons_zero, List.set_cons_succ]
                      refine wpAnyH_done (by kernel_rfl) ?_ _
                      show wpList _ _ _ _ _ _
                      have e0 := hHeld.1
                      have g3 := (frozen_below (a := ⟨B, 0, none⟩) hHeld.2 hBW).trans g0
                      have HN3 := hide hHeld.2
                      have hq3n : ((L.map (·.id)).take k ++ [id] ++ (L.map (·.id)).drop k).length = L.length + 1 := by simp only [List.length_append, List.length_take, List.length_drop, List.length_map, List.length_cons, List.length_nil]; omega
                      have HI3 := hide i1
                      rw [hq3n] at i1
                      obtain ⟨q3, cq3, rfl, hq3, hq3l⟩ := i1.form (Nat.succ_pos _)
                      skip
                      clear hHeld k1 k2 k1n j1 j2 i1 i2
                      go_wp2
                      exact unhide HTB _ _ _ _ _ _ _ _ _ _ _ _ _ _ _ _ _ _ _ _ _ _ _ _ _ _ _ _ _ _ _ _ _ _ _ _ _ _ _ _ _ _ _ _ _ _ _ _ _ _ _ _ _ _ _ _ _ _ _ _ _ _ _ _ _ n3 q3 cq3 (unhide HN3) (unhide HI3) hq3
                    exact AllReadyH.nil
                  exact AllReadyH.nil
                exact AllReadyH.nil
              refine AllReadyH.cons (o := ?bo10_48) ?bh10_48 (fun K hK => ?bs10_48) ?bm10_48
              case bh10_48 => (simp only [List.getElem?_toArray, List.getElem?_cons_zero, List.getElem?_cons_succ]; rfl)
              case bs10_48 =>
                go_simp
                refine hK.out _ _ (SA.carry (by assumption) (below_box _ _)) (fun hHeld => ?_)
                clear hK K
                try simp only [Act.put, List.setIfInBounds_toArray, List.set_cons_zero, List.set_cons_succ]
                refine wpAnyH_ready (rs := [8]) (by kernel_rfl) (by simp) ?_
                refine AllReadyH.cons (o := ?bo8_49) ?bh8_49 (fun K hK => ?bs8_49) ?bm8_49
                case bh8_49 => (simp only [List.getElem?_toArray, List.getElem?_cons_zero, List.getElem?_cons_succ]; rfl)
                case bs8_49 =>
                  refine step_appI _ (by rfl) (.tmp 29) (.tmp 35) (by rfl) W.heap.size _ _ [] ((L.map (·.id)).take k) (by rfl) (own_nil _ _ _ _ _ (Nat.le_refl _) (((below_box _ _).block _ (by simp)).trans (heap_alloc_new _ _))) (by rfl) (unhide HS1 _ (SA.two (by assumption))) (by simp <;> omega) (SA.two (by assumption)).size ?_
                  intro v1 n1 k1 k2
                  have k1n : n1.ownsRow W.heap.size 3 1 v1 ((L.map (·.id)).take k).length (((L.map (·.id)).take k).map (Value.int .i64)) := by simpa using k1
                  refine hK.out _ _ (SA.grown (by assumption) hBW (fun j hj => by simp [Value.ownBlock] at hj; omega) k2) (fun hHeld => ?_)
                  clear hK K
                  try simp only [Act.put, List.setIfInBounds_toArray, List.set_cons_zero, List.set_cons_succ]
                  refine wpAnyH_ready (rs := [11]) (by kernel_rfl) (by simp) ?_
                  refine AllReadyH.cons (o := ?bo11_50) ?bh11_50 (fun K hK => ?bs11_50) ?bm11_50
                  case bh11_50 => (simp only [List.getElem?_toArray, List.getElem?_cons_zero, List.getElem?_cons_succ]; rfl)
                  case bs11_50 =>
                    refine step_appI _ (by rfl) (.tmp 36) (.tmp 38) (by rfl) W.heap.size _ _ ((L.map (·.id)).take k) [id] (by rfl) (k1n) (by rfl) (src_one ((k2.cell_far ⟨W.heap.size + 1, 0, none⟩ (by simp <;> omega) (by simp [Value.ownBlock])).trans (by simp))) (by simp <;> omega) (SA.two (by assumption)).size ?_
                    intro v2 n2 j1 j2
                    refine hK.out _ _ (SA.grown (by assumption) hBW (fun j hj => (k1n.lt j hj).1) j2) (fun hHeld => ?_)
                    clear hK K
                    try simp only [Act.put, List.setIfInBounds_toArray, List.set_cons_zero, List.set_cons_succ]
                    refine wpAnyH_ready (rs := [18]) (by kernel_rfl) (by simp) ?_
                    refine AllReadyH.cons (o := ?bo18_51) ?bh18_51 (fun K hK => ?bs18_51) ?bm18_51
                    case bh18_51 => (simp only [List.getElem?_toArray, List.getElem?_cons_zero, List.getElem?_cons_succ]; rfl)
                    case bs18_51 =>
                      refine step_appI _ (by rfl) (.tmp 39) (.tmp 45) (by rfl) W.heap.size _ _ (((L.map (·.id)).take k) ++ [id]) ((L.map (·.id)).drop k) (by rfl) j1 (by rfl) (unhide HS3 _ (SA.two (by assumption))) (by simp <;> omega) (SA.two (by assumption)).size ?_
                      intro v3 n3 i1 i2
                      refine hK.out _ _ (SA.grown (by assumption) hBW (fun j hj => (j1.lt j hj).1) i2) (fun hHeld => ?_)
                      clear hK K
                      try simp only [Act.put, List.setIfInBounds_toArray, List.set_cons_zero, List.set_cons_succ]
                      refine wpAnyH_done (by kernel_rfl) ?_ _
                      show wpList _ _ _ _ _ _
                      have e0 := hHeld.1
                      have g3 := (frozen_below (a := ⟨B, 0, none⟩) hHeld.2 hBW).trans g0
                      have HN3 := hide hHeld.2
                      have hq3n : ((L.map (·.id)).take k ++ [id] ++ (L.map (·.id)).drop k).length = L.length + 1 := by simp only [List.length_append, List.length_take, List.length_drop, List.length_map, List.length_cons, List.length_nil]; omega
                      have HI3 := hide i1
                      rw [hq3n] at i1
                      obtain ⟨q3, cq3, rfl, hq3, hq3l⟩ := i1.form (Nat.succ_pos _)
                      skip
                      clear hHeld k1 k2 k1n j1 j2 i1 i2
                      go_wp2
                      exact unhide HTB _ _ _ _ _ _ _ _ _ _ _ _ _ _ _ _ _ _ _ _ _ _ _ _ _ _ _ _ _ _ _ _ _ _ _ _ _ _ _ _ _ _ _ _ _ _ _ _ _ _ _ _ _ _ _ _ _ _ _ _ _ _ _ _ _ n3 q3 cq3 (unhide HN3) (unhide HI3) hq3
                    exact AllReadyH.nil
                  exact AllReadyH.nil
                exact AllReadyH.nil
              exact AllReadyH.nil
            refine AllReadyH.cons (o := ?bo10_52) ?bh10_52 (fun K hK => ?bs10_52) ?bm10_52
            case bh10_52 => (simp only [List.getElem?_toArray, List.getElem?_cons_zero, List.getElem?_cons_succ]; rfl)
            case bs10_52 =>
              go_simp
              refine hK.out _ _ (SA.carry (by assumption) (below_box _ _)) (fun hHeld => ?_)
              clear hK K
              try simp only [Act.put, List.setIfInBounds_toArray, List.set_cons_zero, List.set_cons_succ]
              refine wpAnyH_ready (rs := [1]) (by kernel_rfl) (by simp) ?_
              refine AllReadyH.cons (o := ?bo1_53) ?bh1_53 (fun K hK => ?bs1_53) ?bm1_53
              case bh1_53 => (simp only [List.getElem?_toArray, List.getElem?_cons_zero, List.getElem?_cons_succ]; rfl)
              case bs1_53 =>
                go_simp
                refine hK.out _ _ (SA.carry (by assumption) (below_box _ _)) (fun hHeld => ?_)
                clear hK K
                try simp only [Act.put, List.setIfInBounds_toArray, List.set_cons_zero, List.set_cons_succ]
                refine wpAnyH_ready (rs := [8]) (by kernel_rfl) (by simp) ?_
                refine AllReadyH.cons (o := ?bo8_54) ?bh8_54 (fun K hK => ?bs8_54) ?bm8_54
                case bh8_54 => (simp only [List.getElem?_toArray, List.getElem?_cons_zero, List.getElem?_cons_succ]; rfl)
                case bs8_54 =>
                  refine step_appI _ (by rfl) (.tmp 29) (.tmp 35) (by rfl) W.heap.size _ _ [] ((L.map (·.id)).take k) (by rfl) (own_nil _ _ (W.heap.size + 1) _ _ (by omega) (by have := heap_alloc_new (W.alloc (.cells #[.int .i64 id] 3)) (.cells #[] 3); rw [World.size_alloc] at this; exact this)) (by rfl) (unhide HS1 _ (SA.two (by assumption))) (by simp <;> omega) (SA.two (by assumption)).size ?_
                  intro v1 n1 k1 k2
                  have k1n : n1.ownsRow W.heap.size 3 1 v1 ((L.map (·.id)).take k).length (((L.map (·.id)).take k).map (Value.int .i64)) := by simpa using k1
                  refine hK.out _ _ (SA.grown (by assumption) hBW (fun j hj => by simp [Value.ownBlock] at hj; omega) k2) (fun hHeld => ?_)
                  clear hK K
                  try simp only [Act.put, List.setIfInBounds_toArray, List.set_cons_zero, List.set_cons_succ]
                  refine wpAnyH_ready (rs := [11]) (by kernel_rfl) (by simp) ?_
                  refine AllReadyH.cons (o := ?bo11_55) ?bh11_55 (fun K hK => ?bs11_55) ?bm11_55
                  case bh11_55 => (simp only [List.getElem?_toArray, List.getElem?_cons_zero, List.getElem?_cons_succ]; rfl)
                  case bs11_55 =>
                    refine step_appI _ (by rfl) (.tmp 36) (.tmp 38) (by rfl) W.heap.size _ _ ((L.map (·.id)).take k) [id] (by rfl) (k1n) (by rfl) (src_one ((k2.cell_far ⟨W.heap.size, 0, none⟩ (by simp <;> omega) (by simp [Value.ownBlock])).trans (by simp))) (by simp <;> omega) (SA.two (by assumption)).size ?_
                    intro v2 n2 j1 j2
                    refine hK.out _ _ (SA.grown (by assumption) hBW (fun j hj => (k1n.lt j hj).1) j2) (fun hHeld => ?_)
                    clear hK K
                    try simp only [Act.put, List.setIfInBounds_toArray, List.set_cons_zero, List.set_cons_succ]
                    refine wpAnyH_ready (rs := [18]) (by kernel_rfl) (by simp) ?_
                    refine AllReadyH.cons (o := ?bo18_56) ?bh18_56 (fun K hK => ?bs18_56) ?bm18_56
                    case bh18_56 => (simp only [List.getElem?_toArray, List.getElem?_cons_zero, List.getElem?_cons_succ]; rfl)
                    case bs18_56 =>
                      refine step_appI _ (by rfl) (.tmp 39) (.tmp 45) (by rfl) W.heap.size _ _ (((L.map (·.id)).take k) ++ [id]) ((L.map (·.id)).drop k) (by rfl) j1 (by rfl) (unhide HS3 _ (SA.two (by assumption))) (by simp <;> omega) (SA.two (by assumption)).size ?_
                      intro v3 n3 i1 i2
                      refine hK.out _ _ (SA.grown (by assumption) hBW (fun j hj => (j1.lt j hj).1) i2) (fun hHeld => ?_)
                      clear hK K
                      try simp only [Act.put, List.setIfInBounds_toArray, List.set_cons_zero, List.set_cons_succ]
                      refine wpAnyH_done (by kernel_rfl) ?_ _
                      show wpList _ _ _ _ _ _
                      have e0 := hHeld.1
                      have g3 := (frozen_below (a := ⟨B, 0, none⟩) hHeld.2 hBW).trans g0
                      have HN3 := hide hHeld.2
                      have hq3n : ((L.map (·.id)).take k ++ [id] ++ (L.map (·.id)).drop k).length = L.length + 1 := by simp only [List.length_append, List.length_take, List.length_drop, List.length_map, List.length_cons, List.length_nil]; omega
                      have HI3 := hide i1
                      rw [hq3n] at i1
                      obtain ⟨q3, cq3, rfl, hq3, hq3l⟩ := i1.form (Nat.succ_pos _)
                      skip
                      clear hHeld k1 k2 k1n j1 j2 i1 i2
                      go_wp2
                      exact unhide HTB _ _ _ _ _ _ _ _ _ _ _ _ _ _ _ _ _ _ _ _ _ _ _ _ _ _ _ _ _ _ _ _ _ _ _ _ _ _ _ _ _ _ _ _ _ _ _ _ _ _ _ _ _ _ _ _ _ _ _ _ _ _ _ _ _ n3 q3 cq3 (unhide HN3) (unhide HI3) hq3
                    exact AllReadyH.nil
                  exact AllReadyH.nil
                exact AllReadyH.nil
              exact AllReadyH.nil
            exact AllReadyH.nil
    · have h2' : rightB lo hi = false := by simpa using h2
      have e0 : Hid (addErr L ⟨id, lo, hi⟩ = 1) := by unfold Hid; rw [unhide HE, if_pos h1', if_neg h2]
      rw [h2'] at HR
      clear HE h1 h2 h2' h HF
      go_enter Tryd.func39, Tryd.ntmps39
      go_wp2_with (first | (go_at_call 51; refine (unhide HI _).mono ?_; rintro e w1 ⟨rfl, rfl⟩) | (go_at_call 8; refine (unhide HR _).mono ?_; rintro e w2 ⟨rfl, rfl⟩))
      go_ret
      have BW := hB0.trans ((below_box (w.alloc (.cells #[.int .i64 lo, .int .i64 hi] 29)) (.cells #[.int .i64 lo, .int .i64 hi] 29)).mono (by simp))
      exact add_err (unhide e0) (by decide) (unhide HH _ BW) BW
  · have h1' : inB id 0 1048576 = false := by simpa using h1
    have h1n : ¬ (0 ≤ id ∧ id ≤ 1048576) := fun k => h1 (by simpa [inB] using k)
    have e0 : Hid (addErr L ⟨id, lo, hi⟩ = 2) := by unfold Hid; rw [unhide HE, if_neg h1n]
    rw [h1'] at HI
    clear HE h1 h1' h1n h HF HR
    go_enter Tryd.func39, Tryd.ntmps39
    go_wp2_with (go_at_call 51; refine (unhide HI _).mono ?_; rintro e w1 ⟨rfl, rfl⟩)
    go_ret
    exact add_err (unhide e0) (by decide) (unhide HH _ hB0) hB0

end Go.Proofs.YtfcmkaiocnelgaaDoor
