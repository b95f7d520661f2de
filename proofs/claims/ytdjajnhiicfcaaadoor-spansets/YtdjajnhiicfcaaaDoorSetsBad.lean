/- The statement on sets, where one of the first spans may not be. -/
import Derived.Test.YtdjajnhiicfcaaaDoorBad
namespace Go.Proofs.YtdjajnhiicfcaaaDoor
open Go.RowKit Palim

/-- A box of two numbers into which two others are stored. -/
theorem box_stored {w1 wr : World} {o : Obj} {x y u v : Int} (hb : Below (w1.heap.size + 1) (w1.alloc (.cells #[.int .i64 x, .int .i64 y] 25)) wr) :
    (((wr.setCell ⟨w1.heap.size, 0, none⟩ (.int .i64 u)).setCell ⟨w1.heap.size, 1, none⟩ (.int .i64 v)).alloc o).cell? ⟨w1.heap.size, 0, none⟩ = some (.int .i64 u) ∧
    (((wr.setCell ⟨w1.heap.size, 0, none⟩ (.int .i64 u)).setCell ⟨w1.heap.size, 1, none⟩ (.int .i64 v)).alloc o).cell? ⟨w1.heap.size, 1, none⟩ = some (.int .i64 v) ∧
    Below w1.heap.size w1 (((wr.setCell ⟨w1.heap.size, 0, none⟩ (.int .i64 u)).setCell ⟨w1.heap.size, 1, none⟩ (.int .i64 v)).alloc o) := by
  have h1 : Below w1.heap.size w1 wr := ((Below.refl _ _).alloc (Nat.le_refl _) _).trans (hb.mono (by omega))
  have hz : w1.heap.size < wr.heap.size := by have := hb.size; simp at this; omega
  have hh : wr.heap[w1.heap.size]? = some (.cells #[.int .i64 x, .int .i64 y] 25 (0, 0)) := by
    rw [hb.block w1.heap.size (by omega)]
    exact heap_alloc_new w1 _
  have h2 := heap_setCell_same _ w1.heap.size 0 _ 25 (.int .i64 u) hh
  have h3 := heap_setCell_same _ w1.heap.size 1 _ 25 (.int .i64 v) h2
  have h4 : (((wr.setCell ⟨w1.heap.size, 0, none⟩ (.int .i64 u)).setCell ⟨w1.heap.size, 1, none⟩ (.int .i64 v)).alloc o).heap[w1.heap.size]? = some (.cells #[.int .i64 u, .int .i64 v] 25 (0, 0)) := by
    rw [Below.heap_alloc _ _ _ (by simpa using hz), h3]
    simp
  refine ⟨?_, ?_, ?_⟩
  · simp only [World.cell?, h4]; simp
  · simp only [World.cell?, h4]; simp
  · exact ((h1.setCell (Nat.le_refl _) _).setCell (Nat.le_refl _) _).alloc (by simp; omega) _

set_option maxRecDepth 100000 in
set_option maxHeartbeats 8000000 in
theorem sets_bad (l m : List (Int × Int)) (i0 : Nat) (vx vy : Value) (t : Int) (w : World) (hl : l.length ≤ 90) (hm : m.length ≤ 90) (hbad : FirstBad l i0) (rx : Reads w vx l) (ry : Reads w vy m) (hg : ErrorType w) :
    Calls Tryd.prog 3 #[vx, vy, .int .i64 t] w fun e w' => e = .returned (.bool true) ∧ Below w.heap.size w w' := by
  have RX := hide rx
  have hsx : ∃ b off cap, vx = .slice (some ⟨b, off, none⟩) l.length cap ∧ b < w.heap.size ∧ ∀ k, (hk : k < l.length) → w.cell? ⟨b, off + k * 2, none⟩ = some (.int .i64 l[k].1) ∧ w.cell? ⟨b, off + k * 2 + 1, none⟩ = some (.int .i64 l[k].2) := by
    obtain ⟨ad, cap, h1, h2⟩ := rx
    rcases h2 with rfl | ⟨b, off, rfl, h4, h5⟩
    · obtain ⟨h, _⟩ := hbad; simp at h
    · exact ⟨b, off, cap, h1, h4, h5⟩
  have hsy : ∃ ad cap, vy = .slice ad m.length cap := by obtain ⟨ad, cap, h, _⟩ := ry; exact ⟨ad, cap, h⟩
  obtain ⟨b, off, cap, rfl, hb0, hc⟩ := hsx
  obtain ⟨ady, capy, rfl⟩ := hsy
  have HC := hide hc
  have HG := hide hg
  have HBAD := hide hbad
  have hi0 : i0 < l.length := by obtain ⟨h, _⟩ := hbad; exact h
  have HBR := hide (ref_Bare 0 w)
  clear rx ry hc hg hbad
  go_enter Tryd.func3, Tryd.ntmps3
  go_wp2_with fail
  refine (unhide HBR).mono ?_
  rintro e w1 ⟨rfl, b1⟩
  have B1 := hide b1
  have hz1 := b1.size
  clear b1 HBR
  go_wp2
  go_loopw [8] (fun iv wr => ∃ k : Nat, iv = .int .i64 k ∧ ((k ≤ i0 ∧ Below (w1.heap.size + 1) (w1.alloc (.cells #[.int .i64 0, .int .i64 (-1)] 25)) wr) ∨ (k = i0 + 1 ∧ wr.cell? ⟨w1.heap.size, 0, none⟩ = some (.int .i64 1) ∧ wr.cell? ⟨w1.heap.size, 1, none⟩ = some (.int .i64 i0) ∧ Below w1.heap.size w1 wr))) (fun iv _ => l.length + 1 - (intOf iv).toNat)
  case atStart => exact ⟨0, rfl, Or.inl ⟨Nat.zero_le _, Below.refl _ _⟩⟩
  case round =>
    obtain ⟨k, rfl, hst⟩ := hrel
    rcases hst with ⟨hk, hb⟩ | ⟨rfl, e0, e1, hb⟩
    · have hlt : k < l.length := by omega
      have hbw : Below w.heap.size w wr := (unhide B1).trans (((Below.refl _ _).alloc hz1 _).trans (hb.mono (by omega)))
      have f0 : wr.cell? ⟨w1.heap.size, 0, none⟩ = some (.int .i64 0) := (hb.cell (p := ⟨w1.heap.size, 0, none⟩) (by show w1.heap.size < _; omega)).trans (by simp)
      have f1 : wr.cell? ⟨w1.heap.size, 1, none⟩ = some (.int .i64 (-1)) := (hb.cell (p := ⟨w1.heap.size, 1, none⟩) (by show w1.heap.size < _; omega)).trans (by simp)
      have g0 : wr.frozen? ⟨w1.heap.size, 0, none⟩ = false := (hb.frozen (p := ⟨w1.heap.size, 0, none⟩) (by show w1.heap.size < _; omega)).trans (by simp)
      have g1 : wr.frozen? ⟨w1.heap.size, 1, none⟩ = false := (hb.frozen (p := ⟨w1.heap.size, 1, none⟩) (by show w1.heap.size < _; omega)).trans (by simp)
      have hzr : w1.heap.size < wr.heap.size := by have := hb.size; simp at this; omega
      have c0 := (hbw.cell (p := ⟨b, off + k * 2, none⟩) hb0).trans (unhide HC k hlt).1
      have c1 := (hbw.cell (p := ⟨b, off + k * 2 + 1, none⟩) hb0).trans (unhide HC k hlt).2
      have HBB := hide hb
      clear hbw hb
      by_cases hki : k = i0
      · subst hki
        have hR := fun W => ref_Right l[k].1 l[k].2 W
        rw [(unhide HBAD).2.1] at hR
        have HR := hide hR
        clear hR
        generalize l[k].1 = x1 at c0 HR
        generalize l[k].2 = x2 at c1 HR
        go_wp2_with fail
        refine (unhide HR _).mono ?_
        rintro e w2 ⟨rfl, hw2⟩
        subst hw2
        go_wp2
        have hst := box_stored (o := .cells #[.int .i64 x1, .int .i64 x2] 29) (u := 1) (v := k) (unhide HBB)
        refine ⟨⟨k + 1, by go_num, Or.inr ⟨rfl, hst.1, hst.2.1, hst.2.2⟩⟩, by simp [intOf]; omega⟩
      · have hR := fun W => ref_Right l[k].1 l[k].2 W
        rw [(unhide HBAD).2.2 k (by omega)] at hR
        have HR := hide hR
        clear hR
        generalize l[k].1 = x1 at c0 HR
        generalize l[k].2 = x2 at c1 HR
        go_wp2_with fail
        refine (unhide HR _).mono ?_
        rintro e w2 ⟨rfl, hw2⟩
        subst hw2
        go_wp2
        go_roundw
        case rel => exact ⟨k + 1, by go_num, Or.inl ⟨by omega, (unhide HBB).alloc (by omega) _⟩⟩
        case measure => simp [intOf]; omega
    · have hbw : Below w.heap.size w wr := (unhide B1).trans (hb.mono hz1)
      have hzr : w1.heap.size < wr.heap.size := by have := World.block_lt_of_cell? _ _ e0; simpa using this
      have HRO := hide (ref_Of l _ wr (by omega) ((unhide RX).carry hbw))
      have BR := hide hbw
      have HE := hide (And.intro e0 e1)
      clear hb hbw HC
      by_cases hil : i0 + 1 < l.length
      all_goals
        go_wp2_with fail
        refine (unhide HRO).mono ?_
        rintro e w3 ⟨R, _, _, _, v3, rfl, o3, b3⟩
        have hv3 : ∃ ad cap, v3 = .slice ad R.length cap := by
          rcases o3.2 with ⟨h0, h1⟩ | ⟨g, cap, _, h0, _⟩
          · exact ⟨none, 0, by rw [h0, h1]⟩
          · exact ⟨_, cap, h0⟩
        obtain ⟨ad3, cap3, rfl⟩ := hv3
        have f0 := (b3.cell (p := ⟨w1.heap.size, 0, none⟩) hzr).trans (unhide HE).1
        have f1 := (b3.cell (p := ⟨w1.heap.size, 1, none⟩) hzr).trans (unhide HE).2
        have hz3 := Nat.lt_of_lt_of_le hzr b3.size
        have B3 := hide ((unhide BR).trans (b3.mono (unhide BR).size))
        have B4 : Hid (Below w.heap.size w (w3.alloc (.cells #[.slice ad3 R.length cap3] 22))) := (unhide B3).alloc (unhide B3).size _
        have HOF := hide (of_bad l i0 _ (w3.alloc (.cells #[.slice ad3 R.length cap3] 22)) (by omega) (unhide HBAD) ((unhide RX).carry B4.out))
        clear o3 b3 HRO BR HE e0 e1
        go_wp2_with fail
        refine (unhide HOF).mono ?_
        rintro e w5 ⟨bb, rfl, q0, q1, b5⟩
        have hw5 := B4.out.trans (b5.mono B4.out.size)
        have p0 : w5.cell? ⟨w1.heap.size, 0, none⟩ = some (.int .i64 1) := (b5.cell (p := ⟨w1.heap.size, 0, none⟩) (by simp; omega)).trans ((World.cell?_alloc_lt _ _ _ hz3).trans f0)
        have p1 : w5.cell? ⟨w1.heap.size, 1, none⟩ = some (.int .i64 i0) := (b5.cell (p := ⟨w1.heap.size, 1, none⟩) (by simp; omega)).trans ((World.cell?_alloc_lt _ _ _ hz3).trans f1)
        have hbb : bb < w5.heap.size := by have := World.block_lt_of_cell? _ _ q0; simpa using this
        have HIS := hide (law_is (.iface 51 (.pointer (some ⟨bb, 0, none⟩))) 1 i0 w5 (fun W h => Place_at 1 i0 bb W ((h.cell (p := ⟨bb, 0, none⟩) hbb).trans q0) ((h.cell (p := ⟨bb, 1, none⟩) hbb).trans q1) (((unhide HG).carry hw5).carry h)))
        have B5 := hide hw5
        clear q0 q1 b5 hw5 HOF B4 B3 f0 f1
        go_wp2_with fail
        refine (unhide HIS).mono ?_
        rintro e w6 ⟨rfl, b6⟩
        have B6 := hide ((unhide B5).trans (b6.mono (unhide B5).size))
        clear b6 HIS B5
        go_wp2
        go_ret
        exact ⟨rfl, unhide B6⟩

end Go.Proofs.YtdjajnhiicfcaaaDoor
