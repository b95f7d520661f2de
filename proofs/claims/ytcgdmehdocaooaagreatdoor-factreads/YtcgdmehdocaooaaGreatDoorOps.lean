/- Which changes may be: the program's answer, and the document's. -/
import Derived.Test.YtcgdmehdocaooaaGreatDoorKeys
namespace Go.Proofs.YtcgdmehdocaooaaGreatDoor
open Go.RowKit

/-- A change's cells. -/
def opCells (o : Fop) : List Value := [.int .i64 o.kind, .int .i64 o.a, .string o.word, .int .i64 o.b, .int .i64 o.lo, .int .i64 o.hi, .string o.value]
def opV (o : Fop) : Value := .agg (opCells o).toArray
/-- A change whose texts are no longer than texts are. -/
def Small (o : Fop) : Prop := o.word.size ≤ maxLen ∧ o.value.size ≤ maxLen

set_option maxHeartbeats 4000000 in
theorem fact_Op (o : Fop) (w : World) (hs : Small o) :
    Calls Tryz.prog 33 #[opV o] w fun e w' => e = .returned (.bool (opB o)) ∧ Below w.heap.size w w' := by
  obtain ⟨hs1, hs2⟩ := hs
  have HK := hide (fun W => fact_Key o.kind o.a o.word o.b W hs1)
  have HR := hide (fun W => span_Right o.lo o.hi W)
  have HW := hide (fun W => fact_Word o.value W hs2)
  unfold opB opV opCells
  clear hs1 hs2
  generalize keyB o.kind o.a o.word o.b = x at HK ⊢
  generalize rightB o.lo o.hi = y at HR ⊢
  generalize wordB o.value = z at HW ⊢
  obtain ⟨k, a, wd, b, lo, hi, vl⟩ := o
  dsimp only at *
  have H3 : Hid (Below w.heap.size w (((w.alloc (.cells #[.int .i64 k, .int .i64 a, .string wd, .int .i64 b, .int .i64 lo, .int .i64 hi, .string vl] 44)).alloc (.cells #[.int .i64 k, .int .i64 a, .string wd, .int .i64 b] 40)).alloc (.cells #[.int .i64 lo, .int .i64 hi] 42))) :=
    (((Below.refl _ _).alloc (Nat.le_refl _) _).alloc (by simp) _).alloc (by simp; omega) _
  have H2 : Hid (Below w.heap.size w ((w.alloc (.cells #[.int .i64 k, .int .i64 a, .string wd, .int .i64 b, .int .i64 lo, .int .i64 hi, .string vl] 44)).alloc (.cells #[.int .i64 k, .int .i64 a, .string wd, .int .i64 b] 40))) :=
    ((Below.refl _ _).alloc (Nat.le_refl _) _).alloc (by simp) _
  cases x
  · rw [Bool.false_and, Bool.false_and]
    go_enter Tryz.func33, Tryz.ntmps33
    go_wp2_with fail
    refine (unhide HK _).mono ?_; rintro e w' ⟨rfl, rfl⟩
    go_wp2
    go_ret
    exact ⟨rfl, unhide H2⟩
  · cases y
    · rw [Bool.and_false, Bool.false_and]
      go_enter Tryz.func33, Tryz.ntmps33
      go_wp2_with fail
      refine (unhide HK _).mono ?_; rintro e w' ⟨rfl, rfl⟩
      go_wp2_with fail
      refine (unhide HR _).mono ?_; rintro e w' ⟨rfl, rfl⟩
      go_wp2
      go_ret
      exact ⟨rfl, unhide H3⟩
    · rw [Bool.and_true, Bool.true_and]
      by_cases h : vl.toList = []
      · have e : (emptyB vl || z) = true := by simp [emptyB, h]
        rw [e]
        clear e
        go_enter Tryz.func33, Tryz.ntmps33
        go_wp2_with fail
        refine (unhide HK _).mono ?_; rintro e w' ⟨rfl, rfl⟩
        go_wp2_with fail
        refine (unhide HR _).mono ?_; rintro e w' ⟨rfl, rfl⟩
        go_wp2
        go_ret
        exact ⟨rfl, unhide H3⟩
      · go_enter Tryz.func33, Tryz.ntmps33
        go_wp2_with fail
        refine (unhide HK _).mono ?_; rintro e w' ⟨rfl, rfl⟩
        go_wp2_with fail
        refine (unhide HR _).mono ?_; rintro e w' ⟨rfl, rfl⟩
        go_wp2_with fail
        refine (unhide HW _).mono ?_; rintro e w' ⟨rfl, rfl⟩
        go_wp2
        go_ret
        exact ⟨rfl, unhide H3⟩

set_option maxHeartbeats 4000000 in
theorem ref_Op (o : Fop) (w : World) (hs : Small o) :
    Calls Tryz.prog 22 #[opV o] w fun e w' => e = .returned (.bool (opB o)) ∧ Below w.heap.size w w' := by
  obtain ⟨hs1, hs2⟩ := hs
  have HK := hide (fun W => ref_Key o.kind o.a o.word o.b W hs1)
  have HR := hide (fun W => ref_Right o.lo o.hi W)
  have HW := hide (fun W => ref_Word o.value W hs2)
  unfold opB opV opCells
  clear hs1 hs2
  generalize keyB o.kind o.a o.word o.b = x at HK ⊢
  generalize rightB o.lo o.hi = y at HR ⊢
  generalize wordB o.value = z at HW ⊢
  obtain ⟨k, a, wd, b, lo, hi, vl⟩ := o
  dsimp only at *
  have H3 : Hid (Below w.heap.size w (((w.alloc (.cells #[.int .i64 k, .int .i64 a, .string wd, .int .i64 b, .int .i64 lo, .int .i64 hi, .string vl] 44)).alloc (.cells #[.int .i64 k, .int .i64 a, .string wd, .int .i64 b] 40)).alloc (.cells #[.int .i64 lo, .int .i64 hi] 42))) :=
    (((Below.refl _ _).alloc (Nat.le_refl _) _).alloc (by simp) _).alloc (by simp; omega) _
  have H2 : Hid (Below w.heap.size w ((w.alloc (.cells #[.int .i64 k, .int .i64 a, .string wd, .int .i64 b, .int .i64 lo, .int .i64 hi, .string vl] 44)).alloc (.cells #[.int .i64 k, .int .i64 a, .string wd, .int .i64 b] 40))) :=
    ((Below.refl _ _).alloc (Nat.le_refl _) _).alloc (by simp) _
  cases x
  · rw [Bool.false_and, Bool.false_and]
    go_enter Tryz.func22, Tryz.ntmps22
    go_wp2_with fail
    refine (unhide HK _).mono ?_; rintro e w' ⟨rfl, rfl⟩
    go_wp2
    go_ret
    exact ⟨rfl, unhide H2⟩
  · cases y
    · rw [Bool.and_false, Bool.false_and]
      go_enter Tryz.func22, Tryz.ntmps22
      go_wp2_with fail
      refine (unhide HK _).mono ?_; rintro e w' ⟨rfl, rfl⟩
      go_wp2_with fail
      refine (unhide HR _).mono ?_; rintro e w' ⟨rfl, rfl⟩
      go_wp2
      go_ret
      exact ⟨rfl, unhide H3⟩
    · rw [Bool.and_true, Bool.true_and]
      by_cases h : vl.toList = []
      · have e : (emptyB vl || z) = true := by simp [emptyB, h]
        rw [e]
        clear e
        go_enter Tryz.func22, Tryz.ntmps22
        go_wp2_with fail
        refine (unhide HK _).mono ?_; rintro e w' ⟨rfl, rfl⟩
        go_wp2_with fail
        refine (unhide HR _).mono ?_; rintro e w' ⟨rfl, rfl⟩
        go_wp2
        go_ret
        exact ⟨rfl, unhide H3⟩
      · go_enter Tryz.func22, Tryz.ntmps22
        go_wp2_with fail
        refine (unhide HK _).mono ?_; rintro e w' ⟨rfl, rfl⟩
        go_wp2_with fail
        refine (unhide HR _).mono ?_; rintro e w' ⟨rfl, rfl⟩
        go_wp2_with fail
        refine (unhide HW _).mono ?_; rintro e w' ⟨rfl, rfl⟩
        go_wp2
        go_ret
        exact ⟨rfl, unhide H3⟩

end Go.Proofs.YtcgdmehdocaooaaGreatDoor
