/- Texts of one proof, one behind the other. -/
import Derived.Test.YtbmkmfoaoganeaaGreatDoorNa
import Derived.Test.YtbmkmfoaoganeaaGreatDoorNf
import Derived.Laws.AppendOwn
set_option maxRecDepth 100000
set_option maxHeartbeats 16000000
namespace Go.Proofs.YtbmkmfoaoganeaaGreatDoor
open Go.RowKit
def mlo (a b : Int) : Int := if a < b then b else a
def mhi (a b : Int) : Int := if b < a then b else a
theorem below4 (w : World) (a b c d : Obj) : Below w.heap.size w ((((w.alloc a).alloc b).alloc c).alloc d) :=
 ((((Below.refl _ _).alloc zr _).alloc (by simp) _).alloc (by simp; omega) _).alloc (by simp; omega) _
theorem span_Meet_yes (a1 a2 b1 b2 : Int) (w : World) (h : mlo a1 b1 < mhi a2 b2) :
  Calls Tryz.prog 142 #[.agg #[.int .i64 a1, .int .i64 a2], .agg #[.int .i64 b1, .int .i64 b2]] w fun e w' =>
   e = .returned (.tuple #[.agg #[.int .i64 (mlo a1 b1), .int .i64 (mhi a2 b2)], .bool true]) /\ Below w.heap.size w w' := by
 by_cases h1 : a1 < b1
 all_goals by_cases h2 : b2 < a2
 all_goals
  simp only [mlo, mhi, h1, h2, if_true, if_false] at h ⊢
  go_enter Tryz.func142, Tryz.ntmps142
  go_wp2
  refine bodyPost_ret (v := .tuple #[.agg #[.int .i64 _, .int .i64 _], .bool true]) (by simp [results, Tryz.results142, go_sem]) rfl ⟨rfl, below4 _ _ _ _ _⟩
theorem span_Meet_no (a1 a2 b1 b2 : Int) (w : World) (h : ¬ mlo a1 b1 < mhi a2 b2) :
  Calls Tryz.prog 142 #[.agg #[.int .i64 a1, .int .i64 a2], .agg #[.int .i64 b1, .int .i64 b2]] w fun e w' =>
   e = .returned (.tuple #[.agg #[.int .i64 0, .int .i64 0], .bool false]) /\ Below w.heap.size w w' := by
 by_cases h1 : a1 < b1
 all_goals by_cases h2 : b2 < a2
 all_goals
  simp only [mlo, mhi, h1, h2, if_true, if_false] at h
  go_enter Tryz.func142, Tryz.ntmps142
  go_wp2
  refine bodyPost_ret (v := .tuple #[.agg #[.int .i64 0, .int .i64 0], .bool false]) (by simp [results, Tryz.results142, go_sem]) rfl ⟨rfl, below4 _ _ _ _ _⟩
def encs : List (Int × Int) -> List Value
 | [] => []
 | x :: l => .int .i64 x.1 :: .int .i64 x.2 :: encs l
theorem encs_append (l m : List (Int × Int)) : encs (l ++ m) = encs l ++ encs m := by
 induction l with
 | nil => rfl
 | cons x l ih => simp [encs, ih]
theorem infoSp : (Tryz.prog.info? 79).map (fun i => (i.zero, i.size, i.bytes)) = some (some (.agg #[.int .i64 0, .int .i64 0]), 2, 16) := by kernel_rfl
theorem ownsRow_one (w : World) (base n : Nat) (x1 x2 : Int) (hb : base <= w.heap.size) (hn : n = w.heap.size) :
  (w.alloc (.cells #[.int .i64 x1, .int .i64 x2] 79)).ownsRow base 79 2 (.slice (some ⟨n, 0, none⟩) 1 1) 1 (encs [(x1, x2)]) := by
 subst hn
 exact World.ownsRow_lit (base := base) (e := 79) (size := 2) w #[.int .i64 x1, .int .i64 x2] 1 hb (by decide) rfl
def GivesS (w : World) (l : List (Int × Int)) (e : Ending) (w' : World) : Prop :=
 ∃ v, e = .returned v /\ w'.ownsRow w.heap.size 79 2 v l.length (encs l) /\ Below w.heap.size w w'
theorem wpList_appSp (w : World) {ops : Array Oper} {rest : List Oper} {o : Oper} {a : Act} {Q : Exit -> Act -> World -> Prop} (hgd : o.guard = none) (s x : Operand)
  (ho : o.op = .call { callee := .builtin .append, args := #[s, x], argTypes := #[323, 323] })
  (base : Nat) (v : Value) (l : List (Int × Int)) (hs : a.eval s = v) (hown : w.ownsRow base 79 2 v l.length (encs l))
  (b : Nat) (x1 x2 : Int) (hx : a.eval x = .slice (some ⟨b, 0, none⟩) 1 1) (hc0 : w.cell? ⟨b, 0, none⟩ = some (.int .i64 x1)) (hc1 : w.cell? ⟨b, 1, none⟩ = some (.int .i64 x2))
  (hlen : l.length < 1099511627776) (hbase : base <= w.heap.size)
  (h : ∀ v' w', w'.ownsRow base 79 2 v' (l ++ [(x1, x2)]).length (encs (l ++ [(x1, x2)])) -> w.grownBy w' v.ownBlock -> wpList Tryz.prog ops Q rest (a.put o.dst v') w') : wpList Tryz.prog ops Q (o :: rest) a w := by
 obtain ⟨i0, hi0, hz0, hz1, hz2⟩ := info_parts infoSp
 refine wpList_append_own w hgd s x 323 ho base 79 i0 (.agg #[.int .i64 0, .int .i64 0]) 2 16 Tryz.underlying323 hi0 hz0 hz1 hz2 rfl (by decide) v l.length (encs l) hs hown ⟨b, 0, none⟩ 1 1 [.int .i64 x1, .int .i64 x2] hx rfl ?_ ?_ ?_ ?_ hbase ?_
 ·intro j u hj
  match j, hj with
  | 0, hj => simp at hj; subst hj; simpa [Addr.add] using hc0
  | 1, hj => simp at hj; subst hj; simpa [Addr.add] using hc1
 ·intro u hu
  simp at hu
  rcases hu with rfl | rfl <;> rfl
 ·unfold maxLen; omega
 ·omega
 ·intro v' w' k1 k2 _
  refine h v' w' ?_ k2
  rw [encs_append]
  simpa [encs] using k1
def lessS (a1 a2 b1 b2 : Int) : List (Int × Int) :=
 if a2 <= a1 then [] else if mlo a1 b1 < mhi a2 b2 then (if a1 < mlo a1 b1 then [(a1, mlo a1 b1)] else []) ++ (if mhi a2 b2 < a2 then [(mhi a2 b2, a2)] else []) else [(a1, a2)]
theorem span_Less_empty (a1 a2 b1 b2 : Int) (w : World) (h : a2 <= a1) :
  Calls Tryz.prog 268 #[.agg #[.int .i64 a1, .int .i64 a2], .agg #[.int .i64 b1, .int .i64 b2]] w (GivesS w []) := by
 go_enter Tryz.func268, Tryz.ntmps268
 go_wp2
 go_ret
 exact ⟨_, rfl, World.ownsRow_nil _ _ _ _, ((Below.refl _ _).alloc zr _).alloc (by simp) _⟩
theorem span_Less_whole (a1 a2 b1 b2 : Int) (w : World) (h : a1 < a2) (hm : ¬ mlo a1 b1 < mhi a2 b2) :
  Calls Tryz.prog 268 #[.agg #[.int .i64 a1, .int .i64 a2], .agg #[.int .i64 b1, .int .i64 b2]] w (GivesS w [(a1, a2)]) := by
 have hM := fun w => span_Meet_no a1 a2 b1 b2 w hm
 go_enter Tryz.func268, Tryz.ntmps268
 go_wp2_with fail
 refine (hM _).mono ?_
 rintro e w1 ⟨rfl, hb⟩
 clear hM
 have c0 : w1.cell? ⟨w.heap.size, 0, none⟩ = some (.int .i64 a1) := (hb.cell (p := ⟨w.heap.size, 0, none⟩) (by simp; omega)).trans (by simp)
 have c1 : w1.cell? ⟨w.heap.size, 1, none⟩ = some (.int .i64 a2) := (hb.cell (p := ⟨w.heap.size, 1, none⟩) (by simp; omega)).trans (by simp)
 have hz : w.heap.size < w1.heap.size := by have := hb.size; simp at this; omega
 have hb2 : Below w.heap.size w w1 := (((Below.refl _ _).alloc zr _).alloc (by simp) _).trans (hb.mono (by simp; omega))
 have HB : Hid (Below w.heap.size w w1) := hb2
 clear hb hb2
 go_wp2
 go_ret
 refine ⟨_, rfl, ownsRow_one (w1.alloc (.cells #[.int .i64 0, .int .i64 0] 79)) _ _ a1 a2 (by simp; omega) (by simp), ?_⟩
 exact (HB.out.alloc (by omega) _).alloc (by simp; omega) _
theorem span_Less_step (a1 a2 b1 b2 : Int) (w w1 : World)
  (hb : Below ((w.alloc (.cells #[.int .i64 a1, .int .i64 a2] 79)).alloc (.cells #[.int .i64 b1, .int .i64 b2] 79)).heap.size ((w.alloc (.cells #[.int .i64 a1, .int .i64 a2] 79)).alloc (.cells #[.int .i64 b1, .int .i64 b2] 79)) w1) :
  w1.cell? ⟨w.heap.size, 0, none⟩ = some (.int .i64 a1) /\ w1.cell? ⟨w.heap.size, 1, none⟩ = some (.int .i64 a2) /\ w.heap.size < w1.heap.size /\ Below w.heap.size w w1 := by
 refine ⟨(hb.cell (p := ⟨w.heap.size, 0, none⟩) (by simp; omega)).trans (by simp), (hb.cell (p := ⟨w.heap.size, 1, none⟩) (by simp; omega)).trans (by simp), ?_, ?_⟩
 ·have := hb.size; simp at this; omega
 ·exact (((Below.refl _ _).alloc zr _).alloc (by simp) _).trans (hb.mono (by simp; omega))
theorem span_Less_none (a1 a2 b1 b2 lo hi : Int) (w : World) (h : a1 < a2) (h1 : ¬ a1 < lo) (h2 : ¬ hi < a2)
  (hM : ∀ w, Calls Tryz.prog 142 #[.agg #[.int .i64 a1, .int .i64 a2], .agg #[.int .i64 b1, .int .i64 b2]] w fun e w' => e = .returned (.tuple #[.agg #[.int .i64 lo, .int .i64 hi], .bool true]) /\ Below w.heap.size w w') :
  Calls Tryz.prog 268 #[.agg #[.int .i64 a1, .int .i64 a2], .agg #[.int .i64 b1, .int .i64 b2]] w (GivesS w []) := by
 go_enter Tryz.func268, Tryz.ntmps268
 go_wp2_with fail
 refine (hM _).mono ?_
 rintro e w1 ⟨rfl, hb⟩
 clear hM
 obtain ⟨c0, c1, hz, hb2⟩ := span_Less_step a1 a2 b1 b2 w w1 hb
 have HB : Hid (Below w.heap.size w w1) := hb2
 clear hb hb2
 go_wp2
 go_ret
 exact ⟨_, rfl, World.ownsRow_nil _ _ _ _, HB.out.alloc (by omega) _⟩
theorem span_Less_grown (w w1 w2 : World) (a1 a2 lo hi x1 x2 : Int) (c0 : w1.cell? ⟨w.heap.size, 0, none⟩ = some (.int .i64 a1)) (c1 : w1.cell? ⟨w.heap.size, 1, none⟩ = some (.int .i64 a2)) (hz : w.heap.size < w1.heap.size) (HB : Below w.heap.size w w1)
  (k2 : ((w1.alloc (.cells #[.int .i64 lo, .int .i64 hi] 79)).alloc (.cells #[.int .i64 x1, .int .i64 x2] 79)).grownBy w2 none) :
  w2.cell? ⟨w.heap.size, 0, none⟩ = some (.int .i64 a1) /\ w2.cell? ⟨w.heap.size, 1, none⟩ = some (.int .i64 a2) /\ w2.cell? ⟨w1.heap.size, 0, none⟩ = some (.int .i64 lo) /\ w2.cell? ⟨w1.heap.size, 1, none⟩ = some (.int .i64 hi) /\ w1.heap.size < w2.heap.size /\ Below w.heap.size w w2 := by
 have hb := below_grown_none k2
 refine ⟨(hb.cell (p := ⟨w.heap.size, 0, none⟩) (by simp; omega)).trans ?_, (hb.cell (p := ⟨w.heap.size, 1, none⟩) (by simp; omega)).trans ?_, (hb.cell (p := ⟨w1.heap.size, 0, none⟩) (by simp; omega)).trans ?_, (hb.cell (p := ⟨w1.heap.size, 1, none⟩) (by simp; omega)).trans ?_, ?_, ?_⟩
 ·rw [World.cell?_alloc_lt _ _ _ (by simp; omega), World.cell?_alloc_lt _ _ _ hz]; exact c0
 ·rw [World.cell?_alloc_lt _ _ _ (by simp; omega), World.cell?_alloc_lt _ _ _ hz]; exact c1
 ·simp
 ·simp
 ·have := hb.size; simp at this; omega
 ·exact ((HB.alloc (by omega) _).alloc (by simp; omega) _).trans (hb.mono (by simp; omega))
theorem span_Less_first (a1 a2 b1 b2 lo hi : Int) (w : World) (h : a1 < a2) (h1 : a1 < lo) (h2 : ¬ hi < a2)
  (hM : ∀ w, Calls Tryz.prog 142 #[.agg #[.int .i64 a1, .int .i64 a2], .agg #[.int .i64 b1, .int .i64 b2]] w fun e w' => e = .returned (.tuple #[.agg #[.int .i64 lo, .int .i64 hi], .bool true]) /\ Below w.heap.size w w') :
  Calls Tryz.prog 268 #[.agg #[.int .i64 a1, .int .i64 a2], .agg #[.int .i64 b1, .int .i64 b2]] w (GivesS w [(a1, lo)]) := by
 go_enter Tryz.func268, Tryz.ntmps268
 go_wp2_with fail
 refine (hM _).mono ?_
 rintro e w1 ⟨rfl, hb⟩
 clear hM
 obtain ⟨c0, c1, hz, hb2⟩ := span_Less_step a1 a2 b1 b2 w w1 hb
 have HB : Hid (Below w.heap.size w w1) := hb2
 clear hb hb2
 go_wp2_with (at_builtin; refine wpList_appSp _ rfl (.tmp 28) (.tmp 34) rfl w.heap.size _ [] rfl (World.ownsRow_nil _ _ _ _) (w1.heap.size + 1) a1 lo rfl ?d0 ?d1 ?d2 ?d3 ?_)
 case d0 => simp
 case d1 => simp
 case d2 => simp
 case d3 => simp; omega
 intro v2 w2 k1 k2
 obtain ⟨d0, d1, d2, d3, hz2, hb2⟩ := span_Less_grown w w1 w2 a1 a2 lo hi a1 lo c0 c1 hz HB.out k2
 have HB2 : Hid (Below w.heap.size w w2) := hb2
 have K1 : Hid (w2.ownsRow w.heap.size 79 2 v2 1 (encs [(a1, lo)])) := k1
 clear k1 k2 hb2
 go_wp2
 go_ret
 exact ⟨_, rfl, K1.out, HB2.out⟩
theorem span_Less_second (a1 a2 b1 b2 lo hi : Int) (w : World) (h : a1 < a2) (h1 : ¬ a1 < lo) (h2 : hi < a2)
  (hM : ∀ w, Calls Tryz.prog 142 #[.agg #[.int .i64 a1, .int .i64 a2], .agg #[.int .i64 b1, .int .i64 b2]] w fun e w' => e = .returned (.tuple #[.agg #[.int .i64 lo, .int .i64 hi], .bool true]) /\ Below w.heap.size w w') :
  Calls Tryz.prog 268 #[.agg #[.int .i64 a1, .int .i64 a2], .agg #[.int .i64 b1, .int .i64 b2]] w (GivesS w [(hi, a2)]) := by
 go_enter Tryz.func268, Tryz.ntmps268
 go_wp2_with fail
 refine (hM _).mono ?_
 rintro e w1 ⟨rfl, hb⟩
 clear hM
 obtain ⟨c0, c1, hz, hb2⟩ := span_Less_step a1 a2 b1 b2 w w1 hb
 have HB : Hid (Below w.heap.size w w1) := hb2
 clear hb hb2
 go_wp2_with (at_builtin; refine wpList_appSp _ rfl (.tmp 41) (.tmp 47) rfl w.heap.size _ [] rfl (World.ownsRow_nil _ _ _ _) (w1.heap.size + 1) hi a2 rfl ?d0 ?d1 ?d2 ?d3 ?_)
 case d0 => simp
 case d1 => simp
 case d2 => simp
 case d3 => simp; omega
 intro v2 w2 k1 k2
 obtain ⟨d0, d1, d2, d3, hz2, hb2⟩ := span_Less_grown w w1 w2 a1 a2 lo hi hi a2 c0 c1 hz HB.out k2
 have HB2 : Hid (Below w.heap.size w w2) := hb2
 have K1 : Hid (w2.ownsRow w.heap.size 79 2 v2 1 (encs [(hi, a2)])) := k1
 clear k1 k2 hb2
 go_wp2
 go_ret
 exact ⟨_, rfl, K1.out, HB2.out⟩
theorem span_Less_both (a1 a2 b1 b2 lo hi : Int) (w : World) (h : a1 < a2) (h1 : a1 < lo) (h2 : hi < a2)
  (hM : ∀ w, Calls Tryz.prog 142 #[.agg #[.int .i64 a1, .int .i64 a2], .agg #[.int .i64 b1, .int .i64 b2]] w fun e w' => e = .returned (.tuple #[.agg #[.int .i64 lo, .int .i64 hi], .bool true]) /\ Below w.heap.size w w') :
  Calls Tryz.prog 268 #[.agg #[.int .i64 a1, .int .i64 a2], .agg #[.int .i64 b1, .int .i64 b2]] w (GivesS w [(a1, lo), (hi, a2)]) := by
 go_enter Tryz.func268, Tryz.ntmps268
 go_wp2_with fail
 refine (hM _).mono ?_
 rintro e w1 ⟨rfl, hb⟩
 clear hM
 obtain ⟨c0, c1, hz, hb2⟩ := span_Less_step a1 a2 b1 b2 w w1 hb
 have HB : Hid (Below w.heap.size w w1) := hb2
 clear hb hb2
 go_wp2_with (at_builtin; refine wpList_appSp _ rfl (.tmp 28) (.tmp 34) rfl w.heap.size _ [] rfl (World.ownsRow_nil _ _ _ _) (w1.heap.size + 1) a1 lo rfl ?d0 ?d1 ?d2 ?d3 ?_)
 case d0 => simp
 case d1 => simp
 case d2 => simp
 case d3 => simp; omega
 intro v2 w2 k1 k2
 obtain ⟨d0, d1, d2, d3, hz2, hb2⟩ := span_Less_grown w w1 w2 a1 a2 lo hi a1 lo c0 c1 hz HB.out k2
 have HB2 : Hid (Below w.heap.size w w2) := hb2
 have K1 : Hid (w2.ownsRow w.heap.size 79 2 v2 1 (encs [(a1, lo)])) := k1
 clear k1 k2 hb2
 go_wp2_with (at_builtin; refine wpList_appSp _ rfl (.tmp 41) (.tmp 47) rfl w.heap.size _ [(a1, lo)] rfl (K1.out.alloc _) w2.heap.size hi a2 rfl ?e0 ?e1 ?e2 ?e3 ?_)
 case e0 => simp
 case e1 => simp
 case e2 => simp
 case e3 => simp; omega
 intro v3 w3 k3 k4
 have HB3 : Hid (Below w.heap.size w w3) := (HB2.out.alloc (by omega) _).grown k4 (by simp; omega) (fun k hk => (K1.out.lt k hk).1)
 have K3 : Hid (w3.ownsRow w.heap.size 79 2 v3 2 (encs [(a1, lo), (hi, a2)])) := k3
 clear k3 k4
 go_wp2
 go_ret
 exact ⟨_, rfl, K3.out, HB3.out⟩
theorem span_Less (a1 a2 b1 b2 : Int) (w : World) :
  Calls Tryz.prog 268 #[.agg #[.int .i64 a1, .int .i64 a2], .agg #[.int .i64 b1, .int .i64 b2]] w (GivesS w (lessS a1 a2 b1 b2)) := by
 unfold lessS
 by_cases h : a2 <= a1
 ·rw [if_pos h]; exact span_Less_empty a1 a2 b1 b2 w h
 ·rw [if_neg h]
  by_cases hm : mlo a1 b1 < mhi a2 b2
  ·rw [if_pos hm]
   have hM := fun w => span_Meet_yes a1 a2 b1 b2 w hm
   by_cases h1 : a1 < mlo a1 b1
   ·rw [if_pos h1]
    by_cases h2 : mhi a2 b2 < a2
    ·rw [if_pos h2]; exact span_Less_both a1 a2 b1 b2 _ _ w (by omega) h1 h2 hM
    ·rw [if_neg h2]; exact span_Less_first a1 a2 b1 b2 _ _ w (by omega) h1 h2 hM
   ·rw [if_neg h1]
    by_cases h2 : mhi a2 b2 < a2
    ·rw [if_pos h2]; exact span_Less_second a1 a2 b1 b2 _ _ w (by omega) h1 h2 hM
    ·rw [if_neg h2]; exact span_Less_none a1 a2 b1 b2 _ _ w (by omega) h1 h2 hM
  ·rw [if_neg hm]; exact span_Less_whole a1 a2 b1 b2 w (by omega) hm
theorem less_is (a b lo hi : Int) (h : max lo a < min hi b) : lessS a b lo hi = lessL a b lo hi := by
 unfold lessS lessL mlo mhi
 by_cases h1 : a < lo
 ·by_cases h2 : hi < b
  ·simp only [h1, h2, if_true]
   rw [if_neg (by omega), if_pos (by omega)]
  ·simp only [h1, h2, if_true, if_false]
   rw [if_neg (by omega), if_pos (by omega), if_neg (by omega)]
 ·by_cases h2 : hi < b
  ·simp only [h1, h2, if_true, if_false]
   rw [if_neg (by omega), if_pos (by omega), if_neg (by omega)]
  ·simp only [h1, h2, if_false]
   rw [if_neg (by omega), if_pos (by omega), if_neg (by omega), if_neg (by omega)]
end Go.Proofs.YtbmkmfoaoganeaaGreatDoor
