/- What Ends gathers of lists of spans: all their ends, behind one another; sorted behind that. -/
import Derived.Test.YtdjajnhiicfcaaaDoorSame
namespace Go.Proofs.YtdjajnhiicfcaaaDoor
open Go.RowKit

/-- The ends of spans. -/
def sides : List (Int × Int) → List Int
  | [] => []
  | x :: l => x.1 :: x.2 :: sides l
def allSides : List (List (Int × Int)) → List Int
  | [] => []
  | l :: L => sides l ++ allSides L

theorem sides_append (l m : List (Int × Int)) : sides (l ++ m) = sides l ++ sides m := by
  induction l with
  | nil => rfl
  | cons x l ih => simp [sides, ih]
theorem sides_length (l : List (Int × Int)) : (sides l).length = l.length * 2 := by
  induction l with
  | nil => rfl
  | cons x l ih => simp [sides, ih]; omega
theorem allSides_append (L M : List (List (Int × Int))) : allSides (L ++ M) = allSides L ++ allSides M := by
  induction L with
  | nil => rfl
  | cons x L ih => simp [allSides, ih]
theorem allSides_take (L : List (List (Int × Int))) (k : Nat) (h : k < L.length) : allSides (L.take (k + 1)) = allSides (L.take k) ++ sides L[k] := by
  rw [List.take_succ_eq_append_getElem h, allSides_append]
  simp [allSides]
theorem sides_take (l : List (Int × Int)) (k : Nat) (h : k < l.length) : sides (l.take (k + 1)) = sides (l.take k) ++ [l[k].1, l[k].2] := by
  rw [List.take_succ_eq_append_getElem h, sides_append]
  simp [sides]
theorem allSides_le (L : List (List (Int × Int))) (k : Nat) : (allSides (L.take k)).length ≤ (allSides L).length := by
  have : allSides L = allSides (L.take k) ++ allSides (L.drop k) := by rw [← allSides_append, List.take_append_drop]
  rw [this]; simp

theorem info3 : (Tryd.prog.info? 3).map (fun i => (i.zero, i.size, i.bytes)) = some (some (.int .i64 0), 1, 8) := by kernel_rfl

/-- append of two numbers to a slice of numbers that is the call's own. -/
theorem wpList_app3 (w : World) {ops : Array Oper} {rest : List Oper} {o : Oper} {a : Act} {Q : Exit → Act → World → Prop} (hgd : o.guard = none) (s x : Operand)
    (ho : o.op = .call { callee := .builtin .append, args := #[s, x], argTypes := #[41, 41] })
    (base : Nat) (v : Value) (l : List Int) (hs : a.eval s = v) (hown : w.ownsRow base 3 1 v l.length (l.map (Value.int .i64)))
    (b : Nat) (x1 x2 : Int) (hx : a.eval x = .slice (some ⟨b, 0, none⟩) 2 2) (hc0 : w.cell? ⟨b, 0, none⟩ = some (.int .i64 x1)) (hc1 : w.cell? ⟨b, 1, none⟩ = some (.int .i64 x2))
    (hlen : l.length < 1099511627776) (hbase : base ≤ w.heap.size)
    (h : ∀ v' w', w'.ownsRow base 3 1 v' (l ++ [x1, x2]).length ((l ++ [x1, x2]).map (Value.int .i64)) → w.grownBy w' v.ownBlock → wpList Tryd.prog ops Q rest (a.put o.dst v') w') : wpList Tryd.prog ops Q (o :: rest) a w := by
  obtain ⟨i0, hi0, hz0, hz1, hz2⟩ := info_parts info3
  refine wpList_append_own w hgd s x 41 ho base 3 i0 (.int .i64 0) 1 8 Tryd.underlying41 hi0 hz0 hz1 hz2 rfl (by decide) v l.length (l.map (Value.int .i64)) hs hown ⟨b, 0, none⟩ 2 2 [.int .i64 x1, .int .i64 x2] hx rfl ?_ ?_ ?_ ?_ hbase ?_
  · intro j u hj
    match j, hj with
    | 0, hj => simp at hj; subst hj; simpa [Addr.add] using hc0
    | 1, hj => simp at hj; subst hj; simpa [Addr.add] using hc1
  · intro u hu
    simp at hu
    rcases hu with rfl | rfl <;> rfl
  · unfold maxLen; omega
  · omega
  · intro v' w' k1 k2 _
    refine h v' w' ?_ k2
    simpa using k1

theorem ends_step {w wr wn : World} {B : Nat} {v : Value} {l : List Int} {x1 x2 : Int} (hB : B ≤ wr.heap.size) (hb : Below B w wr) (hown : wr.ownsRow B 3 1 v l.length (l.map (Value.int .i64)))
    (hg : ((wr.alloc (.cells #[.int .i64 x1, .int .i64 x2] 29)).alloc (.cells #[.int .i64 x1, .int .i64 x2] 3)).grownBy wn v.ownBlock) : Below B w wn :=
  ((hb.alloc hB _).alloc (by simp; omega) _).grown hg (by simp; omega) (fun k hk => (hown.lt k hk).1)

set_option maxHeartbeats 2000000 in
/-- Up to the sort: what has been gathered. -/
theorem ends_gather (L : List (List (Int × Int))) (V : Nat → Value) (bo co base : Nat) (w : World) (hbo : bo < w.heap.size) (hL : L.length < 1099511627776) (hlen : (allSides L).length < 1099511627776)
    (hcell : ∀ i, i < L.length → w.cell? ⟨bo, i, none⟩ = some (V i)) (hV : ∀ i, (hi : i < L.length) → w.ownsRow base 29 2 (V i) L[i].length (encs L[i]))
    (post : Ending → World → Prop)
    (hS : ∀ v wr, wr.ownsRow w.heap.size 3 1 v (allSides L).length ((allSides L).map (Value.int .i64)) → Below w.heap.size w wr → Calls Tryd.prog 21 #[v] wr fun e w' => e = .returned (.tuple #[]) ∧ post (.returned v) w') :
    Calls Tryd.prog 13 #[.slice (some ⟨bo, 0, none⟩) L.length co] w post := by
  generalize hm : L.length = m at hL
  go_enter Tryd.func13, Tryd.ntmps13
  go_wp2
  go_loopw [3, 10] (fun v i wr => ∃ k : Nat, k ≤ m ∧ i = .int .i64 k ∧ wr.ownsRow w.heap.size 3 1 v (allSides (L.take k)).length ((allSides (L.take k)).map (Value.int .i64)) ∧ Below w.heap.size w wr) (fun _ i _ => m - (intOf i).toNat)
  case atStart => exact ⟨0, Nat.zero_le _, rfl, World.ownsRow_nil _ _ _ _, Below.refl _ _⟩
  case round =>
    obtain ⟨k, hk, rfl, hown, hb⟩ := hrel
    by_cases hlt : k < m
    · have hkL : k < L.length := by omega
      have hcx : wr.cell? ⟨bo, k, none⟩ = some (V k) := (hb.cell (p := ⟨bo, k, none⟩) hbo).trans (hcell k hkL)
      have hVk := hV k hkL
      have hz := hb.size
      have hall := allSides_take L k hkL
      have hle := allSides_le L (k + 1)
      rw [hall, List.length_append, sides_length] at hle
      have HALL : Hid (allSides (L.take (k + 1)) = allSides (L.take k) ++ sides L[k]) := hall
      clear hall
      generalize L[k] = l at hVk hle HALL
      generalize allSides (L.take k) = G at hown hle HALL
      rcases ownsRow_view hVk with ⟨hv, hl⟩ | ⟨g, cap, hv, hg, _, _, hc⟩
      · rw [hv] at hcx
        subst hl
        have HO : Hid (wr.ownsRow w.heap.size 3 1 u3 G.length (G.map (Value.int .i64))) := hown
        have HB : Hid (Below w.heap.size w wr) := hb
        clear hown hb hv hVk hcell hV
        go_wp2
        refine wp_loop_rounds 1 ?_
        rw [rounds_succ]
        go_wp2
        go_roundw
        case rel => exact ⟨k + 1, by omega, by go_num, by rw [HALL.out]; simpa [sides] using HO.out, HB.out⟩
        case measure => simp [intOf]; omega
      · rw [hv] at hcx
        have HO : Hid (wr.ownsRow w.heap.size 3 1 u3 G.length (G.map (Value.int .i64))) := hown
        have HB : Hid (Below w.heap.size w wr) := hb
        clear hown hb hv hVk hcell hV
        go_wp2
        go_loopw [3, 16] (fun v i wx => ∃ j : Nat, j ≤ l.length ∧ i = .int .i64 j ∧ wx.ownsRow w.heap.size 3 1 v (G ++ sides (l.take j)).length ((G ++ sides (l.take j)).map (Value.int .i64)) ∧ Below w.heap.size w wx) (fun _ i _ => l.length - (intOf i).toNat)
        case atStart => exact ⟨0, Nat.zero_le _, rfl, by simpa [sides] using HO.out, HB.out⟩
        case round =>
          obtain ⟨j, hj, rfl, hownj, hbj⟩ := hrel
          by_cases hjl : j < l.length
          · have hc0 := (hbj.cell (p := ⟨g, j * 2, none⟩) hg).trans (hc j hjl).1
            have hc1 := (hbj.cell (p := ⟨g, j * 2 + 1, none⟩) hg).trans (hc j hjl).2
            have hst := sides_take l j hjl
            have hsl : (sides (l.take j)).length ≤ l.length * 2 := by rw [sides_length]; simp; omega
            have HST : Hid (sides (l.take (j + 1)) = sides (l.take j) ++ [l[j].1, l[j].2]) := hst
            clear hst hc
            generalize l[j].1 = x1 at hc0 HST
            generalize l[j].2 = x2 at hc1 HST
            have hzj := hbj.size
            have HOJ : Hid (wr.ownsRow w.heap.size 3 1 u3 (G ++ sides (l.take j)).length ((G ++ sides (l.take j)).map (Value.int .i64))) := hownj
            have HBJ : Hid (Below w.heap.size w wr) := hbj
            clear hownj hbj
            have hgl : (G ++ sides (l.take j)).length < 1099511627776 := by simp only [List.length_append]; omega
            have hF1 : ∃ F, F = G ++ sides (l.take j) := ⟨_, rfl⟩
            obtain ⟨F, hF⟩ := hF1
            have HJJ : Hid (G ++ sides (l.take (j + 1)) = F ++ [x1, x2]) := by rw [HST.out, hF, List.append_assoc]; rfl
            rw [← hF] at HOJ hgl
            clear hF
            go_wp2_with (at_builtin; refine wpList_app3 _ rfl (.tmp 20) (.tmp 25) rfl w.heap.size _ F rfl ((HOJ.out.alloc _).alloc _) (wr.heap.size + 1) x1 x2 rfl ?d0 ?d1 hgl ?d3 ?_)
            case d0 => simp
            case d1 => simp
            case d3 => simp; omega
            intro v' wn k1 k2
            have HBN : Hid (Below w.heap.size w wn) := ends_step hzj HBJ.out HOJ.out k2
            have HON : Hid (wn.ownsRow w.heap.size 3 1 v' (F ++ [x1, x2]).length ((F ++ [x1, x2]).map (Value.int .i64))) := by unfold Hid; simpa using k1
            clear k1 k2
            go_wp2
            refine ⟨⟨j + 1, by omega, by go_num, ?_, HBN.out⟩, by simp [intOf]; omega⟩
            rw [HJJ.out]; exact HON.out
          · have hjl2 : j = l.length := by omega
            have HO2 : Hid (wr.ownsRow w.heap.size 3 1 u3 (G ++ sides l).length ((G ++ sides l).map (Value.int .i64))) := by
              subst hjl2; unfold Hid; simpa using hownj
            have HB2 : Hid (Below w.heap.size w wr) := hbj
            clear hownj hbj hjl2 hc
            go_wp2
            go_roundw
            case rel => exact ⟨k + 1, by omega, by go_num, by rw [HALL.out]; exact HO2.out, HB2.out⟩
            case measure => simp [intOf]; omega
    · have hkm : L.take k = L := List.take_of_length_le (by omega)
      rw [hkm] at hown
      have hS2 := hS u3 wr hown hb
      clear hS hcell hV hkm hown hb
      go_wp2_with fail
      refine hS2.mono ?_
      rintro e w' ⟨rfl, hp⟩
      go_wp2
      exact hp

end Go.Proofs.YtdjajnhiicfcaaaDoor
