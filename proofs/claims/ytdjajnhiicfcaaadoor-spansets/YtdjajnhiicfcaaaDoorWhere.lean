/- What Where makes of a sorted list of ends and a function that says which times are so. -/
import Derived.Test.YtdjajnhiicfcaaaDoorSorted
namespace Go.Proofs.YtdjajnhiicfcaaaDoor
open Go.RowKit Palim

theorem hide {q : Prop} (h : q) : Hid q := h
theorem unhide {q : Prop} (h : Hid q) : q := h

def tl : Option Int → List (Int × Int)
  | none => []
  | some f => [(f, 0)]

/-- What a function that is told a time says of it, wherever all that lay in w lies as it lay. -/
def Says (w : World) (g : Nat) (lb : Array Value) (p : Int → Bool) : Prop :=
  ∀ W t, Below w.heap.size w W → Calls Tryd.prog g (#[.int .i64 t] ++ lb) W fun e w' => e = .returned (.bool (p t)) ∧ Below W.heap.size W w'

theorem where_cell {w1 : World} {B g cap : Nat} {done : List (Int × Int)} {f : Int} (h : w1.ownsRow B 29 2 (.slice (some ⟨g, 0, none⟩) (done.length + 1) cap) (done.length + 1) (encs (done ++ [(f, 0)]))) :
    w1.cell? ⟨g, done.length * 2 + 1, none⟩ = some (.int .i64 0) := by
  rw [h.cellAt (done.length * 2 + 1) (by omega), encs_append, List.getElem?_append_right (by rw [encs_length]; omega), encs_length]
  simp [encs]

theorem where_store {w1 : World} {B g cap : Nat} {done : List (Int × Int)} {f t : Int} (h : w1.ownsRow B 29 2 (.slice (some ⟨g, 0, none⟩) (done.length + 1) cap) (done.length + 1) (encs (done ++ [(f, 0)]))) :
    (w1.setCell ⟨g, done.length * 2 + 1, none⟩ (.int .i64 t)).ownsRow B 29 2 (.slice (some ⟨g, 0, none⟩) (done.length + 1) cap) (done.length + 1) (encs (done ++ [(f, t)])) ∧ w1.grownBy (w1.setCell ⟨g, done.length * 2 + 1, none⟩ (.int .i64 t)) (some g) := by
  have := h.stored (done.length * 2 + 1) (.int .i64 t)
  refine ⟨?_, this.2⟩
  have e : (encs (done ++ [(f, 0)])).set (done.length * 2 + 1) (.int .i64 t) = encs (done ++ [(f, t)]) := by
    rw [encs_append, encs_append, List.set_append_right _ _ (by rw [encs_length]; omega), encs_length]
    simp [encs]
  rw [← e]
  exact this.1

set_option maxHeartbeats 2000000 in
theorem where_cells (ends : List Int) (p : Int → Bool) (g : Nat) (lb : Array Value) (ge cap : Nat) (w : World) (hge : ge < w.heap.size) (hlen : ends.length < 1099511627776)
    (eg : ∀ args w, (callFunc g args).run Tryd.prog w = .ok (.enter g args) w)
    (hc : ∀ k, (hk : k < ends.length) → w.cell? ⟨ge, k, none⟩ = some (.int .i64 ends[k])) (hp : Says w g lb p) :
    Calls Tryd.prog 14 #[.slice (some ⟨ge, 0, none⟩) ends.length cap, .func (.func g) #[] lb] w (Gives w (go p ends none)) := by
  go_enter Tryd.func14, Tryd.ntmps14
  go_wp2
  go_loopw [5, 6, 12] (fun v op i wr => ∃ (k : Nat) (done : List (Int × Int)) (o : Option Int), k ≤ ends.length ∧ i = .int .i64 k ∧ op = .bool o.isSome ∧ done.length ≤ k ∧ wr.ownsRow w.heap.size 29 2 v (done ++ tl o).length (encs (done ++ tl o)) ∧ Below w.heap.size w wr ∧ done ++ go p (ends.drop k) o = go p ends none) (fun _ _ i _ => ends.length - (intOf i).toNat)
  case atStart => exact ⟨0, [], none, Nat.zero_le _, rfl, rfl, Nat.le_refl _, World.ownsRow_nil _ _ _ _, Below.refl _ _, rfl⟩
  case round =>
    obtain ⟨k, done, o, hk, rfl, rfl, hdk, hown, hb, hgo⟩ := hrel
    by_cases hlt : k < ends.length
    · have hc0 := (hb.cell (p := ⟨ge, k, none⟩) hge).trans (hc k hlt)
      have hdr : ends.drop k = ends[k] :: ends.drop (k + 1) := List.drop_eq_getElem_cons hlt
      rw [hdr] at hgo
      have HGO : Hid (done ++ go p (ends[k] :: ends.drop (k + 1)) o = go p ends none) := hgo
      clear hgo hdr
      generalize ends[k] = t at hc0 HGO
      have hpt := hp wr t hb
      clear hc
      have HO : Hid (∀ w1, Below wr.heap.size wr w1 → w1.ownsRow w.heap.size 29 2 u5 (done ++ tl o).length (encs (done ++ tl o))) := fun w1 h1 => ownsRow_carry hown h1
      have HB : Hid (∀ w1, Below wr.heap.size wr w1 → Below w.heap.size w w1 ∧ w.heap.size ≤ w1.heap.size) := fun w1 h1 => ⟨hb.trans (h1.mono hb.size), Nat.le_trans hb.size h1.size⟩
      have HV : Hid ((done ++ tl o).length ≠ 0 → ∃ g2 cap2, u5 = .slice (some ⟨g2, 0, none⟩) (done ++ tl o).length cap2) := by
        intro h0
        rcases hown.2 with ⟨_, h2⟩ | ⟨g2, cap2, _, hv, _⟩
        · exact absurd h2 h0
        · exact ⟨g2, cap2, hv⟩
      clear hown hb hp
      cases hpb : p t
      · cases o with
        | none =>
          have HN : Hid (done ++ go p (ends.drop (k + 1)) none = go p ends none) := by have := HGO.out; unfold Hid; simpa [go, hpb] using this
          rw [hpb] at hpt
          clear HGO hpb
          go_wp2_with fail
          refine hpt.mono ?_
          rintro e w1 ⟨rfl, h1⟩
          have HO1 := hide (HO.out w1 h1)
          have HB1 := hide (HB.out w1 h1)
          clear h1 HO HB hpt
          go_wp2
          go_roundw
          case rel => exact ⟨k + 1, done, none, by omega, by go_num, rfl, by omega, unhide HO1, (unhide HB1).1, HN.out⟩
          case measure => simp [intOf]; omega
        | some f =>
          have HN : Hid ((done ++ [(f, t)]) ++ go p (ends.drop (k + 1)) none = go p ends none) := by have := HGO.out; unfold Hid; simpa [go, hpb] using this
          rw [hpb] at hpt
          obtain ⟨g2, cap2, hv⟩ := HV.out (by simp [tl])
          subst hv
          clear HGO hpb HV
          simp only [tl, List.length_append, List.length_singleton] at HO ⊢
          go_wp2_with fail
          refine hpt.mono ?_
          rintro e w1 ⟨rfl, h1⟩
          have HO1 := hide (HO.out w1 h1)
          have HB1 := hide (HB.out w1 h1)
          have hcl := where_cell (unhide HO1)
          have hfz := (unhide HO1).frozenAt (done.length * 2 + 1)
          clear h1 HO HB hpt
          go_wp2
          have hst := where_store (t := t) (unhide HO1)
          refine ⟨⟨k + 1, done ++ [(f, t)], none, by omega, by go_num, rfl, by simp; omega, by simpa using hst.1, ?_, HN.out⟩, by simp [intOf]; omega⟩
          exact (unhide HB1).1.grown hst.2 (unhide HB1).2 (fun k hk => ((unhide HO1).lt k hk).1)
      · cases o with
        | some f =>
          have HN : Hid (done ++ go p (ends.drop (k + 1)) (some f) = go p ends none) := by have := HGO.out; unfold Hid; simpa [go, hpb] using this
          rw [hpb] at hpt
          clear HGO hpb
          go_wp2_with fail
          refine hpt.mono ?_
          rintro e w1 ⟨rfl, h1⟩
          have HO1 := hide (HO.out w1 h1)
          have HB1 := hide (HB.out w1 h1)
          clear h1 HO HB hpt
          go_wp2
          go_roundw
          case rel => exact ⟨k + 1, done, some f, by omega, by go_num, rfl, by omega, unhide HO1, (unhide HB1).1, HN.out⟩
          case measure => simp [intOf]; omega
        | none =>
          have HN : Hid (done ++ go p (ends.drop (k + 1)) (some t) = go p ends none) := by have := HGO.out; unfold Hid; simpa [go, hpb] using this
          rw [hpb] at hpt
          clear HGO hpb
          go_wp2_with fail
          refine hpt.mono ?_
          rintro e w1 ⟨rfl, h1⟩
          have HO1 := hide (HO.out w1 h1)
          have HB1 := hide (HB.out w1 h1)
          have hz1 : w.heap.size ≤ w1.heap.size := (unhide HB1).2
          clear h1 HO HB hpt
          simp only [tl, List.append_nil] at HO1
          go_wp2_with (at_builtin; refine wpList_app23 _ rfl (.tmp 25) (.tmp 28) rfl w.heap.size _ done rfl ((unhide HO1).alloc _) w1.heap.size t 0 rfl ?d0 ?d1 ?d2 ?d3 ?_)
          case d0 => simp
          case d1 => simp
          case d2 => omega
          case d3 => simp; omega
          intro v' wn k1 k2
          have HB2 : Hid (Below w.heap.size w wn) := ((unhide HB1).1.alloc hz1 _).grown k2 (by simp; omega) (fun k hk => ((unhide HO1).lt k hk).1)
          have HO2 : Hid (wn.ownsRow w.heap.size 29 2 v' (done ++ tl (some t)).length (encs (done ++ tl (some t)))) := by unfold Hid; simpa [tl] using k1
          clear k1 k2
          go_wp2
          go_roundw
          case rel => exact ⟨k + 1, done, some t, by omega, by go_num, rfl, by omega, unhide HO2, HB2.out, HN.out⟩
          case measure => simp [intOf]; omega
    · have hdk : ends.drop k = [] := List.drop_eq_nil_of_le (by omega)
      rw [hdk] at hgo
      have hgo2 : done ++ tl o = go p ends none := by rw [← hgo]; cases o <;> rfl
      rw [hgo2] at hown
      have HO := hide hown
      have HB := hide hb
      clear hown hb hgo hgo2 hdk hc hp
      go_wp2
      go_ret
      exact ⟨_, rfl, unhide HO, unhide HB⟩

set_option maxHeartbeats 1000000 in
theorem where_none (p : Int → Bool) (ad : Option Addr) (cap : Nat) (f : Value) (w : World) :
    Calls Tryd.prog 14 #[.slice ad 0 cap, f] w (Gives w (go p [] none)) := by
  go_enter Tryd.func14, Tryd.ntmps14
  go_wp2
  refine wp_loop_rounds 1 ?_
  rw [rounds_succ]
  go_wp2
  go_ret
  exact ⟨_, rfl, World.ownsRow_nil _ _ _ _, Below.refl _ _⟩

/-- What Where returns, of ends that lie in a slice of numbers. -/
theorem ref_Where (ends : List Int) (p : Int → Bool) (g : Nat) (lb : Array Value) (base : Nat) (v : Value) (w : World) (hlen : ends.length < 1099511627776)
    (eg : ∀ args w, (callFunc g args).run Tryd.prog w = .ok (.enter g args) w)
    (hown : w.ownsRow base 3 1 v ends.length (ends.map (Value.int .i64))) (hp : Says w g lb p) :
    Calls Tryd.prog 14 #[v, .func (.func g) #[] lb] w (Gives w (go p ends none)) := by
  rcases hown.2 with ⟨rfl, h0⟩ | ⟨ge, cap, cur, rfl, hbg, hg, hnc, hcm, hcs, htake⟩
  · have hz : ends = [] := List.eq_nil_of_length_eq_zero h0
    subst hz
    exact where_none p none 0 _ w
  · refine where_cells ends p g lb ge cap w ?_ hlen eg ?_ hp
    · exact (Array.getElem?_eq_some_iff.1 hg).1
    · intro k hk
      rw [hown.cellAt k (by omega)]
      simp [hk]

end Go.Proofs.YtdjajnhiicfcaaaDoor
