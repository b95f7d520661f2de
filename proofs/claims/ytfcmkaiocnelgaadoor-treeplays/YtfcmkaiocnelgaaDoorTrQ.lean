/- What the document's tree is asked: walked. -/
import Derived.Test.YtfcmkaiocnelgaaDoorTrR
namespace Go.Proofs.YtfcmkaiocnelgaaDoor
open Go.RowKit

theorem info_int : (Tryd.prog.info? 3).map (fun i => (i.zero, i.size, i.bytes)) = some (some (.int .i64 0), 1, 8) := by kernel_rfl

/-- append of one number to a slice of numbers that is the call's own. -/
theorem wpList_appI (w : World) {ops : Array Oper} {rest : List Oper} {o : Oper} {a : Act} {Q : Exit → Act → World → Prop} (hgd : o.guard = none) (s x : Operand)
    (ho : o.op = .call { callee := .builtin .append, args := #[s, x], argTypes := #[41, 41] })
    (base : Nat) (v : Value) (l : List Int) (hs : a.eval s = v) (hown : w.ownsRow base 3 1 v l.length (l.map (Value.int .i64)))
    (b : Nat) (y : Int) (hx : a.eval x = .slice (some ⟨b, 0, none⟩) 1 1) (hc0 : w.cell? ⟨b, 0, none⟩ = some (.int .i64 y))
    (hlen : l.length < 1099511627776) (hbase : base ≤ w.heap.size)
    (h : ∀ v' w', w'.ownsRow base 3 1 v' (l ++ [y]).length ((l ++ [y]).map (Value.int .i64)) → w.grownBy w' v.ownBlock → wpList Tryd.prog ops Q rest (a.put o.dst v') w') : wpList Tryd.prog ops Q (o :: rest) a w := by
  obtain ⟨i0, hi0, hz0, hz1, hz2⟩ := info_parts info_int
  refine wpList_append_own w hgd s x 41 ho base 3 i0 (.int .i64 0) 1 8 Tryd.underlying41 hi0 hz0 hz1 hz2 rfl (by decide) v l.length (l.map (Value.int .i64)) hs hown ⟨b, 0, none⟩ 1 1 [.int .i64 y] hx rfl ?_ ?_ ?_ ?_ hbase ?_
  · intro j u hj
    match j, hj with
    | 0, hj => simp at hj; subst hj; simpa [Addr.add] using hc0
  · intro u hu
    simp at hu
    subst hu; rfl
  · unfold maxLen; omega
  · omega
  · intro v' w' k1 k2 _
    refine h v' w' ?_ k2
    simpa using k1

theorem append_stepI {w wr w2 wn : World} {B n : Nat} {v : Value} {l : List Int} {y : Int} {t : TypeId} (hB : B ≤ wr.heap.size) (hb : Below B w wr) (b2 : Below n wr w2) (hn : B ≤ n) (hown : wr.ownsRow B 3 1 v l.length (l.map (Value.int .i64)))
    (hg : (w2.alloc (.cells #[.int .i64 y] t)).grownBy wn v.ownBlock) : Below B w wn :=
  ((hb.trans (b2.mono hn)).alloc (Nat.le_trans hB b2.size) _).grown hg (by have := b2.size; simp; omega) (fun k hk => (hown.lt k hk).1)

theorem RowS.form {w : World} {v : Value} {b : Nat} {l : List Ent} (h : RowS w v b l) : ∃ ad c, v = .slice ad l.length c ∧ ∀ j, (hj : j < l.length) → ad = some ⟨b, 0, none⟩ ∧ w.cell? ⟨b, j * 2, none⟩ = some (.int .i64 l[j].lo) ∧ w.cell? ⟨b, j * 2 + 1, none⟩ = some (.int .i64 l[j].hi) := by
  rcases h with ⟨rfl, rfl⟩ | ⟨c, rfl, _, _, h4⟩
  · exact ⟨none, 0, rfl, fun j hj => by simp at hj⟩
  · exact ⟨_, c, rfl, fun j hj => ⟨rfl, h4 j hj⟩⟩

theorem RowI.form {w : World} {v : Value} {b : Nat} {l : List Int} (h : RowI w v b l) : ∃ ad c, v = .slice ad l.length c ∧ ∀ j, (hj : j < l.length) → ad = some ⟨b, 0, none⟩ ∧ w.cell? ⟨b, j, none⟩ = some (.int .i64 l[j]) := by
  rcases h with ⟨rfl, rfl⟩ | ⟨c, rfl, _, _, h4⟩
  · exact ⟨none, 0, rfl, fun j hj => by simp at hj⟩
  · exact ⟨_, c, rfl, fun j hj => ⟨rfl, h4 j hj⟩⟩

set_option maxHeartbeats 1000000 in
theorem ref_Has (lo hi t : Int) (w : World) :
    Calls Tryd.prog 54 #[.agg #[.int .i64 lo, .int .i64 hi], .int .i64 t] w fun e w' => e = .returned (.bool (decide (lo ≤ t ∧ t < hi))) ∧ w' = w.alloc (.cells #[.int .i64 lo, .int .i64 hi] 29) := by
  by_cases h1 : lo ≤ t
  · by_cases h2 : t < hi
    · have e : decide (lo ≤ t ∧ t < hi) = true := by simp [h1, h2]
      rw [e]
      clear e
      go_enter Tryd.func54, Tryd.ntmps54
      go_wp2
      go_ret
      exact ⟨rfl, rfl⟩
    · have e : decide (lo ≤ t ∧ t < hi) = false := by simp [h2]
      rw [e]
      clear e
      go_enter Tryd.func54, Tryd.ntmps54
      go_wp2
      go_ret
      exact ⟨rfl, rfl⟩
  · have e : decide (lo ≤ t ∧ t < hi) = false := by simp [h1]
    rw [e]
    clear e
    go_enter Tryd.func54, Tryd.ntmps54
    go_wp2
    go_ret
    exact ⟨rfl, rfl⟩

/-- Numbers that a call hands back in a row of its own. -/
def GivesI (l : List Int) (w : World) (e : Ending) (w' : World) : Prop := ∃ v, e = .returned v ∧ w'.ownsRow w.heap.size 3 1 v l.length (l.map (Value.int .i64)) ∧ Below w.heap.size w w'

theorem filter_snoc (p : Ent → Bool) (L : List Ent) (k : Nat) (hk : k < L.length) : ((L.take (k + 1)).filter p).map (·.id) = ((L.take k).filter p).map (·.id) ++ (if p L[k] = true then [L[k].id] else []) := by
  rw [List.take_succ_eq_append_getElem hk, List.filter_append, List.map_append]
  congr 1
  by_cases h : p L[k] = true
  · simp [h]
  · simp [h]

theorem filter_len (p : Ent → Bool) (L : List Ent) (k : Nat) : (((L.take k).filter p).map (·.id)).length ≤ L.length := by
  rw [List.length_map]
  exact Nat.le_trans (List.length_filter_le _ _) (by simp; omega)

set_option maxRecDepth 100000 in
set_option maxHeartbeats 4000000 in
theorem ref_At (L : List Ent) (B bi bs : Nat) (t : Int) (w : World) (hl : L.length ≤ 100000) (h : RefTree w B bi bs L) :
    Calls Tryd.prog 48 #[.pointer (some ⟨B, 0, none⟩), .int .i64 t] w (GivesI (atT L t) w) := by
  obtain ⟨vi, vs, c0, c1, _, _, hi, hs⟩ := h
  obtain ⟨ai, ci, rfl, hI⟩ := hi.form
  obtain ⟨az, cs, rfl, hS⟩ := hs.form
  rw [List.length_map] at c0
  have HI : Hid (∀ j, (hj : j < L.length) → ai = some ⟨bi, 0, none⟩ ∧ w.cell? ⟨bi, j, none⟩ = some (.int .i64 L[j].id)) := fun j hj => by
    have := hI j (by simpa using hj)
    simpa using this
  have HS := hide hS
  have HC := hide c0
  clear hI hS hi hs
  have hBl := lt_of_cell c0
  clear c0
  go_enter Tryd.func48, Tryd.ntmps48
  go_wp2
  go_loopw [5, 13] (fun v i x => ∃ k : Nat, k ≤ L.length ∧ i = .int .i64 k ∧ x.ownsRow w.heap.size 3 1 v (((L.take k).filter (hasE t)).map (·.id)).length ((((L.take k).filter (hasE t)).map (·.id)).map (Value.int .i64)) ∧ Below w.heap.size w x) (fun _ i _ => L.length - (intOf i).toNat)
  case atStart => exact ⟨0, Nat.zero_le _, rfl, by simpa using World.ownsRow_nil _ _ _ _, Below.refl _ _⟩
  case round =>
    obtain ⟨k, hk, rfl, hown, hb⟩ := hrel
    by_cases hlt : k < L.length
    · have hlt' : (k : Int) < (L.length : Int) := by omega
      obtain ⟨rfl, s0, s1⟩ := unhide HS k hlt
      obtain ⟨rfl, i0⟩ := unhide HI k hlt
      have t0 := (hb.cell (p := ⟨bs, k * 2, none⟩) (lt_of_cell s0)).trans s0
      have t1 := (hb.cell (p := ⟨bs, k * 2 + 1, none⟩) (lt_of_cell s1)).trans s1
      have hz := hb.size
      have HA := hide (fun W => ref_Has L[k].lo L[k].hi t W)
      have HF := hide (filter_snoc (hasE t) L k hlt)
      have hFl := filter_len (hasE t) L k
      have HB := hide hb
      have HO := hide hown
      clear hb hown s0 s1
      have hF : ∃ F, F = ((L.take k).filter (hasE t)).map (·.id) := ⟨_, rfl⟩
      obtain ⟨F, hF⟩ := hF
      rw [← hF] at HO HF hFl
      clear hF
      have hF3 : F.length < 1099511627776 := by omega
      have HT := hide i0
      clear i0
      go_wp2_with fail
      refine (unhide HA _).mono ?_
      rintro e w2 ⟨rfl, hw2⟩
      have B2 : Hid (Below wr.heap.size wr w2) := by unfold Hid; rw [hw2]; exact (below_box _ _).trans ((below_box _ _).mono (by simp))
      have c2 := ((unhide HB).trans ((unhide B2).mono hz)).cell (p := ⟨B, 0, none⟩) hBl |>.trans (unhide HC)
      have i2 := ((unhide HB).trans ((unhide B2).mono hz)).cell (p := ⟨bi, k, none⟩) (lt_of_cell (unhide HT)) |>.trans (unhide HT)
      clear hw2 HA HT
      cases hh : hasE t L[k] with
      | true =>
        have hh' : decide (L[k].lo ≤ t ∧ t < L[k].hi) = true := hh
        rw [hh] at HF
        rw [hh']
        have HF' : Hid (((L.take (k + 1)).filter (hasE t)).map (·.id) = F ++ [L[k].id]) := HF
        clear HF hh hh'
        generalize L[k].id = y at *
        have O2 := hide (ownsRow_carry (unhide HO) (unhide B2))
        go_wp2_with (at_builtin; refine wpList_appI _ rfl (.tmp 21) (.tmp 29) rfl w.heap.size _ F rfl ((unhide O2).alloc _) w2.heap.size y rfl ?d0 hF3 ?d3 ?_)
        case d0 => simp
        case d3 => have := (unhide B2).size; simp; omega
        intro v' wn k1 k2
        have HBN := hide (append_stepI hz (unhide HB) (unhide B2) hz (unhide HO) k2)
        have HON : Hid (wn.ownsRow w.heap.size 3 1 v' (((L.take (k + 1)).filter (hasE t)).map (·.id)).length ((((L.take (k + 1)).filter (hasE t)).map (·.id)).map (Value.int .i64))) := by unfold Hid; rw [unhide HF']; simpa using k1
        clear k1 k2 HO O2 HB B2 c2 i2 HS HI HC HF'
        go_wp2
        go_roundw
        case rel => exact ⟨k + 1, by omega, by go_num, unhide HON, unhide HBN⟩
        case measure => simp [intOf]; omega
      | false =>
        have hh' : decide (L[k].lo ≤ t ∧ t < L[k].hi) = false := hh
        rw [hh] at HF
        rw [hh']
        have HF' : Hid (((L.take (k + 1)).filter (hasE t)).map (·.id) = F) := by have := unhide HF; unfold Hid; simpa using this
        have HBN := hide ((unhide HB).trans ((unhide B2).mono hz))
        have HON : Hid (w2.ownsRow w.heap.size 3 1 u5 (((L.take (k + 1)).filter (hasE t)).map (·.id)).length ((((L.take (k + 1)).filter (hasE t)).map (·.id)).map (Value.int .i64))) := by unfold Hid; rw [unhide HF']; exact ownsRow_carry (unhide HO) (unhide B2)
        clear HF hh hh' HO HB B2 c2 i2 HS HI HC HF'
        go_wp2
        go_roundw
        case rel => exact ⟨k + 1, by omega, by go_num, unhide HON, unhide HBN⟩
        case measure => simp [intOf]; omega
    · have hlt' : ¬ (k : Int) < (L.length : Int) := by omega
      obtain rfl : k = L.length := by omega
      rw [List.take_length] at hown
      have HO := hide hown
      have HB := hide hb
      clear hown hb HS HI HC
      go_wp2
      go_ret
      exact ⟨_, rfl, unhide HO, unhide HB⟩

end Go.Proofs.YtfcmkaiocnelgaaDoor
