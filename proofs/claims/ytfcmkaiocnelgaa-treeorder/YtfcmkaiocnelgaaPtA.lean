/- What Add and Drop lean on: a row with one more, one less; what the map tells. -/
import Derived.Test.YtfcmkaiocnelgaaPtT
import Derived.Test.YtfcmkaiocnelgaaPtP
import Derived.Test.YtfcmkaiocnelgaaPtL
import Derived.Test.YtfcmkaiocnelgaaPtS
namespace Go.Proofs.Ytfcmkaiocnelgaa
open Go.RowKit Go.Maps

theorem row_cell {w : World} {base q c : Nat} {X : List (Nat × Ent)} (h : w.ownsRow base 47 1 (.slice (some ⟨q, 0, none⟩) X.length c) X.length (X.map ptrB)) : ∀ j v, (X.map ptrB)[j]? = some v → w.cell? ⟨q, j, none⟩ = some v := fun j v hj => by
  have hj' : j < X.length := by
    have := (List.getElem?_eq_some_iff.1 hj).1
    simpa using this
  rw [h.cellAt j (by simpa using hj'), hj]

theorem row_some {w : World} {base q n c : Nat} {xs : List Value} (h : w.ownsRow base 47 1 (.slice (some ⟨q, 0, none⟩) n c) n xs) (j : Nat) (hj : j < c) : (w.cell? ⟨q, j, none⟩).isSome = true := by
  obtain ⟨cur, h1, h2, _⟩ := row_block h
  have hjc : j < cur.size := by omega
  simp [World.cell?, h1, hjc]

theorem ins_at (X : List (Nat × Ent)) (p : Nat × Ent) (i j : Nat) (hi : i ≤ X.length) (h : j < (X.take i ++ p :: X.drop i).length) :
    (j < i ∧ ∃ h' : j < X.length, (X.take i ++ p :: X.drop i)[j] = X[j]) ∨ (j = i ∧ (X.take i ++ p :: X.drop i)[j] = p) ∨ (i < j ∧ ∃ h' : j - 1 < X.length, (X.take i ++ p :: X.drop i)[j] = X[j - 1]) := by
  have hl : (X.take i).length = i := by simp; omega
  have hlen : (X.take i ++ p :: X.drop i).length = X.length + 1 := by simp; omega
  rcases Nat.lt_trichotomy j i with k | k | k
  · refine .inl ⟨k, by omega, ?_⟩
    rw [List.getElem_append_left (by omega), List.getElem_take]
  · subst k
    refine .inr (.inl ⟨rfl, ?_⟩)
    rw [List.getElem_append_right (by omega)]
    simp [hl]
  · refine .inr (.inr ⟨k, by omega, ?_⟩)
    rw [List.getElem_append_right (by omega)]
    obtain ⟨m, rfl⟩ : ∃ m, j = i + 1 + m := ⟨j - (i + 1), by omega⟩
    simp only [hl, show i + 1 + m - i = m + 1 by omega, List.getElem_cons_succ, List.getElem_drop]
    congr 1
    omega

theorem ins_node (X : List (Nat × Ent)) (p : Nat × Ent) (q c base i vb : Nat) (w : World) (hr : w.ownsRow base 47 1 (.slice (some ⟨q, 0, none⟩) X.length c) X.length (X.map ptrB)) (hc : X.length + 1 ≤ c) (hc2 : c ≤ 1000000) (hi : i ≤ X.length) (hq : vb ≠ q)
    (hv : w.heap[vb]? = some (.cells #[ptrB p] 47 (0, 0))) :
    Calls Try.prog 48 #[.slice (some ⟨q, 0, none⟩) X.length c, .int .i64 i, .slice (some ⟨vb, 0, none⟩) 1 1] w fun e w' =>
      e = .returned (.slice (some ⟨q, 0, none⟩) (X.length + 1) c) ∧ (∀ j, (h : j < (X.take i ++ p :: X.drop i).length) → w'.cell? ⟨q, j, none⟩ = some (ptrB (X.take i ++ p :: X.drop i)[j])) ∧ Keeps (· = q) w w' := by
  obtain ⟨cur, hcur, hsz, _⟩ := row_block hr
  have h1c : ∀ v ∈ X.map ptrB, v.oneCell' = true := fun v hv => by
    obtain ⟨x, _, rfl⟩ := List.mem_map.1 hv
    rfl
  have hcl := row_cell hr
  have hsm : ∀ j, j < X.length + 1 → (w.cell? ⟨q, j, none⟩).isSome = true := fun j hj => row_some hr j (by omega)
  have hfz : ∀ j, j < X.length + 1 → w.frozen? ⟨q, j, none⟩ = false := fun j _ => hr.frozenAt j
  have hvc : w.cell? ⟨vb, 0, none⟩ = some (ptrB p) := cell_of_one hv
  by_cases he : i = X.length
  · subst he
    have := ins_end q X.length c vb (ptrB p) w hc (by omega) (hsm _ (by omega)) (hfz _ (by omega)) hvc rfl
    refine this.mono ?_
    rintro e w' ⟨rfl, rfl⟩
    refine ⟨rfl, fun j hj => ?_, keeps_setCells q _ _ w⟩
    rcases ins_at X p X.length j (Nat.le_refl _) hj with ⟨k, h', e⟩ | ⟨k, e⟩ | ⟨k, h', e⟩
    · rw [e, World.cell?_setCells_out q _ _ _ _ (fun _ _ => .inl k)]
      exact hcl j _ (by simp [h'])
    · rw [e]
      subst k
      exact World.cell?_setCells_in q [ptrB p] X.length w (fun t ht => by
        have ht' : t < 1 := ht
        exact hsm _ (by omega)) 0 (by simp)
    · omega
  · have hlt : i < X.length := by omega
    have := ins_shift q X.length c i vb (X.map ptrB) (ptrB p) w hlt hc (by omega) hq (by simp) hcl hsm hfz hvc h1c rfl 47 47 1 c
      (by simp [World.shape?, hv]) (by simp [World.shape?, hcur, hsz]) (by omega) (free_of_one hv) (by simp [World.frozen?, hv])
    refine this.mono ?_
    rintro e w' ⟨rfl, rfl⟩
    refine ⟨rfl, fun j hj => ?_, (keeps_drew _ w).trans ((keeps_setCells q _ _ _).trans (keeps_setCells q _ _ _))⟩
    have hdl : ((X.map ptrB).drop i).length = X.length - i := by simp
    have s1 : ∀ t, t < X.length + 1 → ((w.drew.setCells q (i + 1) ((X.map ptrB).drop i)).cell? ⟨q, t, none⟩).isSome = true := fun t ht =>
      isSome_setCellsN q ((X.map ptrB).drop i) (i + 1) w.drew (fun u hu => hsm _ (by rw [hdl] at hu; omega)) _ (hsm t ht)
    rcases ins_at X p i j hi hj with ⟨k, h', e⟩ | ⟨k, e⟩ | ⟨k, h', e⟩
    · rw [e, World.cell?_setCells_out q _ _ _ _ (fun _ _ => .inl k), World.cell?_setCells_out q _ _ _ _ (fun _ _ => .inl (by show j < i + 1; omega))]
      exact hcl j _ (by simp [h'])
    · rw [e]
      subst k
      exact World.cell?_setCells_in q [ptrB p] j _ (fun t ht => by
        have ht' : t < 1 := ht
        exact s1 _ (by omega)) 0 (by simp)
    · rw [e, World.cell?_setCells_out q _ _ _ _ (fun _ _ => .inr (by show i + 1 ≤ j; omega))]
      have := World.cell?_setCells_in q ((X.map ptrB).drop i) (i + 1) w.drew (fun u hu => hsm _ (by rw [hdl] at hu; omega)) (j - (i + 1)) (by rw [hdl]; omega)
      rw [show i + 1 + (j - (i + 1)) = j by omega] at this
      rw [this]
      simp only [List.getElem_drop, List.getElem_map]
      congr 3
      omega

theorem del_at (X : List (Nat × Ent)) (i j : Nat) (hi : i < X.length) (h : j < (X.take i ++ X.drop (i + 1)).length) :
    (j < i ∧ ∃ h' : j < X.length, (X.take i ++ X.drop (i + 1))[j] = X[j]) ∨ (i ≤ j ∧ ∃ h' : j + 1 < X.length, (X.take i ++ X.drop (i + 1))[j] = X[j + 1]) := by
  have hl : (X.take i).length = i := by simp; omega
  have hlen : (X.take i ++ X.drop (i + 1)).length = X.length - 1 := by simp; omega
  rcases Nat.lt_or_ge j i with k | k
  · refine .inl ⟨k, by omega, ?_⟩
    rw [List.getElem_append_left (by omega), List.getElem_take]
  · refine .inr ⟨k, by omega, ?_⟩
    rw [List.getElem_append_right (by omega)]
    simp only [hl, List.getElem_drop]
    congr 1
    omega

theorem del_node (X : List (Nat × Ent)) (q c base i j : Nat) (w : World) (hr : w.ownsRow base 47 1 (.slice (some ⟨q, 0, none⟩) X.length c) X.length (X.map ptrB)) (hc2 : c ≤ 1000000) (hi : i < X.length) (hj : j = i + 1) :
    Calls Try.prog 49 #[.slice (some ⟨q, 0, none⟩) X.length c, .int .i64 i, .int .i64 j] w fun e w' =>
      e = .returned (.slice (some ⟨q, 0, none⟩) (X.length - 1) c) ∧ (∀ t, (h : t < (X.take i ++ X.drop (i + 1)).length) → w'.cell? ⟨q, t, none⟩ = some (ptrB (X.take i ++ X.drop (i + 1))[t])) ∧ Keeps (· = q) w w' := by
  obtain ⟨cur, hcur, hsz, hnc, _⟩ := row_block hr
  have h1c : ∀ v ∈ X.map ptrB, v.oneCell' = true := fun v hv => by
    obtain ⟨x, _, rfl⟩ := List.mem_map.1 hv
    rfl
  have hcl := row_cell hr
  have hsm : ∀ t, t < X.length → (w.cell? ⟨q, t, none⟩).isSome = true := fun t ht => row_some hr t (by omega)
  have := del_one q X.length c i j (X.map ptrB) w hi hj hnc (by omega) (by simp) hcl (fun t _ => hr.frozenAt t) h1c
  refine this.mono ?_
  rintro e w' ⟨rfl, rfl⟩
  refine ⟨rfl, fun t ht => ?_, (keeps_drew _ w).trans ((keeps_setCells q _ _ _).trans (keeps_setCells q _ _ _))⟩
  subst hj
  have hdl : ((X.map ptrB).drop (i + 1)).length = X.length - (i + 1) := by simp
  have hlen : (X.take i ++ X.drop (i + 1)).length = X.length - 1 := by simp; omega
  rw [hlen] at ht
  rw [World.cell?_setCells_out q _ _ _ _ (fun _ _ => .inl (by show t < X.length - 1; exact ht))]
  rcases del_at X i t hi (by rw [hlen]; exact ht) with ⟨k, h', e⟩ | ⟨k, h', e⟩
  · rw [e, World.cell?_setCells_out q _ _ _ _ (fun _ _ => .inl (by show t < i; exact k))]
    exact hcl t _ (by simp [h'])
  · have := World.cell?_setCells_in q ((X.map ptrB).drop (i + 1)) i w.drew (fun u hu => hsm _ (by rw [hdl] at hu; omega)) (t - i) (by rw [hdl]; omega)
    rw [show i + (t - i) = t by omega] at this
    rw [this, e]
    simp only [List.getElem_drop, List.getElem_map]
    congr 3
    omega

/-- What a look into the map tells. -/
theorem keyedI : Keyed Try.prog 3 := int_keyed Try.underlying3

theorem look_none {w : World} {mv : Option Nat} {X : List (Nat × Ent)} (h : MapAt w mv X) (id : Int) (hw : (Lit.int .i64 id).wf = true) (hn : ∀ x, x ∈ X → x.2.id ≠ id) :
    (Instr.lookup 46 (.map mv) (.int .i64 id) false).run Try.prog w = .ok (.pointer none) w := by
  rcases h with ⟨rfl, _⟩ | ⟨m, D, rfl, h1, h2⟩
  · exact Maps.look_nil false keyedI Try.underlying46 (zero_ptr w) (keyOf_int_mk Try.underlying3 hw)
  · obtain ⟨v, ps, hr, hv⟩ := h1.lookup keyedI Try.underlying46 (zero_ptr w) (zd := zd) (zp := []) rfl (keyOf_int_mk Try.underlying3 hw)
    rw [h2.none id hn] at hv
    rw [hr, ptrElem_nil hv]

theorem look_at {w : World} {mv : Option Nat} {X : List (Nat × Ent)} (h : MapAt w mv X) (x : Nat × Ent) (hx : x ∈ X) (hw : (Lit.int .i64 x.2.id).wf = true) :
    (Instr.lookup 46 (.map mv) (.int .i64 x.2.id) false).run Try.prog w = .ok (ptrB x) w := by
  rcases h with ⟨_, rfl⟩ | ⟨m, D, rfl, h1, h2⟩
  · cases hx
  · obtain ⟨v, ps, hr, hv⟩ := h1.lookup keyedI Try.underlying46 (zero_ptr w) (zd := zd) (zp := []) rfl (keyOf_int_mk Try.underlying3 hw)
    rw [h2.there x hx] at hv
    rw [hr, ptrElem_at hv]
    rfl

theorem len_map {w : World} {mv : Option Nat} {X : List (Nat × Ent)} (h : MapAt w mv X) (ty : TypeId) : (Builtin.len_ #[46] ty #[.map mv]).run Try.prog w = .ok (.int .i64 (X.length : Nat)) w := by
  rcases h with ⟨rfl, rfl⟩ | ⟨m, D, rfl, h1, h2⟩
  · exact Maps.len_nil Try.underlying46 ty
  · rw [h1.len Try.underlying46 ty, h2.size]

section
variable (w : World) {ops : Array Oper} {rest : List Oper} {o : Oper} {a : Act} {Q : Exit → Act → World → Prop}

theorem wpList_look_run (hg : o.guard = none) (m x : Operand) (hop : o.op = Op.lookup 46 m x false) (mv key v : Value) (hm : a.eval m = mv) (hx : a.eval x = key) (hr : (Instr.lookup 46 mv key false).run Try.prog w = .ok v w)
    (hK : wpList Try.prog ops Q rest (a.put o.dst v) w) : wpList Try.prog ops Q (o :: rest) a w := by
  refine wpList_plain hg fun K' hK' => ?_
  unfold Oper.wp
  simp [execOp, hop, hm, hx, hr, Result.andThen]
  exact hK' _ _ hK

theorem wpList_len_run (hg : o.guard = none) (m : Operand) (hop : o.op = Op.call { callee := Callee.builtin Builtin.len, args := #[m], argTypes := #[46] }) (mv v : Value) (hm : a.eval m = mv) (hr : (Builtin.len_ #[46] o.type #[mv]).run Try.prog w = .ok v w)
    (hK : wpList Try.prog ops Q rest (a.put o.dst v) w) : wpList Try.prog ops Q (o :: rest) a w := by
  refine wpList_plain hg fun K' hK' => ?_
  unfold Oper.wp
  simp [execOp, hop, resolve, invoke, builtin, hm, hr, Result.andThen]
  exact hK' _ _ hK
end

end Go.Proofs.Ytfcmkaiocnelgaa
