/- A map of nodes by their numbers. -/
import Derived.Test.YtfcmkaiocnelgaaPtW
import Derived.Maps.OwnSet
namespace Go.Proofs.Ytfcmkaiocnelgaa
open Go.RowKit Go.Maps

/-- How a pointer to a node reads: its block's number and one; none: nought. -/
def ptrElem : Value → Option (DataW Unit × List MemPlace)
  | .pointer none => some (.lit (.int .i64 0), [])
  | .pointer (some ⟨b, 0, none⟩) => some (.lit (.int .i64 ((b : Int) + 1)), [])
  | _ => none

theorem ptrElem_nil {v : Value} {ps : List MemPlace} (h : ptrElem v = some (.lit (.int .i64 0), ps)) : v = .pointer none := by
  unfold ptrElem at h
  split at h
  · rfl
  · exfalso
    simp only [Option.some.injEq, Prod.mk.injEq, DataW.lit.injEq, Lit.int.injEq] at h
    omega
  · cases h

theorem ptrElem_at {v : Value} {b : Nat} {ps : List MemPlace} (h : ptrElem v = some (.lit (.int .i64 ((b : Int) + 1)), ps)) : v = .pointer (some ⟨b, 0, none⟩) := by
  unfold ptrElem at h
  split at h
  · exfalso
    simp only [Option.some.injEq, Prod.mk.injEq, DataW.lit.injEq, Lit.int.injEq] at h
    omega
  · rename_i c
    simp only [Option.some.injEq, Prod.mk.injEq, DataW.lit.injEq, Lit.int.injEq] at h
    have : c = b := by omega
    rw [this]
  · cases h

/-- The nought of the map. -/
def zd : DataW Unit := .lit (.int .i64 0)

/-- What the map holds. -/
structure Keys (D : DataW Unit) (X : List (Nat × Ent)) : Prop where
  there : ∀ x, x ∈ X → D.atKey (.int .i64 x.2.id) zd = .lit (.int .i64 ((x.1 : Int) + 1))
  has : ∀ x, x ∈ X → Maps.has D (.int .i64 x.2.id) = true
  hasn : ∀ id, (∀ x, x ∈ X → x.2.id ≠ id) → Maps.has D (.int .i64 id) = false
  size : Maps.size D = X.length

theorem keys_none : Keys (.map []) [] := ⟨by simp, by simp, fun _ _ => rfl, rfl⟩

theorem Keys.none {D : DataW Unit} {X : List (Nat × Ent)} (h : Keys D X) (id : Int) (hn : ∀ x, x ∈ X → x.2.id ≠ id) : D.atKey (.int .i64 id) zd = zd :=
  Maps.atKey_of_not_has (h.hasn id hn) _

theorem lit_ne {a b : Int} (h : a ≠ b) : Lit.int .i64 a ≠ .int .i64 b := by
  intro e
  cases e
  exact h rfl

theorem Keys.add {D : DataW Unit} {X : List (Nat × Ent)} (h : Keys D X) (ht : Tidy D) (b : Nat) (e : Ent) (hn : ∀ x, x ∈ X → x.2.id ≠ e.id) :
    Keys (D.put (.int .i64 e.id) (.lit (.int .i64 ((b : Int) + 1)))) (addX X b e) := by
  have hm : ∀ x, x ∈ addX X b e ↔ x = (b, e) ∨ x ∈ X := fun x => by rw [(addX_perm X b e).mem_iff, List.mem_cons]
  refine ⟨fun x hx => ?_, fun x hx => ?_, fun id hid => ?_, ?_⟩
  · rcases (hm x).1 hx with rfl | hx
    · exact Maps.atKey_put_same (k := .int .i64 e.id) ht.isMap trivial _ _
    · rw [Maps.atKey_put_other (lit_ne (hn x hx))]
      exact h.there x hx
  · rcases (hm x).1 hx with rfl | hx
    · exact Maps.has_put_same (k := .int .i64 e.id) ht.isMap trivial _
    · rw [Maps.has_put_other (lit_ne (hn x hx))]
      exact h.has x hx
  · have h1 : e.id ≠ id := hid (b, e) ((hm _).2 (.inl rfl))
    rw [Maps.has_put_other (lit_ne (fun q => h1 q.symm))]
    exact h.hasn id (fun x hx => hid x ((hm x).2 (.inr hx)))
  · rw [Maps.size_put ht, h.hasn e.id hn, (addX_perm X b e).length_eq, List.length_cons, ← h.size]
    rfl

theorem Keys.drop {D : DataW Unit} {X : List (Nat × Ent)} (h : Keys D X) (ht : Tidy D) (hO : Ordered X) (hN : (X.map (fun x => x.2.id)).Nodup) (p : Nat × Ent) (hp : p ∈ X) :
    Keys (D.del (.int .i64 p.2.id)) (dropX X p.2) := by
  have hP := dropX_perm X p hO hp
  have hm : ∀ x, x ∈ X ↔ x = p ∨ x ∈ dropX X p.2 := fun x => by rw [hP.mem_iff, List.mem_cons]
  have hne : ∀ x, x ∈ dropX X p.2 → x.2.id ≠ p.2.id := fun x hx q => by
    have h1 := (hP.map (fun x => x.2.id)).nodup_iff.1 hN
    rw [List.map_cons, List.nodup_cons] at h1
    exact h1.1 (List.mem_map.2 ⟨x, hx, q⟩)
  refine ⟨fun x hx => ?_, fun x hx => ?_, fun id hid => ?_, ?_⟩
  · rw [Maps.atKey_del_other (lit_ne (hne x hx))]
    exact h.there x ((hm x).2 (.inr hx))
  · rw [Maps.has_del_other (lit_ne (hne x hx))]
    exact h.has x ((hm x).2 (.inr hx))
  · by_cases q : id = p.2.id
    · subst q
      exact Maps.has_del_same
    · rw [Maps.has_del_other (lit_ne q)]
      refine h.hasn id (fun x hx => ?_)
      rcases (hm x).1 hx with rfl | hx
      · exact fun e => q e.symm
      · exact hid x hx
  · have h1 := Maps.size_del (k := .int .i64 p.2.id) ht
    rw [h.has p hp, h.size, hP.length_eq, List.length_cons] at h1
    simpa using h1

/-- A map of as many entries as it has. -/
theorem ownsMap_size {P : Program} {k : TypeId} {w : World} {b n : Nat} {D : DataW Unit} {R : Value → Option (DataW Unit × List MemPlace)} (h : w.ownsMap P k R b n D) : w.ownsMap P k R b (Maps.size D) D := by
  obtain ⟨es, clock, hb, F, _, hD⟩ := h
  exact ⟨es, clock, hb, F, by rw [hD]; simp [Maps.size, length_sorted], hD⟩

theorem ownsMap_keeps {P : Program} {k : TypeId} {w w' : World} {b n : Nat} {D : DataW Unit} {R : Value → Option (DataW Unit × List MemPlace)} {F : Nat → Prop} (h : w.ownsMap P k R b n D) (hk : Keeps F w w') (hf : ¬ F b) : w'.ownsMap P k R b n D := by
  have hlt := h.lt
  obtain ⟨es, clock, hb, r⟩ := h
  exact ⟨es, clock, (hk.block b hlt hf).trans hb, r⟩

theorem turned_keeps {w w' : World} {b : Nat} (h : w.mapTurned w' b) : Keeps (· = b) w w' := Keeps.of_grown h.grown (fun _ e => .inl (Option.some.inj e).symm)

end Go.Proofs.Ytfcmkaiocnelgaa
