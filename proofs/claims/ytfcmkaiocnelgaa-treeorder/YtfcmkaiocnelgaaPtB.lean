/- A span comes into the program's tree: walked. -/
import Derived.Test.YtfcmkaiocnelgaaPtA
namespace Go.Proofs.Ytfcmkaiocnelgaa
open Go.RowKit Go.Maps

/-- An error's value by its number. -/
def errV (n : Int) : Value := if n = 0 then .nilIface else .iface 72 (.int .i64 n)

/-- What holds of the tree while it is turned. -/
structure Mid (w : World) (B m n : Nat) (X : List (Nat × Ent)) (D : DataW Unit) (F : Nat → Prop) (W : World) : Prop where
  c0 : W.cell? ⟨B, 0, none⟩ = some (.map (some m))
  c1 : W.cell? ⟨B, 1, none⟩ = some (linkT X).ptr
  f : ∀ i, W.frozen? ⟨B, i, none⟩ = false
  own : W.ownsMap Try.prog 3 ptrElem m n D
  lies : (linkT X).Lies W
  keeps : Keeps (fun i => F i ∨ w.heap.size ≤ i) w W

theorem Mid.keep {w : World} {B m n : Nat} {X : List (Nat × Ent)} {D : DataW Unit} {F H : Nat → Prop} {W W' : World} (h : Mid w B m n X D F W) (hk : Keeps H W W') (hB : ¬ H B) (hm : ¬ H m) (hX : ∀ x, x ∈ X → ¬ H x.1) (hH : ∀ i, i < w.heap.size → H i → F i) : Mid w B m n X D F W' := by
  have hBl := lt_of_cell h.c0
  exact ⟨(hk.cell (p := ⟨B, 0, none⟩) hBl hB).trans h.c0, (hk.cell (p := ⟨B, 1, none⟩) hBl hB).trans h.c1, fun i => (hk.frozen (p := ⟨B, i, none⟩) hBl hB).trans (h.f i), ownsMap_keeps h.own hk hm, h.lies.keeps hk (fun x hx => hX x (by rw [items_link] at hx; exact hx)),
    h.keeps.then hk (fun i hi hh => .inl (hH i hi hh))⟩

theorem Mid.below {w : World} {B m n : Nat} {X : List (Nat × Ent)} {D : DataW Unit} {F : Nat → Prop} {W W' : World} (h : Mid w B m n X D F W) (hb : Below W.heap.size W W') : Mid w B m n X D F W' :=
  h.keep (Keeps.of_below (fun _ => False) hb (Nat.le_refl _)) (fun f => f) (fun f => f) (fun _ _ f => f) (fun _ _ f => f.elim)

theorem map_no_cells {w : World} {m n : Nat} {D : DataW Unit} {b i : Nat} {v : Value} (h : w.ownsMap Try.prog 3 ptrElem m n D) (hc : w.cell? ⟨b, i, none⟩ = some v) : m ≠ b := fun e => by
  subst e
  obtain ⟨es, ck, hb, _⟩ := h
  simp [World.cell?, hb] at hc

theorem Mid.apart {w : World} {B m n : Nat} {X : List (Nat × Ent)} {D : DataW Unit} {F : Nat → Prop} {W : World} (h : Mid w B m n X D F W) : m ≠ B ∧ ∀ x, x ∈ X → m ≠ x.1 := by
  refine ⟨map_no_cells h.own h.c0, fun x hx => ?_⟩
  obtain ⟨_, _, _, hn⟩ := h.lies.at x (by rw [items_link]; exact hx)
  exact map_no_cells h.own hn.c0

theorem Mid.put {w : World} {B m n n' : Nat} {X : List (Nat × Ent)} {D D' : DataW Unit} {F : Nat → Prop} {W W' : World} (h : Mid w B m n X D F W) (ht : W.mapTurned W' m) (ho : W'.ownsMap Try.prog 3 ptrElem m n' D') (hm : F m ∨ w.heap.size ≤ m) : Mid w B m n' X D' F W' := by
  obtain ⟨a1, a2⟩ := h.apart
  have hk := turned_keeps ht
  have hBl := lt_of_cell h.c0
  refine ⟨(hk.cell (p := ⟨B, 0, none⟩) hBl (fun e => a1 e.symm)).trans h.c0, (hk.cell (p := ⟨B, 1, none⟩) hBl (fun e => a1 e.symm)).trans h.c1, fun i => (hk.frozen (p := ⟨B, i, none⟩) hBl (fun e => a1 e.symm)).trans (h.f i), ho, h.lies.keeps hk (fun x hx e => a2 x (by rw [items_link] at hx; exact hx) e.symm), h.keeps.then hk (fun i hi e => ?_)⟩
  subst e
  rcases hm with k | k
  · exact .inl k
  · omega

theorem Mid.nodes {w : World} {B m n : Nat} {X : List (Nat × Ent)} {D : DataW Unit} {F : Nat → Prop} {W : World} (h : Mid w B m n X D F W) : ∀ x, x ∈ X → NodeAt W x.1 x.2 := fun x hx => h.lies.at x (by rw [items_link]; exact hx)

/-- The tree is linked anew: one more. -/
theorem add_end {w : World} {B : Nat} {L : List Ent} {mv : Option Nat} {X : List (Nat × Ent)} {F : Nat → Prop} (h : PX w B L mv X F) (e : Ent) (nb m n : Nat) (D : DataW Unit) (W6 W7 : World) (hf : foundT L e.id = false) (hl : L.length < 4000) (hr : rightB e.lo e.hi = true)
    (hnb : w.heap.size ≤ nb) (hnb' : nb < W6.heap.size) (hm : mv = some m ∨ w.heap.size ≤ m) (hmn : m ≠ nb) (hM : Mid w B m n X D F W6) (hK : Keys D (addX X nb e)) (hL : (linkT (addX X nb e)).Lies W7) (hk : Keeps (inX (addX X nb e)) W6 W7) :
    Turned w B (addT L e) F (W7.setCell ⟨B, 1, none⟩ (linkT (addX X nb e)).ptr) := by
  have hB := h.lt B h.fB
  have hmem : ∀ x, x ∈ addX X nb e ↔ x = (nb, e) ∨ x ∈ X := fun x => by rw [(addX_perm X nb e).mem_iff, List.mem_cons]
  have hin : ∀ i, inX (addX X nb e) i → i = nb ∨ ∃ x, x ∈ X ∧ x.1 = i := fun i hi => by
    obtain ⟨x, hx, q⟩ := List.mem_map.1 hi
    rcases (hmem x).1 hx with rfl | hx
    · exact .inl q.symm
    · exact .inr ⟨x, hx, q⟩
  obtain ⟨a1, a2⟩ := hM.apart
  have nB : ¬ inX (addX X nb e) B := fun q => by
    rcases hin _ q with k | ⟨x, hx, k⟩
    · omega
    · exact h.out x hx k
  have nm : ¬ inX (addX X nb e) m := fun q => by
    rcases hin _ q with k | ⟨x, hx, k⟩
    · exact hmn k
    · exact a2 x hx k.symm
  have hBl := lt_of_cell hM.c0
  have d0 := (hk.cell (p := ⟨B, 0, none⟩) hBl nB).trans hM.c0
  have d1 := (hk.cell (p := ⟨B, 1, none⟩) hBl nB).trans hM.c1
  have dk : Keeps F w (W7.setCell ⟨B, 1, none⟩ (linkT (addX X nb e)).ptr) := by
    have k1 := (hM.keeps.then hk (fun i hi q => by
      rcases hin i q with k | ⟨x, hx, k⟩
      · omega
      · rw [← k]; exact .inl (h.fX x hx))).then (keeps_set W7 B 1 (linkT (addX X nb e)).ptr) (fun i _ q => by cases q; exact .inl h.fB)
    exact k1.mono (fun i hi q => by
      rcases q with q | q
      · exact q
      · omega)
  refine turned_add h e nb m hf hl hr hnb (by simp; exact Nat.lt_of_lt_of_le hnb' hk.size) ?_ ?_ ?_ ?_ ?_ ?_ dk
  · rcases hm with q | q
    · exact .inl q
    · exact .inr ⟨q, by simp; exact Nat.lt_of_lt_of_le hM.own.lt hk.size⟩
  · rw [World.cell?_setCell_other _ _ _ _ (by simp)]
    exact d0
  · exact World.cell?_setCell_same _ _ _ d1
  · intro i
    rw [World.frozen?_setCell, hk.frozen (p := ⟨B, i, none⟩) hBl nB, hM.f i]
  · refine .inr ⟨m, D, rfl, ?_, hK⟩
    have := ownsMap_size ((ownsMap_keeps hM.own hk nm).setCell (a := ⟨B, 1, none⟩) a1 (linkT (addX X nb e)).ptr)
    rwa [hK.size] at this
  · refine hL.keeps (keeps_set W7 B 1 _) (fun x hx q => ?_)
    rw [items_link] at hx
    exact nB (List.mem_map.2 ⟨x, hx, q⟩)

end Go.Proofs.Ytfcmkaiocnelgaa
