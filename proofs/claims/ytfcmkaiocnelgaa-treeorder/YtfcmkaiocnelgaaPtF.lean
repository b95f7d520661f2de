/- A span goes from the program's tree: the program's Drop: walked. -/
import Derived.Test.YtfcmkaiocnelgaaPtE
namespace Go.Proofs.Ytfcmkaiocnelgaa
open Go.RowKit Go.Maps

/-- The tree is linked anew: one less. -/
theorem drop_end {w : World} {B : Nat} {L : List Ent} {m : Nat} {X : List (Nat × Ent)} {F : Nat → Prop} (h : PX w B L (some m) X F) (p : Nat × Ent) (hp : p ∈ X) (n : Nat) (D : DataW Unit) (W6 W7 : World)
    (hM : Mid w B m n X D F W6) (hK : Keys D (dropX X p.2)) (hL : (linkT (dropX X p.2)).Lies W7) (hk : Keeps (inX (dropX X p.2)) W6 W7) :
    Turned w B (dropT L p.2.id) F (W7.setCell ⟨B, 1, none⟩ (linkT (dropX X p.2)).ptr) := by
  have hP := dropX_perm X p h.ordered hp
  have hmem : ∀ x, x ∈ dropX X p.2 → x ∈ X := fun x hx => hP.mem_iff.2 (List.mem_cons_of_mem _ hx)
  have hin : ∀ i, inX (dropX X p.2) i → ∃ x, x ∈ X ∧ x.1 = i := fun i hi => by
    obtain ⟨x, hx, q⟩ := List.mem_map.1 hi
    exact ⟨x, hmem x hx, q⟩
  obtain ⟨a1, a2⟩ := hM.apart
  have nB : ¬ inX (dropX X p.2) B := fun q => by
    obtain ⟨x, hx, k⟩ := hin _ q
    exact h.out x hx k
  have nm : ¬ inX (dropX X p.2) m := fun q => by
    obtain ⟨x, hx, k⟩ := hin _ q
    exact a2 x hx k.symm
  have hBl := lt_of_cell hM.c0
  have d0 := (hk.cell (p := ⟨B, 0, none⟩) hBl nB).trans hM.c0
  have d1 := (hk.cell (p := ⟨B, 1, none⟩) hBl nB).trans hM.c1
  have dk : Keeps F w (W7.setCell ⟨B, 1, none⟩ (linkT (dropX X p.2)).ptr) := by
    have k1 := (hM.keeps.then hk (fun i hi q => by
      obtain ⟨x, hx, k⟩ := hin i q
      rw [← k]; exact .inl (h.fX x hx))).then (keeps_set W7 B 1 (linkT (dropX X p.2)).ptr) (fun i _ q => by cases q; exact .inl h.fB)
    exact k1.mono (fun i hi q => by
      rcases q with q | q
      · exact q
      · omega)
  refine turned_drop h p hp ?_ ?_ ?_ ?_ ?_ dk
  · rw [World.cell?_setCell_other _ _ _ _ (by simp)]
    exact d0
  · exact World.cell?_setCell_same _ _ _ d1
  · intro i
    rw [World.frozen?_setCell, hk.frozen (p := ⟨B, i, none⟩) hBl nB, hM.f i]
  · refine .inr ⟨m, D, rfl, ?_, hK⟩
    have := ownsMap_size ((ownsMap_keeps hM.own hk nm).setCell (a := ⟨B, 1, none⟩) a1 (linkT (dropX X p.2)).ptr)
    rwa [hK.size] at this
  · refine hL.keeps (keeps_set W7 B 1 _) (fun x hx q => ?_)
    rw [items_link] at hx
    exact nB (List.mem_map.2 ⟨x, hx, q⟩)

theorem PX.some_map {w : World} {B : Nat} {L : List Ent} {mv : Option Nat} {X : List (Nat × Ent)} {F : Nat → Prop} (h : PX w B L mv X F) {x : Nat × Ent} (hx : x ∈ X) : ∃ m, mv = some m := by
  rcases h.map with ⟨_, e⟩ | ⟨m, D, e, _⟩
  · subst e; cases hx
  · exact ⟨m, e⟩

set_option maxRecDepth 100000 in
set_option maxHeartbeats 4000000 in
theorem tree_Drop (L : List Ent) (B : Nat) (F : Nat → Prop) (id : Int) (w : World) (h : PT w B L F) (hw : (Lit.int .i64 id).wf = true) :
    Calls Try.prog 29 #[.pointer (some ⟨B, 0, none⟩), .int .i64 id] w (TreeSays (dropErr L id) (dropTo L id) B F w) := by
  obtain ⟨mv, X, hP⟩ := h
  have HT : Hid (PT w B L F) := ⟨mv, X, hP⟩
  have c0 := hP.c0
  by_cases h3 : foundT L id = true
  · have E : Hid (dropErr L id = 0 ∧ dropTo L id = dropT L id) := ⟨by unfold dropErr; rw [if_pos h3], by unfold dropTo; rw [if_pos h3]⟩
    obtain ⟨x, hx, hxid, _⟩ := hP.there h3
    obtain ⟨m, rfl⟩ := hP.some_map hx
    have hlk := look_at hP.map x hx (by rw [hxid]; exact hw)
    have HX := hide hx
    have HP := hide hP
    subst hxid
    obtain ⟨D, hKD, hMD⟩ := hP.mid
    have HM0 := hide (hMD w (Below.refl _ _))
    have HKS : Hid (Keys (D.del (.int .i64 x.2.id)) (dropX X x.2)) := hKD.drop ((hMD w (Below.refl _ _)).own.tidy keyedI) hP.ordered hP.ids x hx
    obtain ⟨N, hN⟩ : ∃ N, (dropX X x.2).length = N := ⟨_, rfl⟩
    have hXN : X.length = N + 1 := by rw [(dropX_perm X x hP.ordered hx).length_eq, List.length_cons, hN]
    have hXL : X.length ≤ 4000 := by rw [hP.length]; exact hP.len
    have HFm : Hid (F m ∨ w.heap.size ≤ m) := .inl (hP.fm m rfl)
    obtain ⟨hpl, hpat⟩ := posX_at X x hP.ordered hx
    have HPL := hide hpl
    have HND := hide (hP.nodeAt x hx)
    have hlk' : (Instr.lookup 46 (.map (some m)) (.int .i64 x.2.id) false).run Try.prog w = .ok (.pointer (some ⟨x.1, 0, none⟩)) w := hlk
    have HNN := hide hN
    have HXN := hide hXN
    clear hKD hMD hlk hpl hpat hP h3 hx hN hXN
    go_enter Try.func29, Try.ntmps29
    go_wp2_with (first
      | (at_lookup; refine wpList_look_run _ rfl _ _ rfl _ _ _ rfl rfl hlk' ?_)
      | (at_delete; refine wpList_delete_own _ rfl _ _ 46 3 rfl 47 keyedI Try.underlying46 ptrElem m X.length D rfl (unhide HM0).own _ _ rfl (keyOf_int_mk Try.underlying3 hw) ?_; intro W2 own2 turn2; have HM2 := hide ((unhide HM0).put turn2 own2 (unhide HFm)); clear own2 turn2)
      | (go_at_call 44; refine (tree_order (linkT X) B m _ N _ _ (unhide HM2).c0 (unhide HM2).own (by rw [(unhide HKS).size]; exact (unhide HNN)) (by have := unhide HXN; omega) (unhide HM2).c1 (unhide HM2).lies (by rw [items_link]; have := unhide HXN; omega)).mono ?_; rw [items_link]; rintro e W3 ⟨q, rfl, row3, b3⟩))
    obtain ⟨cur3, hc3, _, _, _, hq3⟩ := row_block row3
    have hw2 : w.heap.size ≤ W2.heap.size := (unhide HM2).keeps.size
    have HM3 := hide ((unhide HM2).below b3)
    have hxq : ∀ y, y ∈ X → y.1 ≠ q := fun y hy => by have := ((unhide HM2).nodes y hy).lt; omega
    have hmq : m ≠ q := by have := (unhide HM2).own.lt; omega
    have hBq : B ≠ q := by
      have hB2 : B < W2.heap.size := lt_of_cell (unhide HM2).c0
      omega
    have HXQ := hide hxq
    refine (search_node X x q (N + 1) W2.heap.size W3 (unhide HP).ordered (unhide HM3).nodes hxq ((unhide HM3).nodes x (unhide HX)) (hxq x (unhide HX)) row3 (by omega)).mono ?_
    rintro e W4 ⟨bl, rfl, b4⟩
    have HR4 := hide (ownsRow_carry row3 b4)
    have HM4 := hide ((unhide HM3).below b4)
    clear row3 b3 b4 hc3 HM3 HM0 hxq
    obtain ⟨k, hk⟩ : ∃ k, posX X x.2 = k := ⟨_, rfl⟩
    have HPOS := hide hk
    rw [hk] at HPL ⊢
    clear hk
    have hk1 : (k : Int) < (X.length : Int) := by have := unhide HPL; omega
    have hk2 : (X.length : Int) ≤ 4000 := by omega
    have HD4 : Hid (Calls Try.prog 49 #[.slice (some ⟨q, 0, none⟩) X.length (N + 1), .int .i64 k, .int .i64 ((k : Int) + 1)] W4 fun e w' =>
        e = .returned (.slice (some ⟨q, 0, none⟩) N (N + 1)) ∧ (∀ t, (h : t < (X.take k ++ X.drop (k + 1)).length) → w'.cell? ⟨q, t, none⟩ = some (ptrB (X.take k ++ X.drop (k + 1))[t])) ∧ Keeps (· = q) W4 w') := by
      have := del_node X q (N + 1) W2.heap.size k (k + 1) W4 (unhide HR4) (by have := unhide HXN; omega) (unhide HPL) rfl
      rw [show X.length - 1 = N by have := unhide HXN; omega] at this
      exact this
    clear HR4
    go_wp2_with fail
    refine (unhide HD4).mono ?_
    rintro e W6 ⟨rfl, hcell, k6⟩
    have HM6 := hide ((unhide HM4).keep k6 hBq hmq (unhide HXQ) (fun i hi e => by subst e; exact absurd hq3 (by omega)))
    have hsub : ∀ y, y ∈ dropX X x.2 → y ∈ X := fun y hy => (dropX_perm X x (unhide HP).ordered (unhide HX)).mem_iff.2 (List.mem_cons_of_mem _ hy)
    have hR6 : Rows W6 (some ⟨q, 0, none⟩) q 0 (dropX X x.2) := by
      refine ⟨fun j hj => ⟨rfl, ?_⟩, fun y hy => (unhide HM6).nodes y (hsub y hy), ?_, fun y hy => unhide HXQ y (hsub y hy)⟩
      · rw [Nat.zero_add]
        unfold dropX at hj ⊢
        simp only [unhide HPOS] at hj ⊢
        exact hcell j hj
      · have := ((dropX_perm X x (unhide HP).ordered (unhide HX)).map (·.1)).nodup_iff.1 (unhide HP).nodup
        rw [List.map_cons, List.nodup_cons] at this
        exact this.2
    have HL6 := hide (tree_link _ (dropX X x.2) _ q 0 (N + 1) W6 rfl (by rw [unhide HNN]; omega) (by have := unhide HXN; omega) hR6)
    rw [unhide HNN] at HL6
    obtain ⟨u, hu⟩ := ptr_form (linkT (dropX X x.2))
    have HU := hide hu
    have hBX : ¬ inX (dropX X x.2) B := fun hf => by
      obtain ⟨y, hy, hyB⟩ := List.mem_map.1 hf
      exact (unhide HP).out y (hsub y hy) hyB
    clear hcell k6 HM4 hR6 HD4 hu hsub
    go_wp2_with fail
    refine (unhide HL6).mono ?_
    rintro e W7 ⟨he, l7, k7⟩
    rw [unhide HU] at he
    subst he
    have hB6 := lt_of_cell (unhide HM6).c0
    have d1 := (k7.cell (p := ⟨B, 1, none⟩) hB6 hBX).trans (unhide HM6).c1
    have g1 := (k7.frozen (p := ⟨B, 1, none⟩) hB6 hBX).trans ((unhide HM6).f 1)
    have HEND := hide (drop_end (unhide HP) x (unhide HX) _ _ W6 W7 (unhide HM6) (unhide HKS) l7 k7)
    rw [unhide HU] at HEND
    clear HM6 l7 k7 HL6
    go_wp2
    go_ret
    exact ⟨by rw [(unhide E).1]; rfl, by rw [(unhide E).2]; exact unhide HEND⟩
  · have h3' : foundT L id = false := by simpa using h3
    have E : Hid (dropErr L id = 7 ∧ dropTo L id = L) := ⟨by unfold dropErr; rw [if_neg h3], by unfold dropTo; rw [if_neg h3]⟩
    have hlk := look_none hP.map id hw (hP.missing h3')
    clear hP h3 h3'
    go_enter Try.func29, Try.ntmps29
    go_wp2_with (at_lookup; refine wpList_look_run _ rfl _ _ rfl _ _ _ rfl rfl hlk ?_)
    go_ret
    exact ⟨by rw [(unhide E).1]; rfl, by rw [(unhide E).2]; exact turned_below (unhide HT) (Below.refl _ _)⟩

end Go.Proofs.Ytfcmkaiocnelgaa
