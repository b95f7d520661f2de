/- A span comes into the program's tree: the program's Add: walked. -/
import Derived.Test.YtfcmkaiocnelgaaPtB
import Derived.Test.YtfcmkaiocnelgaaRights
namespace Go.Proofs.Ytfcmkaiocnelgaa
open Go.RowKit Go.Maps

/-- What Add and Drop tell, and leave. -/
def TreeSays (n : Int) (L' : List Ent) (B : Nat) (F : Nat → Prop) (w : World) (e : Ending) (w' : World) : Prop := e = .returned (errV n) ∧ Turned w B L' F w'

theorem turned_below {w w' : World} {B : Nat} {L : List Ent} {F : Nat → Prop} (h : PT w B L F) (hb : Below w.heap.size w w') : Turned w B L F w' := ⟨F, h.below hb, fun _ h => .inl h, Keeps.of_below F hb (Nat.le_refl _)⟩

theorem add_none {L : List Ent} {x : Ent} (h : addErr L x ≠ 0) : addTo L x = L := by
  unfold addTo
  rw [if_neg h]

theorem wf_small {id : Int} (h0 : 0 ≤ id) (h1 : id ≤ 1048576) : (Lit.int .i64 id).wf = true := WalkArith.wf_i64 (by omega)

/-- The row with one more, for link. -/
theorem add_rows {w : World} {B : Nat} {L : List Ent} {mv : Option Nat} {X : List (Nat × Ent)} {F : Nat → Prop} (h : PX w B L mv X F) (e : Ent) (nb q : Nat) (W : World) (hnb : w.heap.size ≤ nb) (hX : ∀ x, x ∈ X → NodeAt W x.1 x.2) (hN : NodeAt W nb e) (hxq : ∀ x, x ∈ X → x.1 ≠ q) (hnq : nb ≠ q)
    (hc : ∀ j, (h : j < (X.take (posX X e) ++ (nb, e) :: X.drop (posX X e)).length) → W.cell? ⟨q, j, none⟩ = some (ptrB (X.take (posX X e) ++ (nb, e) :: X.drop (posX X e))[j])) : Rows W (some ⟨q, 0, none⟩) q 0 (addX X nb e) := by
  have hmem : ∀ x, x ∈ addX X nb e ↔ x = (nb, e) ∨ x ∈ X := fun x => by rw [(addX_perm X nb e).mem_iff, List.mem_cons]
  refine ⟨fun j hj => ⟨rfl, ?_⟩, fun x hx => ?_, ?_, fun x hx => ?_⟩
  · rw [Nat.zero_add]
    exact hc j hj
  · rcases (hmem x).1 hx with rfl | hx
    · exact hN
    · exact hX x hx
  · refine ((addX_perm X nb e).map (·.1)).nodup_iff.2 ?_
    rw [List.map_cons, List.nodup_cons]
    refine ⟨fun q => ?_, h.nodup⟩
    obtain ⟨x, hx, k⟩ := List.mem_map.1 q
    have := h.lt x.1 (h.fX x hx)
    have k' : x.1 = nb := k
    omega
  · rcases (hmem x).1 hx with rfl | hx
    · exact hnq
    · exact hxq x hx

theorem PX.empty {w : World} {B : Nat} {L : List Ent} {X : List (Nat × Ent)} {F : Nat → Prop} (h : PX w B L none X F) : X = [] := by
  rcases h.map with ⟨_, e⟩ | ⟨m, D, e, _⟩
  · exact e
  · cases e

/-- The map is made. -/
theorem mid_none {w W : World} {B : Nat} {L : List Ent} {X : List (Nat × Ent)} {F : Nat → Prop} (h : PX w B L none X F) (hb : Below w.heap.size w W) : Mid w B W.heap.size X.length X (.map []) F ((W.alloc (.map #[] 0)).setCell ⟨B, 0, none⟩ (.map (some W.heap.size))) := by
  have hB := h.lt B h.fB
  have hBW : B < W.heap.size := Nat.lt_of_lt_of_le hB hb.size
  have hX := h.empty
  have a0 : (W.alloc (.map #[] 0)).cell? ⟨B, 0, none⟩ = some (.map none) := by
    rw [World.cell?_alloc_lt _ _ _ hBW]
    exact (hb.cell (p := ⟨B, 0, none⟩) hB).trans h.c0
  have a1 : (W.alloc (.map #[] 0)).cell? ⟨B, 1, none⟩ = some (linkT X).ptr := by
    rw [World.cell?_alloc_lt _ _ _ hBW]
    exact (hb.cell (p := ⟨B, 1, none⟩) hB).trans h.c1
  refine ⟨World.cell?_setCell_same _ _ _ a0, ?_, fun i => ?_, ?_, ?_, ?_⟩
  · rw [World.cell?_setCell_other _ _ _ _ (by simp)]
    exact a1
  · rw [World.frozen?_setCell, (below_box W _).frozen (p := ⟨B, i, none⟩) hBW, hb.frozen (p := ⟨B, i, none⟩) hB, h.f i]
  · have := (World.ownsMap_made W Try.prog 3 ptrElem).setCell (a := ⟨B, 0, none⟩) (by show W.heap.size ≠ B; omega) (.map (some W.heap.size))
    rw [hX]
    exact this
  · rw [hX, linkT_nil]
    trivial
  · exact ((Keeps.of_below _ hb (Nat.le_refl _)).then (Keeps.of_below (fun _ => False) (below_box W _) (Nat.le_refl _)) (fun _ _ f => f.elim)).then (keeps_set _ B 0 _) (fun i _ e => by cases e; exact .inl h.fB)

theorem map_is (m : Nat) (w : World) : (binOp .eql 46 (.map (some m)) (.map none)).run Try.prog w = .ok (.bool false) w := by kernel_rfl
theorem map_not (w : World) : (binOp .eql 46 (.map none) (.map none)).run Try.prog w = .ok (.bool true) w := by kernel_rfl

/-- The block of a node that comes. -/
def nodeO (id lo hi : Int) : Obj := .cells #[.int .i64 id, .int .i64 lo, .int .i64 hi, .int .i64 0, .pointer none, .pointer none] 75

theorem node_new (w : World) (id lo hi : Int) : NodeW (w.alloc (nodeO id lo hi)) w.heap.size ⟨id, lo, hi⟩ 0 (.pointer none) (.pointer none) := by
  unfold nodeO
  exact ⟨by simp, by simp, by simp, by simp, by simp, by simp, fun i => by simp⟩

theorem node_none (W : World) (B : Nat) (id lo hi : Int) : NodeW (((W.alloc (.map #[] 0)).setCell ⟨B, 0, none⟩ (.map (some W.heap.size))).alloc (nodeO id lo hi)) (W.heap.size + 1) ⟨id, lo, hi⟩ 0 (.pointer none) (.pointer none) := by
  have := node_new ((W.alloc (.map #[] 0)).setCell ⟨B, 0, none⟩ (.map (some W.heap.size))) id lo hi
  simpa using this

theorem PX.mid {w : World} {B : Nat} {L : List Ent} {m : Nat} {X : List (Nat × Ent)} {F : Nat → Prop} (h : PX w B L (some m) X F) : ∃ D, Keys D X ∧ ∀ W, Below w.heap.size w W → Mid w B m X.length X D F W := by
  rcases h.map with ⟨e, _⟩ | ⟨m', D, e, h1, h2⟩
  · cases e
  · cases e
    refine ⟨D, h2, fun W hW => ?_⟩
    have hk : Keeps (fun _ => False) w W := Keeps.of_below _ hW (Nat.le_refl _)
    have hB := h.lt B h.fB
    exact ⟨(hW.cell (p := ⟨B, 0, none⟩) hB).trans h.c0, (hW.cell (p := ⟨B, 1, none⟩) hB).trans h.c1, fun i => (hW.frozen (p := ⟨B, i, none⟩) hB).trans (h.f i), ownsMap_keeps h1 hk (fun f => f), h.lies.keeps hk (fun _ _ f => f), Keeps.of_below _ hW (Nat.le_refl _)⟩

set_option maxRecDepth 100000 in
set_option maxHeartbeats 4000000 in
theorem tree_Add (L : List Ent) (B : Nat) (F : Nat → Prop) (id lo hi : Int) (w : World) (h : PT w B L F) :
    Calls Try.prog 28 #[.pointer (some ⟨B, 0, none⟩), .int .i64 id, .agg #[.int .i64 lo, .int .i64 hi]] w (TreeSays (addErr L ⟨id, lo, hi⟩) (addTo L ⟨id, lo, hi⟩) B F w) := by
  have hB0 := below_box w (.cells #[.int .i64 lo, .int .i64 hi] 23)
  have HE : Hid (addErr L ⟨id, lo, hi⟩ = if 0 ≤ id ∧ id ≤ 1048576 then (if rightB lo hi = true then (if foundT L id = true then 9 else if 4000 ≤ L.length then 12 else 0) else 1) else 2) := rfl
  have HR := hide (fun W => span_Right lo hi W)
  by_cases h0 : id < 0
  · have e0 : Hid (addErr L ⟨id, lo, hi⟩ = 2) := by unfold Hid; rw [unhide HE, if_neg (by omega)]
    have HT := hide h
    clear HE HR h
    go_enter Try.func28, Try.ntmps28
    go_wp2
    go_ret
    exact ⟨by rw [unhide e0]; rfl, by rw [add_none (by rw [unhide e0]; decide)]; exact turned_below (unhide HT) hB0⟩
  · by_cases h1 : 1048576 < id
    · have e0 : Hid (addErr L ⟨id, lo, hi⟩ = 2) := by unfold Hid; rw [unhide HE, if_neg (by omega)]
      have HT := hide h
      clear HE HR h
      go_enter Try.func28, Try.ntmps28
      go_wp2
      go_ret
      exact ⟨by rw [unhide e0]; rfl, by rw [add_none (by rw [unhide e0]; decide)]; exact turned_below (unhide HT) hB0⟩
    · have h1' : 0 ≤ id ∧ id ≤ 1048576 := by omega
      have HB2 : Hid (∀ W, W = (w.alloc (.cells #[.int .i64 lo, .int .i64 hi] 23)).alloc (.cells #[.int .i64 lo, .int .i64 hi] 23) → Below w.heap.size w W) := fun W e => by rw [e]; exact hB0.trans ((below_box _ _).mono (by simp))
      by_cases h2 : rightB lo hi = true
      · have HSB : Hid (∀ W, W = (w.alloc (.cells #[.int .i64 lo, .int .i64 hi] 23)).alloc (.cells #[.int .i64 lo, .int .i64 hi] 23) → W.cell? ⟨w.heap.size, 0, none⟩ = some (.int .i64 lo) ∧ W.cell? ⟨w.heap.size, 1, none⟩ = some (.int .i64 hi) ∧ w.heap.size < W.heap.size) := fun W e => by
          rw [e]
          refine ⟨?_, ?_, ?_⟩
          · rw [World.cell?_alloc_lt _ _ _ (by simp)]; simp
          · rw [World.cell?_alloc_lt _ _ _ (by simp)]; simp
          · simp; omega
        have HR2 : Hid (rightB lo hi = true) := h2
        rw [h2] at HR
        obtain ⟨mv, X, hP⟩ := h
        have HT : Hid (PT w B L F) := ⟨mv, X, hP⟩
        have HP := hide hP
        have hw := wf_small h1'.1 h1'.2
        have hlen := hP.length
        have HC : Hid (∀ W, Below w.heap.size w W → W.cell? ⟨B, 0, none⟩ = some (.map mv) ∧ MapAt W mv X) := fun W hW => ⟨(hW.cell (p := ⟨B, 0, none⟩) (hP.lt B hP.fB)).trans hP.c0, hP.map.keeps (Keeps.of_below (fun _ => False) hW (Nat.le_refl _)) (fun _ _ f => f)⟩
        have HLN : Hid (∀ W, Below w.heap.size w W → ∀ ty, (Builtin.len_ #[46] ty #[.map mv]).run Try.prog W = .ok (.int .i64 (X.length : Nat)) W) := fun W hW ty => len_map (unhide HC W hW).2 ty
        clear hP
        by_cases h3 : foundT L id = true
        · have e0 : Hid (addErr L ⟨id, lo, hi⟩ = 9) := by unfold Hid; rw [unhide HE, if_pos h1', if_pos h2, if_pos h3]
          obtain ⟨x, hx, hxid, _⟩ := (unhide HP).there h3
          have HLK : Hid (∀ W, Below w.heap.size w W → (Instr.lookup 46 (.map mv) (.int .i64 id) false).run Try.prog W = .ok (.pointer (some ⟨x.1, 0, none⟩)) W) := fun W hW => by
            have := look_at (unhide HC W hW).2 x hx (by rw [hxid]; exact hw)
            rwa [hxid] at this
          clear HE h2 h3 HP hx hxid hw hlen
          go_enter Try.func28, Try.ntmps28
          go_wp2_with (first | (go_at_call 6; refine (unhide HR _).mono ?_; rintro e W ⟨rfl, hW⟩; have BW : Hid (Below w.heap.size w W) := (unhide HB2) _ hW; have cw := (unhide HC W (unhide BW)).1; have HSX := hide (unhide HSB _ hW); clear hW) | (at_lookup; refine wpList_look_run _ rfl _ _ rfl _ _ _ rfl rfl (unhide HLK _ (unhide (by assumption))) ?_))
          go_ret
          exact ⟨by rw [unhide e0]; rfl, by rw [add_none (by rw [unhide e0]; decide)]; exact turned_below (unhide HT) (unhide BW)⟩
        · have h3' : foundT L id = false := by simpa using h3
          have HLK : Hid (∀ W, Below w.heap.size w W → (Instr.lookup 46 (.map mv) (.int .i64 id) false).run Try.prog W = .ok (.pointer none) W) := fun W hW => look_none (unhide HC W hW).2 id hw ((unhide HP).missing h3')
          by_cases h4 : 4000 ≤ L.length
          · have e0 : Hid (addErr L ⟨id, lo, hi⟩ = 12) := by unfold Hid; rw [unhide HE, if_pos h1', if_pos h2, if_neg h3, if_pos h4]
            have h4' : (4000 : Int) ≤ (X.length : Int) := by omega
            clear HE h2 h3 HP hw hlen h3'
            go_enter Try.func28, Try.ntmps28
            go_wp2_with (first | (go_at_call 6; refine (unhide HR _).mono ?_; rintro e W ⟨rfl, hW⟩; have BW : Hid (Below w.heap.size w W) := (unhide HB2) _ hW; have cw := (unhide HC W (unhide BW)).1; have HSX := hide (unhide HSB _ hW); clear hW) | (at_lookup; refine wpList_look_run _ rfl _ _ rfl _ _ _ rfl rfl (unhide HLK _ (unhide (by assumption))) ?_) | (at_len; refine wpList_len_run _ rfl _ rfl _ _ rfl (unhide HLN _ (unhide (by assumption)) _) ?_))
            go_ret
            exact ⟨by rw [unhide e0]; rfl, by rw [add_none (by rw [unhide e0]; decide)]; exact turned_below (unhide HT) (unhide BW)⟩
          · have E : Hid (addErr L ⟨id, lo, hi⟩ = 0 ∧ addTo L ⟨id, lo, hi⟩ = addT L ⟨id, lo, hi⟩) := by
              have e0 : addErr L ⟨id, lo, hi⟩ = 0 := by rw [unhide HE, if_pos h1', if_pos h2, if_neg h3, if_neg h4]
              exact ⟨e0, by unfold addTo; rw [if_pos e0]⟩
            have h4' : ¬ (4000 : Int) ≤ (X.length : Int) := by omega
            have H4 : Hid (L.length < 4000) := by unfold Hid; omega
            have H3 : Hid (foundT L id = false) := h3'
            clear HE h2 h3 h3' h4
            cases mv with
            | some m =>
              obtain ⟨D, hKD, hMD⟩ := (unhide HP).mid
              have HKS : Hid (∀ W : World, Keys (D.put (.int .i64 id) (.lit (.int .i64 ((W.heap.size : Nat) + 1)))) (addX X W.heap.size ⟨id, lo, hi⟩)) := fun W => hKD.add ((hMD w (Below.refl _ _)).own.tidy keyedI) W.heap.size ⟨id, lo, hi⟩ ((unhide HP).missing (unhide H3))
              have HXL : Hid (∀ W : World, (addX X W.heap.size ⟨id, lo, hi⟩).length = X.length + 1) := fun W => by rw [(addX_perm X W.heap.size ⟨id, lo, hi⟩).length_eq]; rfl
              have HFm : Hid (F m ∨ w.heap.size ≤ m) := .inl ((unhide HP).fm m rfl)
              have HMD := hide hMD
              have hme := map_is
              have hxl : X.length < 4000 := by omega
              clear hKD hMD hlen
              go_enter Try.func28, Try.ntmps28
              go_wp2_with (first
                | (go_at_call 6; refine (unhide HR _).mono ?_; rintro e W ⟨rfl, hW⟩; have BW : Hid (Below w.heap.size w W) := (unhide HB2) _ hW; have cw := (unhide HC W (unhide BW)).1; have HSX := hide (unhide HSB _ hW); have s0 := (unhide HSX).1; have s1 := (unhide HSX).2.1; have HM0 := hide ((unhide HMD _ (unhide BW)).below (below_box W (.cells #[.int .i64 id, .int .i64 lo, .int .i64 hi, .int .i64 0, .pointer none, .pointer none] 75))); have HN0 : Hid (NodeW (W.alloc (.cells #[.int .i64 id, .int .i64 lo, .int .i64 hi, .int .i64 0, .pointer none, .pointer none] 75)) W.heap.size ⟨id, lo, hi⟩ 0 (.pointer none) (.pointer none)) := node_new W id lo hi; have cn := (unhide HM0).c0; have HNm : Hid (¬ W.heap.size = m) := (fun e => map_no_cells (unhide HM0).own (unhide HN0).c0 e.symm); clear hW)
                | (at_lookup; refine wpList_look_run _ rfl _ _ rfl _ _ _ rfl rfl (unhide HLK _ (unhide BW)) ?_)
                | (at_len; refine wpList_len_run _ rfl _ rfl _ _ rfl (unhide HLN _ (unhide BW) _) ?_)
                | (at_mapUpdate; refine wpList_mapUpdate_in _ rfl _ _ _ 46 rfl 3 47 keyedI Try.underlying46 ptrElem m X.length D rfl (unhide HM0).own (by unfold maxLen; omega) _ _ _ rfl rfl (keyOf_int_mk Try.underlying3 hw) (.lit (.int .i64 ((W.heap.size : Nat) + 1))) [] rfl ?_; intro W2 own2 turn2; have HM2 := hide ((unhide HM0).put turn2 own2 (unhide HFm)); have HN2 := hide ((unhide HN0).keeps (turned_keeps turn2) (unhide HNm)); have hs2 : W.heap.size < W2.heap.size := (unhide HN2).lt; clear own2 turn2)
                | (go_at_call 44; refine (tree_order (linkT X) B m _ (X.length + 1) _ _ (unhide HM2).c0 (unhide HM2).own (by rw [(unhide HKS W).size]; exact (unhide HXL W)) (by omega) (unhide HM2).c1 (unhide HM2).lies (by rw [items_link]; omega)).mono ?_; rw [items_link]; rintro e W3 ⟨q, rfl, row3, b3⟩))
              obtain ⟨cur3, hc3, _, _, _, hq3⟩ := row_block row3
              have hwW : w.heap.size ≤ W.heap.size := by have := (unhide HSX).2.2; omega
              have HM3 := hide ((unhide HM2).below b3)
              have HN3 := hide ((unhide HN2).of_block (b3.block _ hs2))
              have hxq : ∀ x, x ∈ X → x.1 ≠ q := fun x hx => by have := ((unhide HM2).nodes x hx).lt; omega
              have hnq : W.heap.size ≠ q := by omega
              have hmq : m ≠ q := by have := (unhide HM2).own.lt; omega
              have hBq : B ≠ q := by
                have hB2 : B < W2.heap.size := lt_of_cell (unhide HM2).c0
                omega
              have HXQ := hide hxq
              have HLE := hide (posX_le X ⟨id, lo, hi⟩)
              refine (search_node X (W.heap.size, ⟨id, lo, hi⟩) q (X.length + 1 + 1) W2.heap.size W3 (unhide HP).ordered (unhide HM3).nodes hxq ⟨_, _, _, unhide HN3⟩ hnq row3 (by omega)).mono ?_
              rintro e W4 ⟨bl, rfl, b4⟩
              have HR4 := hide (ownsRow_carry row3 b4)
              have HM4 := hide ((unhide HM3).below b4)
              have HN4 := hide ((unhide HN3).of_block (b4.block _ (unhide HN3).lt))
              have hq4 : q < W4.heap.size := Nat.lt_of_lt_of_le (lt_of_block hc3) b4.size
              clear row3 b3 b4 hc3 HM3 HN3 HM0 HN0 cn hxq
              generalize hpos : posX X ⟨id, lo, hi⟩ = k at *
              have HPOS := hide hpos
              clear hpos
              go_wp2_with fail
              have HM5 := hide ((unhide HM4).below (below_box W4 (.cells #[.pointer (some ⟨W.heap.size, 0, none⟩)] 47)))
              have HN5 := hide ((unhide HN4).of_block ((below_box W4 (.cells #[.pointer (some ⟨W.heap.size, 0, none⟩)] 47)).block _ (unhide HN4).lt))
              refine (ins_node X (W.heap.size, ⟨id, lo, hi⟩) q (X.length + 1 + 1) W2.heap.size k W4.heap.size _ ((unhide HR4).alloc _) (by omega) (by omega) (unhide HLE) (by omega) (heap_alloc_new W4 _)).mono ?_
              rintro e W6 ⟨rfl, hcell, k6⟩
              have HM6 := hide ((unhide HM5).keep k6 hBq hmq (unhide HXQ) (fun i hi e => by subst e; exact absurd hq3 (by have := hs2; omega)))
              have HN6 := hide ((unhide HN5).keeps k6 hnq)
              have hR6 : Rows W6 (some ⟨q, 0, none⟩) q 0 (addX X (W.heap.size) ⟨id, lo, hi⟩) := add_rows (unhide HP) ⟨id, lo, hi⟩ (W.heap.size) q W6 hwW (unhide HM6).nodes ⟨_, _, _, unhide HN6⟩ (unhide HXQ) hnq (by rw [unhide HPOS]; exact hcell)
              have HL6 := hide (tree_link _ (addX X (W.heap.size) ⟨id, lo, hi⟩) _ q 0 (X.length + 1 + 1) W6 rfl (by rw [unhide HXL W]; omega) (by omega) hR6)
              rw [unhide HXL W] at HL6
              obtain ⟨u, hu⟩ := ptr_form (linkT (addX X (W.heap.size) ⟨id, lo, hi⟩))
              have HU := hide hu
              have hBX : ¬ inX (addX X (W.heap.size) ⟨id, lo, hi⟩) B := fun hf => by
                obtain ⟨x, hx, hxB⟩ := List.mem_map.1 hf
                rcases List.mem_cons.1 ((addX_perm X (W.heap.size) ⟨id, lo, hi⟩).mem_iff.1 hx) with rfl | hx
                · have := (unhide HP).lt B (unhide HP).fB
                  have hxB' : W.heap.size = B := hxB
                  omega
                · exact (unhide HP).out x hx hxB
              clear hcell k6 HM5 HN5 HM4 HN4 hR6 HR4 hu
              go_wp2_with fail
              refine (unhide HL6).mono ?_
              rintro e W7 ⟨he, l7, k7⟩
              rw [unhide HU] at he
              subst he
              have hB6 := lt_of_cell (unhide HM6).c0
              have d1 := (k7.cell (p := ⟨B, 1, none⟩) hB6 hBX).trans (unhide HM6).c1
              have g1 := (k7.frozen (p := ⟨B, 1, none⟩) hB6 hBX).trans ((unhide HM6).f 1)
              have HEND := hide (add_end (unhide HP) ⟨id, lo, hi⟩ (W.heap.size) m _ _ W6 W7 (unhide H3) (unhide H4) (unhide HR2) hwW (unhide HN6).lt (.inl rfl) (fun e => unhide HNm e.symm) (unhide HM6) (unhide HKS W) l7 k7)
              rw [unhide HU] at HEND
              clear HM6 HN6 l7 k7 HL6
              go_wp2
              go_ret
              exact ⟨by rw [(unhide E).1]; rfl, by rw [(unhide E).2]; exact unhide HEND⟩
            | none =>
              have HKS : Hid (∀ W : World, Keys (DataW.put (.map []) (.int .i64 id) (.lit (.int .i64 ((W.heap.size + 1 : Nat) + 1)))) (addX X (W.heap.size + 1) ⟨id, lo, hi⟩)) := fun W => by
                have hX0 := (unhide HP).empty
                exact (show Keys (.map []) X by rw [hX0]; exact keys_none).add tidy_empty (W.heap.size + 1) ⟨id, lo, hi⟩ ((unhide HP).missing (unhide H3))
              have HXL : Hid (∀ W : World, (addX X (W.heap.size + 1) ⟨id, lo, hi⟩).length = X.length + 1) := fun W => by rw [(addX_perm X (W.heap.size + 1) ⟨id, lo, hi⟩).length_eq]; rfl
              have hme := map_not
              have hmm := @run_makeMap Try.prog
              have hxl : X.length < 4000 := by omega
              clear hlen
              go_enter Try.func28, Try.ntmps28
              go_wp2_with (first
                | (go_at_call 6; refine (unhide HR _).mono ?_; rintro e W ⟨rfl, hW⟩; have BW : Hid (Below w.heap.size w W) := (unhide HB2) _ hW; have cw := (unhide HC W (unhide BW)).1; have HSX := hide (unhide HSB _ hW); have HM9 := hide (mid_none (unhide HP) (unhide BW)); have HAB := hide (below_box W (.map #[] 0)); have ca := ((unhide HAB).cell (p := ⟨B, 0, none⟩) (lt_of_cell cw)).trans cw; have fa := ((unhide HAB).frozen (p := ⟨B, 0, none⟩) (lt_of_cell cw)).trans (((unhide BW).frozen (p := ⟨B, 0, none⟩) ((unhide HP).lt B (unhide HP).fB)).trans ((unhide HP).f 0)); have HBS : Hid (Keeps (· = B) (W.alloc (.map #[] 0)) ((W.alloc (.map #[] 0)).setCell ⟨B, 0, none⟩ (.map (some W.heap.size)))) := keeps_set _ B 0 _; have HNB : Hid (¬ w.heap.size = B) := (fun e => absurd ((unhide HP).lt B (unhide HP).fB) (by omega)); have s0 := ((unhide HBS).cell (p := ⟨w.heap.size, 0, none⟩) (Nat.lt_of_lt_of_le (unhide HSX).2.2 (unhide HAB).size) (unhide HNB)).trans (((unhide HAB).cell (p := ⟨w.heap.size, 0, none⟩) (unhide HSX).2.2).trans (unhide HSX).1); have s1 := ((unhide HBS).cell (p := ⟨w.heap.size, 1, none⟩) (Nat.lt_of_lt_of_le (unhide HSX).2.2 (unhide HAB).size) (unhide HNB)).trans (((unhide HAB).cell (p := ⟨w.heap.size, 1, none⟩) (unhide HSX).2.2).trans (unhide HSX).2.1); have HM0 := hide ((unhide HM9).below (below_box ((W.alloc (.map #[] 0)).setCell ⟨B, 0, none⟩ (.map (some W.heap.size))) (.cells #[.int .i64 id, .int .i64 lo, .int .i64 hi, .int .i64 0, .pointer none, .pointer none] 75))); have HN0 : Hid (NodeW (((W.alloc (.map #[] 0)).setCell ⟨B, 0, none⟩ (.map (some W.heap.size))).alloc (.cells #[.int .i64 id, .int .i64 lo, .int .i64 hi, .int .i64 0, .pointer none, .pointer none] 75)) (W.heap.size + 1) ⟨id, lo, hi⟩ 0 (.pointer none) (.pointer none)) := (node_none W B id lo hi); have cn := (unhide HM0).c0; have HNm : Hid (¬ W.heap.size + 1 = W.heap.size) := (fun e => by omega); have HFm : Hid (F W.heap.size ∨ w.heap.size ≤ W.heap.size) := .inr (unhide BW).size; clear hW)
                | (at_lookup; refine wpList_look_run _ rfl _ _ rfl _ _ _ rfl rfl (unhide HLK _ (unhide BW)) ?_)
                | (at_len; refine wpList_len_run _ rfl _ rfl _ _ rfl (unhide HLN _ (unhide BW) _) ?_)
                | (at_mapUpdate; refine wpList_mapUpdate_in _ rfl _ _ _ 46 rfl 3 47 keyedI Try.underlying46 ptrElem W.heap.size X.length (.map []) rfl (unhide HM0).own (by unfold maxLen; omega) _ _ _ rfl rfl (keyOf_int_mk Try.underlying3 hw) (.lit (.int .i64 (((W.heap.size + 1) : Nat) + 1))) [] rfl ?_; intro W2 own2 turn2; have HM2 := hide ((unhide HM0).put turn2 own2 (unhide HFm)); have HN2 := hide ((unhide HN0).keeps (turned_keeps turn2) (unhide HNm)); have hs2 : (W.heap.size + 1) < W2.heap.size := (unhide HN2).lt; clear own2 turn2)
                | (go_at_call 44; refine (tree_order (linkT X) B W.heap.size _ (X.length + 1) _ _ (unhide HM2).c0 (unhide HM2).own (by rw [(unhide HKS W).size]; exact (unhide HXL W)) (by omega) (unhide HM2).c1 (unhide HM2).lies (by rw [items_link]; omega)).mono ?_; rw [items_link]; rintro e W3 ⟨q, rfl, row3, b3⟩))
              obtain ⟨cur3, hc3, _, _, _, hq3⟩ := row_block row3
              have hwW : w.heap.size ≤ (W.heap.size + 1) := by have := (unhide HSX).2.2; omega
              have HM3 := hide ((unhide HM2).below b3)
              have HN3 := hide ((unhide HN2).of_block (b3.block _ hs2))
              have hxq : ∀ x, x ∈ X → x.1 ≠ q := fun x hx => by have := ((unhide HM2).nodes x hx).lt; omega
              have hnq : (W.heap.size + 1) ≠ q := by omega
              have hmq : W.heap.size ≠ q := by have := (unhide HM2).own.lt; omega
              have hBq : B ≠ q := by
                have hB2 : B < W2.heap.size := lt_of_cell (unhide HM2).c0
                omega
              have HXQ := hide hxq
              have HLE := hide (posX_le X ⟨id, lo, hi⟩)
              refine (search_node X ((W.heap.size + 1), ⟨id, lo, hi⟩) q (X.length + 1 + 1) W2.heap.size W3 (unhide HP).ordered (unhide HM3).nodes hxq ⟨_, _, _, unhide HN3⟩ hnq row3 (by omega)).mono ?_
              rintro e W4 ⟨bl, rfl, b4⟩
              have HR4 := hide (ownsRow_carry row3 b4)
              have HM4 := hide ((unhide HM3).below b4)
              have HN4 := hide ((unhide HN3).of_block (b4.block _ (unhide HN3).lt))
              have hq4 : q < W4.heap.size := Nat.lt_of_lt_of_le (lt_of_block hc3) b4.size
              clear row3 b3 b4 hc3 HM3 HN3 HM0 HN0 cn hxq
              generalize hpos : posX X ⟨id, lo, hi⟩ = k at *
              have HPOS := hide hpos
              clear hpos
              go_wp2_with fail
              have HM5 := hide ((unhide HM4).below (below_box W4 (.cells #[.pointer (some ⟨(W.heap.size + 1), 0, none⟩)] 47)))
              have HN5 := hide ((unhide HN4).of_block ((below_box W4 (.cells #[.pointer (some ⟨(W.heap.size + 1), 0, none⟩)] 47)).block _ (unhide HN4).lt))
              refine (ins_node X ((W.heap.size + 1), ⟨id, lo, hi⟩) q (X.length + 1 + 1) W2.heap.size k W4.heap.size _ ((unhide HR4).alloc _) (by omega) (by omega) (unhide HLE) (by omega) (heap_alloc_new W4 _)).mono ?_
              rintro e W6 ⟨rfl, hcell, k6⟩
              have HM6 := hide ((unhide HM5).keep k6 hBq hmq (unhide HXQ) (fun i hi e => by subst e; exact absurd hq3 (by have := hs2; omega)))
              have HN6 := hide ((unhide HN5).keeps k6 hnq)
              have hR6 : Rows W6 (some ⟨q, 0, none⟩) q 0 (addX X ((W.heap.size + 1)) ⟨id, lo, hi⟩) := add_rows (unhide HP) ⟨id, lo, hi⟩ ((W.heap.size + 1)) q W6 hwW (unhide HM6).nodes ⟨_, _, _, unhide HN6⟩ (unhide HXQ) hnq (by rw [unhide HPOS]; exact hcell)
              have HL6 := hide (tree_link _ (addX X ((W.heap.size + 1)) ⟨id, lo, hi⟩) _ q 0 (X.length + 1 + 1) W6 rfl (by rw [unhide HXL W]; omega) (by omega) hR6)
              rw [unhide HXL W] at HL6
              obtain ⟨u, hu⟩ := ptr_form (linkT (addX X ((W.heap.size + 1)) ⟨id, lo, hi⟩))
              have HU := hide hu
              have hBX : ¬ inX (addX X ((W.heap.size + 1)) ⟨id, lo, hi⟩) B := fun hf => by
                obtain ⟨x, hx, hxB⟩ := List.mem_map.1 hf
                rcases List.mem_cons.1 ((addX_perm X ((W.heap.size + 1)) ⟨id, lo, hi⟩).mem_iff.1 hx) with rfl | hx
                · have := (unhide HP).lt B (unhide HP).fB
                  have hxB' : (W.heap.size + 1) = B := hxB
                  omega
                · exact (unhide HP).out x hx hxB
              clear hcell k6 HM5 HN5 HM4 HN4 hR6 HR4 hu
              go_wp2_with fail
              refine (unhide HL6).mono ?_
              rintro e W7 ⟨he, l7, k7⟩
              rw [unhide HU] at he
              subst he
              have hB6 := lt_of_cell (unhide HM6).c0
              have d1 := (k7.cell (p := ⟨B, 1, none⟩) hB6 hBX).trans (unhide HM6).c1
              have g1 := (k7.frozen (p := ⟨B, 1, none⟩) hB6 hBX).trans ((unhide HM6).f 1)
              have HEND := hide (add_end (unhide HP) ⟨id, lo, hi⟩ ((W.heap.size + 1)) W.heap.size _ _ W6 W7 (unhide H3) (unhide H4) (unhide HR2) hwW (unhide HN6).lt (.inr (unhide BW).size) (fun e => unhide HNm e.symm) (unhide HM6) (unhide HKS W) l7 k7)
              rw [unhide HU] at HEND
              clear HM6 HN6 l7 k7 HL6
              go_wp2
              go_ret
              exact ⟨by rw [(unhide E).1]; rfl, by rw [(unhide E).2]; exact unhide HEND⟩
      · have e0 : Hid (addErr L ⟨id, lo, hi⟩ = 1) := by unfold Hid; rw [unhide HE, if_pos h1', if_neg h2]
        have h2' : rightB lo hi = false := by simpa using h2
        rw [h2'] at HR
        have HT := hide h
        clear HE h2 h2' h
        go_enter Try.func28, Try.ntmps28
        go_wp2_with (first | (go_at_call 6; refine (unhide HR _).mono ?_; rintro e W ⟨rfl, hW⟩; have BW : Hid (Below w.heap.size w W) := (unhide HB2) _ hW; clear hW))
        go_ret
        exact ⟨by rw [unhide e0]; rfl, by rw [add_none (by rw [unhide e0]; decide)]; exact turned_below (unhide HT) (unhide BW)⟩

end Go.Proofs.Ytfcmkaiocnelgaa
