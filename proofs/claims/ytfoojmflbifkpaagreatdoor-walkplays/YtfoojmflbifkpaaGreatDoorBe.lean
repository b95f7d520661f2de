/- Texts of one proof, one behind the other. -/
import Derived.Test.YtfoojmflbifkpaaGreatDoorBd
import Derived.Test.YtfoojmflbifkpaaGreatDoorBa
import Derived.Test.YtfoojmflbifkpaaGreatDoorBc
import Derived.Test.YtfoojmflbifkpaaGreatDoorShelfS
import Derived.Sort.OwnSortedInts
import Derived.Laws.EntriesVeiled

/- A span comes into the program's tree: the program's Add: walked. -/
namespace Go.Proofs.YtfoojmflbifkpaaGreatDoor
open Go.RowKit Go.Maps
def TreeSays (n : Int) (L' : List Ent) (B : Nat) (F : Nat → Prop) (w : World) (e : Ending) (w' : World) : Prop := e = .returned (errV n) ∧ Turned w B L' F w'
theorem turned_below {w w' : World} {B : Nat} {L : List Ent} {F : Nat → Prop} (h : PT w B L F) (hb : Below w.heap.size w w') : Turned w B L F w' := ⟨F, h.below hb, fun _ h => .inl h, Keeps.of_below F hb (Nat.le_refl _), fun i _ _ => hb.cell (p := ⟨B, i, none⟩) (h.lt B h.fB)⟩
theorem add_none {L : List Ent} {x : Ent} (h : addErr L x ≠ 0) : addTo L x = L := by
  unfold addTo
  rw [if_neg h]
theorem wf_small {id : Int} (h0 : 0 ≤ id) (h1 : id ≤ 1048576) : (Lit.int .i64 id).wf = true := WalkArith.wf_i64 (by omega)
theorem add_rows {w : World} {B : Nat} {L : List Ent} {mv : Option Nat} {X : List (Nat × Ent)} {F : Nat → Prop} (h : PX w B L mv X F) (e : Ent) (nb q : Nat) (W : World) (hnb : w.heap.size ≤ nb) (hX : ∀ x, x ∈ X → NodeAt W x.1 x.2) (hN : NodeAt W nb e) (hxq : ∀ x, x ∈ X → x.1 ≠ q) (hnq : nb ≠ q)
    (hc : ∀ j, (h : j < (X.take (posX X e) ++ (nb, e) :: X.drop (posX X e)).length) → W.cell? ⟨q, j, none⟩ = some (ptrB (X.take (posX X e) ++ (nb, e) :: X.drop (posX X e))[j])) : Rows W (some ⟨q, 0, none⟩) q 0 (addX X nb e) := by
  have hmem : ∀ x, x ∈ addX X nb e ↔ x = (nb, e) ∨ x ∈ X := fun x => by rw [(addX_perm X nb e).mem_iff, List.mem_cons]
  refine ⟨fun j hj => ⟨rfl, ?_⟩, fun x hx => ?_, ?_, fun x hx => ?_⟩
  · rw [Nat.zero_add]
    exact hc j hj
  · rcases (hmem x).1 hx with rfl | hx
    · exact hN
    · exact hX x hx
  · refine ((addX_perm X nb e).map (·.1)).nodup_iff.2 ?_
    rw [List.map_cons, List.nodup_cons]
    refine ⟨fun q => ?_, h.nodup⟩
    obtain ⟨x, hx, k⟩ := List.mem_map.1 q
    have := h.lt x.1 (h.fX x hx)
    have k' : x.1 = nb := k
    omega
  · rcases (hmem x).1 hx with rfl | hx
    · exact hnq
    · exact hxq x hx
theorem PX.empty {w : World} {B : Nat} {L : List Ent} {X : List (Nat × Ent)} {F : Nat → Prop} (h : PX w B L none X F) : X = [] := by
  rcases h.map with ⟨_, e⟩ | ⟨m, D, e, _⟩
  · exact e
  · cases e
theorem mid_none {w W : World} {B : Nat} {L : List Ent} {X : List (Nat × Ent)} {F : Nat → Prop} (h : PX w B L none X F) (hb : Below w.heap.size w W) : Mid w B W.heap.size X.length X (.map []) F ((W.alloc (.map #[] 0)).setCell ⟨B, 1, none⟩ (.map (some W.heap.size))) := by
  have hB := h.lt B h.fB
  have hBW : B < W.heap.size := Nat.lt_of_lt_of_le hB hb.size
  have hX := h.empty
  have a0 : (W.alloc (.map #[] 0)).cell? ⟨B, 1, none⟩ = some (.map none) := by
    rw [World.cell?_alloc_lt _ _ _ hBW]
    exact (hb.cell (p := ⟨B, 1, none⟩) hB).trans h.c0
  have a1 : (W.alloc (.map #[] 0)).cell? ⟨B, 2, none⟩ = some (linkT X).ptr := by
    rw [World.cell?_alloc_lt _ _ _ hBW]
    exact (hb.cell (p := ⟨B, 2, none⟩) hB).trans h.c1
  refine ⟨World.cell?_setCell_same _ _ _ a0, ?_, fun i => ?_, ?_, ?_, ?_, fun i h1 h2 => ?_⟩
  · rw [World.cell?_setCell_other _ _ _ _ (by simp)]
    exact a1
  · rw [World.frozen?_setCell, (below_box W _).frozen (p := ⟨B, i, none⟩) hBW, hb.frozen (p := ⟨B, i, none⟩) hB, h.f i]
  · have := (World.ownsMap_made W Tryz.prog 3 ptrElem).setCell (a := ⟨B, 1, none⟩) (by show W.heap.size ≠ B; omega) (.map (some W.heap.size))
    rw [hX]
    exact this
  · rw [hX, linkT_nil]
    trivial
  · exact ((Keeps.of_below _ hb (Nat.le_refl _)).then (Keeps.of_below (fun _ => False) (below_box W _) (Nat.le_refl _)) (fun _ _ f => f.elim)).then (keeps_set _ B 1 _) (fun i _ e => by cases e; exact .inl h.fB)
  · rw [World.cell?_setCell_other _ _ _ _ (by simp <;> omega), World.cell?_alloc_lt _ _ _ hBW]
    exact hb.cell (p := ⟨B, i, none⟩) hB
theorem map_is (m : Nat) (w : World) : (binOp .eql 180 (.map (some m)) (.map none)).run Tryz.prog w = .ok (.bool false) w := by kernel_rfl
theorem map_not (w : World) : (binOp .eql 180 (.map none) (.map none)).run Tryz.prog w = .ok (.bool true) w := by kernel_rfl
def nodeO (id lo hi : Int) : Obj := .cells #[.int .i64 id, .int .i64 lo, .int .i64 hi, .int .i64 0, .pointer none, .pointer none] 281
theorem node_new (w : World) (id lo hi : Int) : NodeW (w.alloc (nodeO id lo hi)) w.heap.size ⟨id, lo, hi⟩ 0 (.pointer none) (.pointer none) := by
  unfold nodeO
  exact ⟨by simp, by simp, by simp, by simp, by simp, by simp, fun i => by simp⟩
theorem node_none (W : World) (B : Nat) (id lo hi : Int) : NodeW (((W.alloc (.map #[] 0)).setCell ⟨B, 1, none⟩ (.map (some W.heap.size))).alloc (nodeO id lo hi)) (W.heap.size + 1) ⟨id, lo, hi⟩ 0 (.pointer none) (.pointer none) := by
  have := node_new ((W.alloc (.map #[] 0)).setCell ⟨B, 1, none⟩ (.map (some W.heap.size))) id lo hi
  simpa using this
theorem PX.mid {w : World} {B : Nat} {L : List Ent} {m : Nat} {X : List (Nat × Ent)} {F : Nat → Prop} (h : PX w B L (some m) X F) : ∃ D, Keys D X ∧ ∀ W, Below w.heap.size w W → Mid w B m X.length X D F W := by
  rcases h.map with ⟨e, _⟩ | ⟨m', D, e, h1, h2⟩
  · cases e
  · cases e
    refine ⟨D, h2, fun W hW => ?_⟩
    have hk : Keeps (fun _ => False) w W := Keeps.of_below _ hW (Nat.le_refl _)
    have hB := h.lt B h.fB
    exact ⟨(hW.cell (p := ⟨B, 1, none⟩) hB).trans h.c0, (hW.cell (p := ⟨B, 2, none⟩) hB).trans h.c1, fun i => (hW.frozen (p := ⟨B, i, none⟩) hB).trans (h.f i), ownsMap_keeps h1 hk (fun f => f), h.lies.keeps hk (fun _ _ f => f), Keeps.of_below _ hW (Nat.le_refl _), fun i _ _ => hW.cell (p := ⟨B, i, none⟩) hB⟩
set_option maxRecDepth 100000 in
set_option maxHeartbeats 4000000 in
theorem tree_Add (L : List Ent) (B : Nat) (F : Nat → Prop) (id lo hi : Int) (w : World) (h : PT w B L F) :
    Calls Tryz.prog 141 #[.pointer (some ⟨B, 1, none⟩), .int .i64 id, .agg #[.int .i64 lo, .int .i64 hi]] w (TreeSays (addErr L ⟨id, lo, hi⟩) (addTo L ⟨id, lo, hi⟩) B F w) := by
  have hB0 := below_box w (.cells #[.int .i64 lo, .int .i64 hi] 34)
  have HE : Hid (addErr L ⟨id, lo, hi⟩ = if 0 ≤ id ∧ id ≤ 1048576 then (if rightB lo hi = true then (if foundT L id = true then 9 else if 4000 ≤ L.length then 12 else 0) else 1) else 2) := rfl
  have HR := hide (fun W => span_Right lo hi W)
  by_cases h0 : id < 0
  · have e0 : Hid (addErr L ⟨id, lo, hi⟩ = 2) := by unfold Hid; rw [unhide HE, if_neg (by omega)]
    have HT := hide h
    clear HE HR h
    go_enter Tryz.func141, Tryz.ntmps141
    go_wp2
    go_ret
    exact ⟨by rw [unhide e0]; rfl, by rw [add_none (by rw [unhide e0]; decide)]; exact turned_below (unhide HT) hB0⟩
  · by_cases h1 : 1048576 < id
    · have e0 : Hid (addErr L ⟨id, lo, hi⟩ = 2) := by unfold Hid; rw [unhide HE, if_neg (by omega)]
      have HT := hide h
      clear HE HR h
      go_enter Tryz.func141, Tryz.ntmps141
      go_wp2
      go_ret
      exact ⟨by rw [unhide e0]; rfl, by rw [add_none (by rw [unhide e0]; decide)]; exact turned_below (unhide HT) hB0⟩
    · have h1' : 0 ≤ id ∧ id ≤ 1048576 := by omega
      have HB2 : Hid (∀ W, W = (w.alloc (.cells #[.int .i64 lo, .int .i64 hi] 34)).alloc (.cells #[.int .i64 lo, .int .i64 hi] 34) → Below w.heap.size w W) := fun W e => by rw [e]; exact hB0.trans ((below_box _ _).mono (by simp))
      by_cases h2 : rightB lo hi = true
      · have HSB : Hid (∀ W, W = (w.alloc (.cells #[.int .i64 lo, .int .i64 hi] 34)).alloc (.cells #[.int .i64 lo, .int .i64 hi] 34) → W.cell? ⟨w.heap.size, 0, none⟩ = some (.int .i64 lo) ∧ W.cell? ⟨w.heap.size, 1, none⟩ = some (.int .i64 hi) ∧ w.heap.size < W.heap.size) := fun W e => by
          rw [e]
          refine ⟨?_, ?_, ?_⟩
          · rw [World.cell?_alloc_lt _ _ _ (by simp)]; simp
          · rw [World.cell?_alloc_lt _ _ _ (by simp)]; simp
          · simp; omega
        have HR2 : Hid (rightB lo hi = true) := h2
        rw [h2] at HR
        obtain ⟨mv, X, hP⟩ := h
        have HT : Hid (PT w B L F) := ⟨mv, X, hP⟩
        have HP := hide hP
        have hw := wf_small h1'.1 h1'.2
        have hlen := hP.length
        have HC : Hid (∀ W, Below w.heap.size w W → W.cell? ⟨B, 1, none⟩ = some (.map mv) ∧ MapAt W mv X) := fun W hW => ⟨(hW.cell (p := ⟨B, 1, none⟩) (hP.lt B hP.fB)).trans hP.c0, hP.map.keeps (Keeps.of_below (fun _ => False) hW (Nat.le_refl _)) (fun _ _ f => f)⟩
        have HLN : Hid (∀ W, Below w.heap.size w W → ∀ ty, (Builtin.len_ #[180] ty #[.map mv]).run Tryz.prog W = .ok (.int .i64 (X.length : Nat)) W) := fun W hW ty => len_map (unhide HC W hW).2 ty
        clear hP
        by_cases h3 : foundT L id = true
        · have e0 : Hid (addErr L ⟨id, lo, hi⟩ = 9) := by unfold Hid; rw [unhide HE, if_pos h1', if_pos h2, if_pos h3]
          obtain ⟨x, hx, hxid, _⟩ := (unhide HP).there h3
          have HLK : Hid (∀ W, Below w.heap.size w W → (Instr.lookup 180 (.map mv) (.int .i64 id) false).run Tryz.prog W = .ok (.pointer (some ⟨x.1, 0, none⟩)) W) := fun W hW => by
            have := look_at (unhide HC W hW).2 x hx (by rw [hxid]; exact hw)
            rwa [hxid] at this
          clear HE h2 h3 HP hx hxid hw hlen
          go_enter Tryz.func141, Tryz.ntmps141
          go_wp2_with (first | (go_at_call 101; refine (unhide HR _).mono ?_; rintro e W ⟨rfl, hW⟩; have BW : Hid (Below w.heap.size w W) := (unhide HB2) _ hW; have cw := (unhide HC W (unhide BW)).1; have HSX := hide (unhide HSB _ hW); clear hW) | (at_lookup; refine wpList_look_run _ rfl _ _ rfl _ _ _ rfl rfl (unhide HLK _ (unhide (by assumption))) ?_))
          go_ret
          exact ⟨by rw [unhide e0]; rfl, by rw [add_none (by rw [unhide e0]; decide)]; exact turned_below (unhide HT) (unhide BW)⟩
        · have h3' : foundT L id = false := by simpa using h3
          have HLK : Hid (∀ W, Below w.heap.size w W → (Instr.lookup 180 (.map mv) (.int .i64 id) false).run Tryz.prog W = .ok (.pointer none) W) := fun W hW => look_none (unhide HC W hW).2 id hw ((unhide HP).missing h3')
          by_cases h4 : 4000 ≤ L.length
          · have e0 : Hid (addErr L ⟨id, lo, hi⟩ = 12) := by unfold Hid; rw [unhide HE, if_pos h1', if_pos h2, if_neg h3, if_pos h4]
            have h4' : (4000 : Int) ≤ (X.length : Int) := by omega
            clear HE h2 h3 HP hw hlen h3'
            go_enter Tryz.func141, Tryz.ntmps141
            go_wp2_with (first | (go_at_call 101; refine (unhide HR _).mono ?_; rintro e W ⟨rfl, hW⟩; have BW : Hid (Below w.heap.size w W) := (unhide HB2) _ hW; have cw := (unhide HC W (unhide BW)).1; have HSX := hide (unhide HSB _ hW); clear hW) | (at_lookup; refine wpList_look_run _ rfl _ _ rfl _ _ _ rfl rfl (unhide HLK _ (unhide (by assumption))) ?_) | (at_len; refine wpList_len_run _ rfl _ rfl _ _ rfl (unhide HLN _ (unhide (by assumption)) _) ?_))
            go_ret
            exact ⟨by rw [unhide e0]; rfl, by rw [add_none (by rw [unhide e0]; decide)]; exact turned_below (unhide HT) (unhide BW)⟩
          · have E : Hid (addErr L ⟨id, lo, hi⟩ = 0 ∧ addTo L ⟨id, lo, hi⟩ = addT L ⟨id, lo, hi⟩) := by
              have e0 : addErr L ⟨id, lo, hi⟩ = 0 := by rw [unhide HE, if_pos h1', if_pos h2, if_neg h3, if_neg h4]
              exact ⟨e0, by unfold addTo; rw [if_pos e0]⟩
            have h4' : ¬ (4000 : Int) ≤ (X.length : Int) := by omega
            have H4 : Hid (L.length < 4000) := by unfold Hid; omega
            have H3 : Hid (foundT L id = false) := h3'
            clear HE h2 h3 h3' h4
            cases mv with
            | some m =>
              obtain ⟨D, hKD, hMD⟩ := (unhide HP).mid
              have HKS : Hid (∀ W : World, Keys (D.put (.int .i64 id) (.lit (.int .i64 ((W.heap.size : Nat) + 1)))) (addX X W.heap.size ⟨id, lo, hi⟩)) := fun W => hKD.add ((hMD w (Below.refl _ _)).own.tidy keyedI) W.heap.size ⟨id, lo, hi⟩ ((unhide HP).missing (unhide H3))
              have HXL : Hid (∀ W : World, (addX X W.heap.size ⟨id, lo, hi⟩).length = X.length + 1) := fun W => by rw [(addX_perm X W.heap.size ⟨id, lo, hi⟩).length_eq]; rfl
              have HFm : Hid (F m ∨ w.heap.size ≤ m) := .inl ((unhide HP).fm m rfl)
              have HMD := hide hMD
              have hme := map_is
              have hxl : X.length < 4000 := by omega
              clear hKD hMD hlen
              go_enter Tryz.func141, Tryz.ntmps141
              go_wp2_with (first
                | (go_at_call 101; refine (unhide HR _).mono ?_; rintro e W ⟨rfl, hW⟩; have BW : Hid (Below w.heap.size w W) := (unhide HB2) _ hW; have cw := (unhide HC W (unhide BW)).1; have HSX := hide (unhide HSB _ hW); have s0 := (unhide HSX).1; have s1 := (unhide HSX).2.1; have HM0 := hide ((unhide HMD _ (unhide BW)).below (below_box W (.cells #[.int .i64 id, .int .i64 lo, .int .i64 hi, .int .i64 0, .pointer none, .pointer none] 281))); have HN0 : Hid (NodeW (W.alloc (.cells #[.int .i64 id, .int .i64 lo, .int .i64 hi, .int .i64 0, .pointer none, .pointer none] 281)) W.heap.size ⟨id, lo, hi⟩ 0 (.pointer none) (.pointer none)) := node_new W id lo hi; have cn := (unhide HM0).c0; have HNm : Hid (¬ W.heap.size = m) := (fun e => map_no_cells (unhide HM0).own (unhide HN0).c0 e.symm); clear hW)
                | (at_lookup; refine wpList_look_run _ rfl _ _ rfl _ _ _ rfl rfl (unhide HLK _ (unhide BW)) ?_)
                | (at_len; refine wpList_len_run _ rfl _ rfl _ _ rfl (unhide HLN _ (unhide BW) _) ?_)
                | (at_mapUpdate; refine wpList_mapUpdate_in _ rfl _ _ _ 180 rfl 3 181 keyedI Tryz.underlying180 ptrElem m X.length D rfl (unhide HM0).own (by unfold maxLen; omega) _ _ _ rfl rfl (keyOf_int_mk Tryz.underlying3 hw) (.lit (.int .i64 ((W.heap.size : Nat) + 1))) [] rfl ?_; intro W2 own2 turn2; have HM2 := hide ((unhide HM0).put turn2 own2 (unhide HFm)); have HN2 := hide ((unhide HN0).keeps (turned_keeps turn2) (unhide HNm)); have hs2 : W.heap.size < W2.heap.size := (unhide HN2).lt; clear own2 turn2)
                | (go_at_call 185; refine (tree_order (linkT X) B m _ (X.length + 1) _ _ (unhide HM2).c0 (unhide HM2).own (by rw [(unhide HKS W).size]; exact (unhide HXL W)) (by omega) (unhide HM2).c1 (unhide HM2).lies (by rw [items_link]; omega)).mono ?_; rw [items_link]; rintro e W3 ⟨q, rfl, row3, b3⟩))
              obtain ⟨cur3, hc3, _, _, _, hq3⟩ := row_block row3
              have hwW : w.heap.size ≤ W.heap.size := by have := (unhide HSX).2.2; omega
              have HM3 := hide ((unhide HM2).below b3)
              have HN3 := hide ((unhide HN2).of_block (b3.block _ hs2))
              have hxq : ∀ x, x ∈ X → x.1 ≠ q := fun x hx => by have := ((unhide HM2).nodes x hx).lt; omega
              have hnq : W.heap.size ≠ q := by omega
              have hmq : m ≠ q := by have := (unhide HM2).own.lt; omega
              have hBq : B ≠ q := by
                have hB2 : B < W2.heap.size := lt_of_cell (unhide HM2).c0
                omega
              have HXQ := hide hxq
              have HLE := hide (posX_le X ⟨id, lo, hi⟩)
              refine (search_node X (W.heap.size, ⟨id, lo, hi⟩) q (X.length + 1 + 1) W2.heap.size W3 (unhide HP).ordered (unhide HM3).nodes hxq ⟨_, _, _, unhide HN3⟩ hnq row3 (by omega)).mono ?_
              rintro e W4 ⟨bl, rfl, b4⟩
              have HR4 := hide (ownsRow_carry row3 b4)
              have HM4 := hide ((unhide HM3).below b4)
              have HN4 := hide ((unhide HN3).of_block (b4.block _ (unhide HN3).lt))
              have hq4 : q < W4.heap.size := Nat.lt_of_lt_of_le (lt_of_block hc3) b4.size
              clear row3 b3 b4 hc3 HM3 HN3 HM0 HN0 cn hxq
              generalize hpos : posX X ⟨id, lo, hi⟩ = k at *
              have HPOS := hide hpos
              clear hpos
              go_wp2_with fail
              have HM5 := hide ((unhide HM4).below (below_box W4 (.cells #[.pointer (some ⟨W.heap.size, 0, none⟩)] 181)))
              have HN5 := hide ((unhide HN4).of_block ((below_box W4 (.cells #[.pointer (some ⟨W.heap.size, 0, none⟩)] 181)).block _ (unhide HN4).lt))
              refine (ins_node X (W.heap.size, ⟨id, lo, hi⟩) q (X.length + 1 + 1) W2.heap.size k W4.heap.size _ ((unhide HR4).alloc _) (by omega) (by omega) (unhide HLE) (by omega) (heap_alloc_new W4 _)).mono ?_
              rintro e W6 ⟨rfl, hcell, k6⟩
              have HM6 := hide ((unhide HM5).keep k6 hBq hmq (unhide HXQ) (fun i hi e => by subst e; exact absurd hq3 (by have := hs2; omega)))
              have HN6 := hide ((unhide HN5).keeps k6 hnq)
              have hR6 : Rows W6 (some ⟨q, 0, none⟩) q 0 (addX X (W.heap.size) ⟨id, lo, hi⟩) := add_rows (unhide HP) ⟨id, lo, hi⟩ (W.heap.size) q W6 hwW (unhide HM6).nodes ⟨_, _, _, unhide HN6⟩ (unhide HXQ) hnq (by rw [unhide HPOS]; exact hcell)
              have HL6 := hide (tree_link _ (addX X (W.heap.size) ⟨id, lo, hi⟩) _ q 0 (X.length + 1 + 1) W6 rfl (by rw [unhide HXL W]; omega) (by omega) hR6)
              rw [unhide HXL W] at HL6
              obtain ⟨u, hu⟩ := ptr_form (linkT (addX X (W.heap.size) ⟨id, lo, hi⟩))
              have HU := hide hu
              have hBX : ¬ inX (addX X (W.heap.size) ⟨id, lo, hi⟩) B := fun hf => by
                obtain ⟨x, hx, hxB⟩ := List.mem_map.1 hf
                rcases List.mem_cons.1 ((addX_perm X (W.heap.size) ⟨id, lo, hi⟩).mem_iff.1 hx) with rfl | hx
                · have := (unhide HP).lt B (unhide HP).fB
                  have hxB' : W.heap.size = B := hxB
                  omega
                · exact (unhide HP).out x hx hxB
              clear hcell k6 HM5 HN5 HM4 HN4 hR6 HR4 hu
              go_wp2_with fail
              refine (unhide HL6).mono ?_
              rintro e W7 ⟨he, l7, k7⟩
              rw [unhide HU] at he
              subst he
              have hB6 := lt_of_cell (unhide HM6).c0
              have d1 := (k7.cell (p := ⟨B, 2, none⟩) hB6 hBX).trans (unhide HM6).c1
              have g1 := (k7.frozen (p := ⟨B, 2, none⟩) hB6 hBX).trans ((unhide HM6).f 2)
              have HEND := hide (add_end (unhide HP) ⟨id, lo, hi⟩ (W.heap.size) m _ _ W6 W7 (unhide H3) (unhide H4) (unhide HR2) hwW (unhide HN6).lt (.inl rfl) (fun e => unhide HNm e.symm) (unhide HM6) (unhide HKS W) l7 k7)
              rw [unhide HU] at HEND
              clear HM6 HN6 l7 k7 HL6
              go_wp2
              go_ret
              exact ⟨by rw [(unhide E).1]; rfl, by rw [(unhide E).2]; exact unhide HEND⟩
            | none =>
              have HKS : Hid (∀ W : World, Keys (DataW.put (.map []) (.int .i64 id) (.lit (.int .i64 ((W.heap.size + 1 : Nat) + 1)))) (addX X (W.heap.size + 1) ⟨id, lo, hi⟩)) := fun W => by
                have hX0 := (unhide HP).empty
                exact (show Keys (.map []) X by rw [hX0]; exact keys_none).add tidy_empty (W.heap.size + 1) ⟨id, lo, hi⟩ ((unhide HP).missing (unhide H3))
              have HXL : Hid (∀ W : World, (addX X (W.heap.size + 1) ⟨id, lo, hi⟩).length = X.length + 1) := fun W => by rw [(addX_perm X (W.heap.size + 1) ⟨id, lo, hi⟩).length_eq]; rfl
              have hme := map_not
              have hmm := @run_makeMap Tryz.prog
              have hxl : X.length < 4000 := by omega
              clear hlen
              go_enter Tryz.func141, Tryz.ntmps141
              go_wp2_with (first
                | (go_at_call 101; refine (unhide HR _).mono ?_; rintro e W ⟨rfl, hW⟩; have BW : Hid (Below w.heap.size w W) := (unhide HB2) _ hW; have cw := (unhide HC W (unhide BW)).1; have HSX := hide (unhide HSB _ hW); have HM9 := hide (mid_none (unhide HP) (unhide BW)); have HAB := hide (below_box W (.map #[] 0)); have ca := ((unhide HAB).cell (p := ⟨B, 1, none⟩) (lt_of_cell cw)).trans cw; have fa := ((unhide HAB).frozen (p := ⟨B, 1, none⟩) (lt_of_cell cw)).trans (((unhide BW).frozen (p := ⟨B, 1, none⟩) ((unhide HP).lt B (unhide HP).fB)).trans ((unhide HP).f 1)); have HBS : Hid (Keeps (· = B) (W.alloc (.map #[] 0)) ((W.alloc (.map #[] 0)).setCell ⟨B, 1, none⟩ (.map (some W.heap.size)))) := keeps_set _ B 1 _; have HNB : Hid (¬ w.heap.size = B) := (fun e => absurd ((unhide HP).lt B (unhide HP).fB) (by omega)); have s0 := ((unhide HBS).cell (p := ⟨w.heap.size, 0, none⟩) (Nat.lt_of_lt_of_le (unhide HSX).2.2 (unhide HAB).size) (unhide HNB)).trans (((unhide HAB).cell (p := ⟨w.heap.size, 0, none⟩) (unhide HSX).2.2).trans (unhide HSX).1); have s1 := ((unhide HBS).cell (p := ⟨w.heap.size, 1, none⟩) (Nat.lt_of_lt_of_le (unhide HSX).2.2 (unhide HAB).size) (unhide HNB)).trans (((unhide HAB).cell (p := ⟨w.heap.size, 1, none⟩) (unhide HSX).2.2).trans (unhide HSX).2.1); have HM0 := hide ((unhide HM9).below (below_box ((W.alloc (.map #[] 0)).setCell ⟨B, 1, none⟩ (.map (some W.heap.size))) (.cells #[.int .i64 id, .int .i64 lo, .int .i64 hi, .int .i64 0, .pointer none, .pointer none] 281))); have HN0 : Hid (NodeW (((W.alloc (.map #[] 0)).setCell ⟨B, 1, none⟩ (.map (some W.heap.size))).alloc (.cells #[.int .i64 id, .int .i64 lo, .int .i64 hi, .int .i64 0, .pointer none, .pointer none] 281)) (W.heap.size + 1) ⟨id, lo, hi⟩ 0 (.pointer none) (.pointer none)) := (node_none W B id lo hi); have cn := (unhide HM0).c0; have HNm : Hid (¬ W.heap.size + 1 = W.heap.size) := (fun e => by omega); have HFm : Hid (F W.heap.size ∨ w.heap.size ≤ W.heap.size) := .inr (unhide BW).size; clear hW)
                | (at_lookup; refine wpList_look_run _ rfl _ _ rfl _ _ _ rfl rfl (unhide HLK _ (unhide BW)) ?_)
                | (at_len; refine wpList_len_run _ rfl _ rfl _ _ rfl (unhide HLN _ (unhide BW) _) ?_)
                | (at_mapUpdate; refine wpList_mapUpdate_in _ rfl _ _ _ 180 rfl 3 181 keyedI Tryz.underlying180 ptrElem W.heap.size X.length (.map []) rfl (unhide HM0).own (by unfold maxLen; omega) _ _ _ rfl rfl (keyOf_int_mk Tryz.underlying3 hw) (.lit (.int .i64 (((W.heap.size + 1) : Nat) + 1))) [] rfl ?_; intro W2 own2 turn2; have HM2 := hide ((unhide HM0).put turn2 own2 (unhide HFm)); have HN2 := hide ((unhide HN0).keeps (turned_keeps turn2) (unhide HNm)); have hs2 : (W.heap.size + 1) < W2.heap.size := (unhide HN2).lt; clear own2 turn2)
                | (go_at_call 185; refine (tree_order (linkT X) B W.heap.size _ (X.length + 1) _ _ (unhide HM2).c0 (unhide HM2).own (by rw [(unhide HKS W).size]; exact (unhide HXL W)) (by omega) (unhide HM2).c1 (unhide HM2).lies (by rw [items_link]; omega)).mono ?_; rw [items_link]; rintro e W3 ⟨q, rfl, row3, b3⟩))
              obtain ⟨cur3, hc3, _, _, _, hq3⟩ := row_block row3
              have hwW : w.heap.size ≤ (W.heap.size + 1) := by have := (unhide HSX).2.2; omega
              have HM3 := hide ((unhide HM2).below b3)
              have HN3 := hide ((unhide HN2).of_block (b3.block _ hs2))
              have hxq : ∀ x, x ∈ X → x.1 ≠ q := fun x hx => by have := ((unhide HM2).nodes x hx).lt; omega
              have hnq : (W.heap.size + 1) ≠ q := by omega
              have hmq : W.heap.size ≠ q := by have := (unhide HM2).own.lt; omega
              have hBq : B ≠ q := by
                have hB2 : B < W2.heap.size := lt_of_cell (unhide HM2).c0
                omega
              have HXQ := hide hxq
              have HLE := hide (posX_le X ⟨id, lo, hi⟩)
              refine (search_node X ((W.heap.size + 1), ⟨id, lo, hi⟩) q (X.length + 1 + 1) W2.heap.size W3 (unhide HP).ordered (unhide HM3).nodes hxq ⟨_, _, _, unhide HN3⟩ hnq row3 (by omega)).mono ?_
              rintro e W4 ⟨bl, rfl, b4⟩
              have HR4 := hide (ownsRow_carry row3 b4)
              have HM4 := hide ((unhide HM3).below b4)
              have HN4 := hide ((unhide HN3).of_block (b4.block _ (unhide HN3).lt))
              have hq4 : q < W4.heap.size := Nat.lt_of_lt_of_le (lt_of_block hc3) b4.size
              clear row3 b3 b4 hc3 HM3 HN3 HM0 HN0 cn hxq
              generalize hpos : posX X ⟨id, lo, hi⟩ = k at *
              have HPOS := hide hpos
              clear hpos
              go_wp2_with fail
              have HM5 := hide ((unhide HM4).below (below_box W4 (.cells #[.pointer (some ⟨(W.heap.size + 1), 0, none⟩)] 181)))
              have HN5 := hide ((unhide HN4).of_block ((below_box W4 (.cells #[.pointer (some ⟨(W.heap.size + 1), 0, none⟩)] 181)).block _ (unhide HN4).lt))
              refine (ins_node X ((W.heap.size + 1), ⟨id, lo, hi⟩) q (X.length + 1 + 1) W2.heap.size k W4.heap.size _ ((unhide HR4).alloc _) (by omega) (by omega) (unhide HLE) (by omega) (heap_alloc_new W4 _)).mono ?_
              rintro e W6 ⟨rfl, hcell, k6⟩
              have HM6 := hide ((unhide HM5).keep k6 hBq hmq (unhide HXQ) (fun i hi e => by subst e; exact absurd hq3 (by have := hs2; omega)))
              have HN6 := hide ((unhide HN5).keeps k6 hnq)
              have hR6 : Rows W6 (some ⟨q, 0, none⟩) q 0 (addX X ((W.heap.size + 1)) ⟨id, lo, hi⟩) := add_rows (unhide HP) ⟨id, lo, hi⟩ ((W.heap.size + 1)) q W6 hwW (unhide HM6).nodes ⟨_, _, _, unhide HN6⟩ (unhide HXQ) hnq (by rw [unhide HPOS]; exact hcell)
              have HL6 := hide (tree_link _ (addX X ((W.heap.size + 1)) ⟨id, lo, hi⟩) _ q 0 (X.length + 1 + 1) W6 rfl (by rw [unhide HXL W]; omega) (by omega) hR6)
              rw [unhide HXL W] at HL6
              obtain ⟨u, hu⟩ := ptr_form (linkT (addX X ((W.heap.size + 1)) ⟨id, lo, hi⟩))
              have HU := hide hu
              have hBX : ¬ inX (addX X ((W.heap.size + 1)) ⟨id, lo, hi⟩) B := fun hf => by
                obtain ⟨x, hx, hxB⟩ := List.mem_map.1 hf
                rcases List.mem_cons.1 ((addX_perm X ((W.heap.size + 1)) ⟨id, lo, hi⟩).mem_iff.1 hx) with rfl | hx
                · have := (unhide HP).lt B (unhide HP).fB
                  have hxB' : (W.heap.size + 1) = B := hxB
                  omega
                · exact (unhide HP).out x hx hxB
              clear hcell k6 HM5 HN5 HM4 HN4 hR6 HR4 hu
              go_wp2_with fail
              refine (unhide HL6).mono ?_
              rintro e W7 ⟨he, l7, k7⟩
              rw [unhide HU] at he
              subst he
              have hB6 := lt_of_cell (unhide HM6).c0
              have d1 := (k7.cell (p := ⟨B, 2, none⟩) hB6 hBX).trans (unhide HM6).c1
              have g1 := (k7.frozen (p := ⟨B, 2, none⟩) hB6 hBX).trans ((unhide HM6).f 2)
              have HEND := hide (add_end (unhide HP) ⟨id, lo, hi⟩ ((W.heap.size + 1)) W.heap.size _ _ W6 W7 (unhide H3) (unhide H4) (unhide HR2) hwW (unhide HN6).lt (.inr (unhide BW).size) (fun e => unhide HNm e.symm) (unhide HM6) (unhide HKS W) l7 k7)
              rw [unhide HU] at HEND
              clear HM6 HN6 l7 k7 HL6
              go_wp2
              go_ret
              exact ⟨by rw [(unhide E).1]; rfl, by rw [(unhide E).2]; exact unhide HEND⟩
      · have e0 : Hid (addErr L ⟨id, lo, hi⟩ = 1) := by unfold Hid; rw [unhide HE, if_pos h1', if_neg h2]
        have h2' : rightB lo hi = false := by simpa using h2
        rw [h2'] at HR
        have HT := hide h
        clear HE h2 h2' h
        go_enter Tryz.func141, Tryz.ntmps141
        go_wp2_with (first | (go_at_call 101; refine (unhide HR _).mono ?_; rintro e W ⟨rfl, hW⟩; have BW : Hid (Below w.heap.size w W) := (unhide HB2) _ hW; clear hW))
        go_ret
        exact ⟨by rw [unhide e0]; rfl, by rw [add_none (by rw [unhide e0]; decide)]; exact turned_below (unhide HT) (unhide BW)⟩
end Go.Proofs.YtfoojmflbifkpaaGreatDoor

/- A span goes from the program's tree: the program's Drop: walked. -/
namespace Go.Proofs.YtfoojmflbifkpaaGreatDoor
open Go.RowKit Go.Maps
theorem drop_end {w : World} {B : Nat} {L : List Ent} {m : Nat} {X : List (Nat × Ent)} {F : Nat → Prop} (h : PX w B L (some m) X F) (p : Nat × Ent) (hp : p ∈ X) (n : Nat) (D : DataW Unit) (W6 W7 : World)
    (hM : Mid w B m n X D F W6) (hK : Keys D (dropX X p.2)) (hL : (linkT (dropX X p.2)).Lies W7) (hk : Keeps (inX (dropX X p.2)) W6 W7) :
    Turned w B (dropT L p.2.id) F (W7.setCell ⟨B, 2, none⟩ (linkT (dropX X p.2)).ptr) := by
  have hP := dropX_perm X p h.ordered hp
  have hmem : ∀ x, x ∈ dropX X p.2 → x ∈ X := fun x hx => hP.mem_iff.2 (List.mem_cons_of_mem _ hx)
  have hin : ∀ i, inX (dropX X p.2) i → ∃ x, x ∈ X ∧ x.1 = i := fun i hi => by
    obtain ⟨x, hx, q⟩ := List.mem_map.1 hi
    exact ⟨x, hmem x hx, q⟩
  obtain ⟨a1, a2⟩ := hM.apart
  have nB : ¬ inX (dropX X p.2) B := fun q => by
    obtain ⟨x, hx, k⟩ := hin _ q
    exact h.out x hx k
  have nm : ¬ inX (dropX X p.2) m := fun q => by
    obtain ⟨x, hx, k⟩ := hin _ q
    exact a2 x hx k.symm
  have hBl := lt_of_cell hM.c0
  have d0 := (hk.cell (p := ⟨B, 1, none⟩) hBl nB).trans hM.c0
  have d1 := (hk.cell (p := ⟨B, 2, none⟩) hBl nB).trans hM.c1
  have dk : Keeps F w (W7.setCell ⟨B, 2, none⟩ (linkT (dropX X p.2)).ptr) := by
    have k1 := (hM.keeps.then hk (fun i hi q => by
      obtain ⟨x, hx, k⟩ := hin i q
      rw [← k]; exact .inl (h.fX x hx))).then (keeps_set W7 B 2 (linkT (dropX X p.2)).ptr) (fun i _ q => by cases q; exact .inl h.fB)
    exact k1.mono (fun i hi q => by
      rcases q with q | q
      · exact q
      · omega)
  refine turned_drop h p hp ?_ ?_ ?_ ?_ ?_ dk ?_
  · rw [World.cell?_setCell_other _ _ _ _ (by simp)]
    exact d0
  · exact World.cell?_setCell_same _ _ _ d1
  · intro i
    rw [World.frozen?_setCell, hk.frozen (p := ⟨B, i, none⟩) hBl nB, hM.f i]
  · refine .inr ⟨m, D, rfl, ?_, hK⟩
    have := ownsMap_size ((ownsMap_keeps hM.own hk nm).setCell (a := ⟨B, 2, none⟩) a1 (linkT (dropX X p.2)).ptr)
    rwa [hK.size] at this
  · refine hL.keeps (keeps_set W7 B 2 _) (fun x hx q => ?_)
    rw [items_link] at hx
    exact nB (List.mem_map.2 ⟨x, hx, q⟩)
  · intro i h1 h2
    rw [World.cell?_setCell_other _ _ _ _ (by simp <;> omega)]
    exact (hk.cell (p := ⟨B, i, none⟩) hBl nB).trans (hM.rest i h1 h2)
theorem PX.some_map {w : World} {B : Nat} {L : List Ent} {mv : Option Nat} {X : List (Nat × Ent)} {F : Nat → Prop} (h : PX w B L mv X F) {x : Nat × Ent} (hx : x ∈ X) : ∃ m, mv = some m := by
  rcases h.map with ⟨_, e⟩ | ⟨m, D, e, _⟩
  · subst e; cases hx
  · exact ⟨m, e⟩
set_option maxRecDepth 100000 in
set_option maxHeartbeats 4000000 in
theorem tree_Drop (L : List Ent) (B : Nat) (F : Nat → Prop) (id : Int) (w : World) (h : PT w B L F) (hw : (Lit.int .i64 id).wf = true) :
    Calls Tryz.prog 139 #[.pointer (some ⟨B, 1, none⟩), .int .i64 id] w (TreeSays (dropErr L id) (dropTo L id) B F w) := by
  obtain ⟨mv, X, hP⟩ := h
  have HT : Hid (PT w B L F) := ⟨mv, X, hP⟩
  have c0 := hP.c0
  by_cases h3 : foundT L id = true
  · have E : Hid (dropErr L id = 0 ∧ dropTo L id = dropT L id) := ⟨by unfold dropErr; rw [if_pos h3], by unfold dropTo; rw [if_pos h3]⟩
    obtain ⟨x, hx, hxid, _⟩ := hP.there h3
    obtain ⟨m, rfl⟩ := hP.some_map hx
    have hlk := look_at hP.map x hx (by rw [hxid]; exact hw)
    have HX := hide hx
    have HP := hide hP
    subst hxid
    obtain ⟨D, hKD, hMD⟩ := hP.mid
    have HM0 := hide (hMD w (Below.refl _ _))
    have HKS : Hid (Keys (D.del (.int .i64 x.2.id)) (dropX X x.2)) := hKD.drop ((hMD w (Below.refl _ _)).own.tidy keyedI) hP.ordered hP.ids x hx
    obtain ⟨N, hN⟩ : ∃ N, (dropX X x.2).length = N := ⟨_, rfl⟩
    have hXN : X.length = N + 1 := by rw [(dropX_perm X x hP.ordered hx).length_eq, List.length_cons, hN]
    have hXL : X.length ≤ 4000 := by rw [hP.length]; exact hP.len
    have HFm : Hid (F m ∨ w.heap.size ≤ m) := .inl (hP.fm m rfl)
    obtain ⟨hpl, hpat⟩ := posX_at X x hP.ordered hx
    have HPL := hide hpl
    have HND := hide (hP.nodeAt x hx)
    have hlk' : (Instr.lookup 180 (.map (some m)) (.int .i64 x.2.id) false).run Tryz.prog w = .ok (.pointer (some ⟨x.1, 0, none⟩)) w := hlk
    have HNN := hide hN
    have HXN := hide hXN
    clear hKD hMD hlk hpl hpat hP h3 hx hN hXN
    go_enter Tryz.func139, Tryz.ntmps139
    go_wp2_with (first
      | (at_lookup; refine wpList_look_run _ rfl _ _ rfl _ _ _ rfl rfl hlk' ?_)
      | (at_delete; refine wpList_delete_own _ rfl _ _ 180 3 rfl 181 keyedI Tryz.underlying180 ptrElem m X.length D rfl (unhide HM0).own _ _ rfl (keyOf_int_mk Tryz.underlying3 hw) ?_; intro W2 own2 turn2; have HM2 := hide ((unhide HM0).put turn2 own2 (unhide HFm)); clear own2 turn2)
      | (go_at_call 185; refine (tree_order (linkT X) B m _ N _ _ (unhide HM2).c0 (unhide HM2).own (by rw [(unhide HKS).size]; exact (unhide HNN)) (by have := unhide HXN; omega) (unhide HM2).c1 (unhide HM2).lies (by rw [items_link]; have := unhide HXN; omega)).mono ?_; rw [items_link]; rintro e W3 ⟨q, rfl, row3, b3⟩))
    obtain ⟨cur3, hc3, _, _, _, hq3⟩ := row_block row3
    have hw2 : w.heap.size ≤ W2.heap.size := (unhide HM2).keeps.size
    have HM3 := hide ((unhide HM2).below b3)
    have hxq : ∀ y, y ∈ X → y.1 ≠ q := fun y hy => by have := ((unhide HM2).nodes y hy).lt; omega
    have hmq : m ≠ q := by have := (unhide HM2).own.lt; omega
    have hBq : B ≠ q := by
      have hB2 : B < W2.heap.size := lt_of_cell (unhide HM2).c0
      omega
    have HXQ := hide hxq
    refine (search_node X x q (N + 1) W2.heap.size W3 (unhide HP).ordered (unhide HM3).nodes hxq ((unhide HM3).nodes x (unhide HX)) (hxq x (unhide HX)) row3 (by omega)).mono ?_
    rintro e W4 ⟨bl, rfl, b4⟩
    have HR4 := hide (ownsRow_carry row3 b4)
    have HM4 := hide ((unhide HM3).below b4)
    clear row3 b3 b4 hc3 HM3 HM0 hxq
    obtain ⟨k, hk⟩ : ∃ k, posX X x.2 = k := ⟨_, rfl⟩
    have HPOS := hide hk
    rw [hk] at HPL ⊢
    clear hk
    have hk1 : (k : Int) < (X.length : Int) := by have := unhide HPL; omega
    have hk2 : (X.length : Int) ≤ 4000 := by omega
    have HD4 : Hid (Calls Tryz.prog 189 #[.slice (some ⟨q, 0, none⟩) X.length (N + 1), .int .i64 k, .int .i64 ((k : Int) + 1)] W4 fun e w' =>
        e = .returned (.slice (some ⟨q, 0, none⟩) N (N + 1)) ∧ (∀ t, (h : t < (X.take k ++ X.drop (k + 1)).length) → w'.cell? ⟨q, t, none⟩ = some (ptrB (X.take k ++ X.drop (k + 1))[t])) ∧ Keeps (· = q) W4 w') := by
      have := del_node X q (N + 1) W2.heap.size k (k + 1) W4 (unhide HR4) (by have := unhide HXN; omega) (unhide HPL) rfl
      rw [show X.length - 1 = N by have := unhide HXN; omega] at this
      exact this
    clear HR4
    go_wp2_with fail
    refine (unhide HD4).mono ?_
    rintro e W6 ⟨rfl, hcell, k6⟩
    have HM6 := hide ((unhide HM4).keep k6 hBq hmq (unhide HXQ) (fun i hi e => by subst e; exact absurd hq3 (by omega)))
    have hsub : ∀ y, y ∈ dropX X x.2 → y ∈ X := fun y hy => (dropX_perm X x (unhide HP).ordered (unhide HX)).mem_iff.2 (List.mem_cons_of_mem _ hy)
    have hR6 : Rows W6 (some ⟨q, 0, none⟩) q 0 (dropX X x.2) := by
      refine ⟨fun j hj => ⟨rfl, ?_⟩, fun y hy => (unhide HM6).nodes y (hsub y hy), ?_, fun y hy => unhide HXQ y (hsub y hy)⟩
      · rw [Nat.zero_add]
        unfold dropX at hj ⊢
        simp only [unhide HPOS] at hj ⊢
        exact hcell j hj
      · have := ((dropX_perm X x (unhide HP).ordered (unhide HX)).map (·.1)).nodup_iff.1 (unhide HP).nodup
        rw [List.map_cons, List.nodup_cons] at this
        exact this.2
    have HL6 := hide (tree_link _ (dropX X x.2) _ q 0 (N + 1) W6 rfl (by rw [unhide HNN]; omega) (by have := unhide HXN; omega) hR6)
    rw [unhide HNN] at HL6
    obtain ⟨u, hu⟩ := ptr_form (linkT (dropX X x.2))
    have HU := hide hu
    have hBX : ¬ inX (dropX X x.2) B := fun hf => by
      obtain ⟨y, hy, hyB⟩ := List.mem_map.1 hf
      exact (unhide HP).out y (hsub y hy) hyB
    clear hcell k6 HM4 hR6 HD4 hu hsub
    go_wp2_with fail
    refine (unhide HL6).mono ?_
    rintro e W7 ⟨he, l7, k7⟩
    rw [unhide HU] at he
    subst he
    have hB6 := lt_of_cell (unhide HM6).c0
    have d1 := (k7.cell (p := ⟨B, 2, none⟩) hB6 hBX).trans (unhide HM6).c1
    have g1 := (k7.frozen (p := ⟨B, 2, none⟩) hB6 hBX).trans ((unhide HM6).f 2)
    have HEND := hide (drop_end (unhide HP) x (unhide HX) _ _ W6 W7 (unhide HM6) (unhide HKS) l7 k7)
    rw [unhide HU] at HEND
    clear HM6 l7 k7 HL6
    go_wp2
    go_ret
    exact ⟨by rw [(unhide E).1]; rfl, by rw [(unhide E).2]; exact unhide HEND⟩
  · have h3' : foundT L id = false := by simpa using h3
    have E : Hid (dropErr L id = 7 ∧ dropTo L id = L) := ⟨by unfold dropErr; rw [if_neg h3], by unfold dropTo; rw [if_neg h3]⟩
    have hlk := look_none hP.map id hw (hP.missing h3')
    clear hP h3 h3'
    go_enter Tryz.func139, Tryz.ntmps139
    go_wp2_with (at_lookup; refine wpList_look_run _ rfl _ _ rfl _ _ _ rfl rfl hlk ?_)
    go_ret
    exact ⟨by rw [(unhide E).1]; rfl, by rw [(unhide E).2]; exact turned_below (unhide HT) (Below.refl _ _)⟩
end Go.Proofs.YtfoojmflbifkpaaGreatDoor

/- Who has a time of a span, in the program's tree: the closure that goes through it: walked. -/
namespace Go.Proofs.YtfoojmflbifkpaaGreatDoor
open Go.RowKit Go.Maps
structure GathI (w : World) (base bs bv bo : Nat) (lo hi : Int) (v : Value) (zs : List Int) : Prop where
  s : w.heap[bs]? = some (.cells #[.int .i64 lo, .int .i64 hi] 34 (0, 0))
  fn : w.heap[bv]? = some (.cells #[.func (.func 184) #[] #[.pointer (some ⟨bs, 0, none⟩), .pointer (some ⟨bv, 0, none⟩), .pointer (some ⟨bo, 0, none⟩)]] 278 (0, 0))
  o : w.heap[bo]? = some (.cells #[v] 68 (0, 0))
  row : w.ownsRow base 3 1 v zs.length (zs.map (Value.int .i64))
theorem own_block {w : World} {base : Nat} {v : Value} {n : Nat} {e : TypeId} {xs : List Value} (h : w.ownsRow base e 1 v n xs) (k : Nat) (hk : v.ownBlock = some k) : ∃ cur, w.heap[k]? = some (.cells cur e (0, 0)) := by
  rcases h.2 with ⟨rfl, _⟩ | ⟨g, cap, cur, rfl, hg, hh, _⟩
  · cases hk
  · cases hk
    exact ⟨cur, hh⟩
theorem GathI.apart {w : World} {base bs bv bo : Nat} {lo hi : Int} {v : Value} {zs : List Int} (h : GathI w base bs bv bo lo hi v zs) : bs ≠ bv ∧ bs ≠ bo ∧ bv ≠ bo ∧ v.ownBlock ≠ some bs ∧ v.ownBlock ≠ some bv ∧ v.ownBlock ≠ some bo := by
  refine ⟨fun e => ?_, fun e => ?_, fun e => ?_, fun e => ?_, fun e => ?_, fun e => ?_⟩
  · have := h.s
    rw [e, h.fn] at this
    simp at this
  · have := h.s
    rw [e, h.o] at this
    simp at this
  · have := h.fn
    rw [e, h.o] at this
    simp at this
  · obtain ⟨cur, hc⟩ := own_block h.row bs e
    rw [h.s] at hc
    simp at hc
  · obtain ⟨cur, hc⟩ := own_block h.row bv e
    rw [h.fn] at hc
    simp at hc
  · obtain ⟨cur, hc⟩ := own_block h.row bo e
    rw [h.o] at hc
    simp at hc
theorem GathI.below {w w' : World} {base bs bv bo : Nat} {lo hi : Int} {v : Value} {zs : List Int} (h : GathI w base bs bv bo lo hi v zs) (hb : Below w.heap.size w w') : GathI w' base bs bv bo lo hi v zs :=
  ⟨(hb.block bs (lt_of_block h.s)).trans h.s, (hb.block bv (lt_of_block h.fn)).trans h.fn, (hb.block bo (lt_of_block h.o)).trans h.o, ownsRow_carry h.row hb⟩
theorem GathI.more {w wn : World} {base bs bv bo : Nat} {lo hi : Int} {v v' : Value} {zs ys : List Int} (h : GathI w base bs bv bo lo hi v zs) (hr : wn.ownsRow base 3 1 v' ys.length (ys.map (Value.int .i64))) (hg : w.grownBy wn v.ownBlock) (hb : v'.ownBlock ≠ some bo) :
    GathI (wn.setCell ⟨bo, 0, none⟩ v') base bs bv bo lo hi v' ys := by
  obtain ⟨a1, a2, a3, a4, a5, a6⟩ := h.apart
  refine ⟨?_, ?_, one_setCell ((hg.block bo (lt_of_block h.o) (fun e => a6 e.symm)).trans h.o), ownsRow_setCell_other hr hb _⟩
  · rw [Below.heap_setCell _ _ _ _ (by exact a2)]
    exact (hg.block bs (lt_of_block h.s) (fun e => a4 e.symm)).trans h.s
  · rw [Below.heap_setCell _ _ _ _ (by exact a3)]
    exact (hg.block bv (lt_of_block h.fn) (fun e => a5 e.symm)).trans h.fn
theorem own_apart {wn : World} {base bo : Nat} {v' : Value} {zs : List Int} {u : Value} (hr : wn.ownsRow base 3 1 v' zs.length (zs.map (Value.int .i64))) (h : wn.heap[bo]? = some (.cells #[u] 68 (0, 0))) : v'.ownBlock ≠ some bo := fun e => by
  obtain ⟨cur, hc⟩ := own_block hr bo e
  rw [h] at hc
  simp at hc
theorem GathI.cells {w : World} {base bs bv bo : Nat} {lo hi : Int} {v : Value} {zs : List Int} (h : GathI w base bs bv bo lo hi v zs) : w.cell? ⟨bs, 0, none⟩ = some (.int .i64 lo) ∧ w.cell? ⟨bs, 1, none⟩ = some (.int .i64 hi) := by
  constructor
  · simp [World.cell?, h.s]
  · simp [World.cell?, h.s]
theorem below_drewN (w : World) (n : Nat) : Below w.heap.size w (w.drewN n) := ⟨rfl, rfl, rfl, Nat.le_refl _, fun _ _ => rfl⟩
def OutS (bo b : Nat) (v : Value) (i : Int) (W x : World) : Prop := x.cell? ⟨bo, 0, none⟩ = some v ∧ x.cell? ⟨b, 0, none⟩ = some (.int .i64 i) ∧ W.grownBy x v.ownBlock
theorem OutS.grown {bo b : Nat} {v : Value} {i : Int} {W x y : World} {row : Option Nat} (h : OutS bo b v i W x) (hg : x.grownBy y row) (h1 : row ≠ some bo) (h2 : row ≠ some b) (h3 : ∀ k, row = some k → v.ownBlock = some k) : OutS bo b v i W y := by
  obtain ⟨a1, a2, a3⟩ := h
  refine ⟨(World.cell?_of_block (w := x) (a := ⟨bo, 0, none⟩) (hg.block bo (lt_of_cell a1) (fun e => h1 e.symm))).trans a1, (World.cell?_of_block (w := x) (a := ⟨b, 0, none⟩) (hg.block b (lt_of_cell a2) (fun e => h2 e.symm))).trans a2, ?_⟩
  exact ⟨hg.os.trans a3.os, hg.tape.trans a3.tape, hg.output.trans a3.output, Nat.le_trans a3.size hg.size, fun k hk hr => (hg.block k (Nat.lt_of_lt_of_le hk a3.size) (fun e => hr (h3 k e.symm).symm)).trans (a3.block k hk hr)⟩
theorem OutS.alloc {bo b : Nat} {v : Value} {i : Int} {W x : World} (h : OutS bo b v i W x) (o : Obj) : OutS bo b v i W (x.alloc o) := h.grown (World.grownBy_alloc x o none) (by simp) (by simp) (by simp)
def Met (base bs bv bo : Nat) (lo hi : Int) (zs : List Int) (T : Tr) (w : World) (e : Ending) (w' : World) : Prop :=
  e = .returned (.tuple #[]) ∧ (∃ v, GathI w' base bs bv bo lo hi v (zs ++ metX lo hi T.items)) ∧ Below base w w'
set_option maxRecDepth 100000 in
set_option maxHeartbeats 4000000 in
theorem visit_met (base bs bv bo : Nat) (lo hi : Int) (hlh : lo < hi) (_hs : base ≤ bs) (_hv : base ≤ bv) (ho : base ≤ bo) : ∀ (T : Tr) (w : World) (v : Value) (zs : List Int), T.Lies w → T.Fine → (∀ x, x ∈ T.items → x.1 < base) → base ≤ w.heap.size → GathI w base bs bv bo lo hi v zs → zs.length + T.items.length ≤ 100000 →
    Calls Tryz.prog 184 #[T.ptr, .pointer (some ⟨bs, 0, none⟩), .pointer (some ⟨bv, 0, none⟩), .pointer (some ⟨bo, 0, none⟩)] w (Met base bs bv bo lo hi zs T w) := by
  intro T
  induction T using Tr.ind with
  | nil =>
    intro w v zs _ _ _ _ hG _
    have HG := hide hG
    clear hG
    rw [ptr_nil]
    go_enter Tryz.func184, Tryz.ntmps184
    go_wp2
    go_quiet (fail)
    go_wp2
    (try simp only [Exit.inBlock, Exit.then])
    refine bodyPost_ret (results_none rfl _ _ _) rfl ?_
    exact ⟨rfl, ⟨v, by rw [items_nil, show metX lo hi [] = [] from rfl, List.append_nil]; exact (unhide HG).below (below_drewN w _)⟩, ⟨rfl, rfl, rfl, Nat.le_refl _, fun _ _ => rfl⟩⟩
  | node b e last l r ihl ihr =>
    intro w v zs hT hF hx hw hG hn
    rw [lies_node] at hT
    obtain ⟨hN, hl, hr⟩ := hT
    have HF := hide hF
    have hb : b < base := hx (b, e) (by simp [items_node])
    have c0 := hN.c0
    have c1 := hN.c1
    have c2 := hN.c2
    have c3 := hN.c3
    have c4 := hN.c4
    have c5 := hN.c5
    have hg := hG.cells
    have g0 := hg.1
    have g1 := hg.2
    have HG := hide hG
    by_cases h1 : last ≤ lo
    · have E := hide (met_pruned lo hi b e last l r hF h1)
      clear ihl ihr hN hl hr hF hx hG hg c0 c1 c2 c4 c5
      show Calls _ _ #[.pointer (some ⟨b, 0, none⟩), _, _, _] _ _
      go_enter Tryz.func184, Tryz.ntmps184
      go_wp2
      go_quiet (fail)
      go_wp2
      (try simp only [Exit.inBlock, Exit.then])
      refine bodyPost_ret (results_none rfl _ _ _) rfl ?_
      exact ⟨rfl, ⟨v, by rw [unhide E, List.append_nil]; exact (unhide HG).below (below_drewN w _)⟩, ⟨rfl, rfl, rfl, Nat.le_refl _, fun _ _ => rfl⟩⟩
    · have hF' := hF
      rw [fine_node] at hF'
      rw [items_node, List.length_append, List.length_cons] at hn
      have HL := hide (fun W (hW : Below base w W) (hG' : GathI W base bs bv bo lo hi v zs) => ihl W v zs (hl.keeps (F := fun i => base ≤ i) ⟨hW.os, hW.tape, hW.output, hW.size, fun k _ hk => hW.block k (by omega)⟩ (fun x h => by have := hx x (by simp [items_node, h]); omega)) hF'.2.2.2.1 (fun x h => hx x (by simp [items_node, h])) (Nat.le_trans hw hW.size) hG' (by omega))
      have HR := hide (fun W (hW : Below base w W) v' zs' (hG' : GathI W base bs bv bo lo hi v' zs') (hn' : zs'.length + r.items.length ≤ 100000) => ihr W v' zs' (hr.keeps (F := fun i => base ≤ i) ⟨hW.os, hW.tape, hW.output, hW.size, fun k _ hk => hW.block k (by omega)⟩ (fun x h => by have := hx x (by simp [items_node, h]); omega)) hF'.2.2.2.2 (fun x h => hx x (by simp [items_node, h])) (Nat.le_trans hw hW.size) hG' hn')
      have hml : (metX lo hi l.items).length ≤ l.items.length := by unfold metX; rw [List.length_map]; exact List.length_filter_le _ _
      clear ihl ihr hN hl hr hx hG hg
      show Calls _ _ #[.pointer (some ⟨b, 0, none⟩), _, _, _] _ _
      go_enter Tryz.func184, Tryz.ntmps184
      go_wp2
      go_quiet (fail)
      generalize hW0 : w.drewN nq = W0
      have HB0 : Hid (Below base w W0) := by unfold Hid; rw [← hW0]; exact (below_drewN w nq).mono hw
      have HG0 : Hid (GathI W0 base bs bv bo lo hi v zs) := by unfold Hid; rw [← hW0]; exact (unhide HG).below (below_drewN w nq)
      clear hW0 HG
      go_wp2
      have cc := ((unhide HB0).cell (p := ⟨b, 4, none⟩) hb).trans c4
      have HC := hide (unhide HL W0.drew ((unhide HB0).trans ((below_drew W0).mono (Nat.le_trans hw (unhide HB0).size))) ((unhide HG0).below (below_drew W0)))
      have cv := cell_of_one (unhide HG0).fn
      go_region_held3 (fun x => x.cell? ⟨bv, 0, none⟩ = some (.func (.func 184) #[] #[.pointer (some ⟨bs, 0, none⟩), .pointer (some ⟨bv, 0, none⟩), .pointer (some ⟨bo, 0, none⟩)]) ∧ x.cell? ⟨b, 4, none⟩ = some l.ptr)
        (first | exact ⟨cv, cc⟩ | exact ⟨cell_of_one (GathI.fn (by assumption)), (Below.cell (w := W0.drew) (by assumption) hb).trans cc⟩)
        (first | (go_at_call 184; refine (unhide HC).mono ?_; rintro e W1 ⟨rfl, ⟨vW1, hGW1⟩, hBW1⟩))
      rename_i hh
      clear hh cv cc
      have HB1 := hide (((unhide HB0).trans ((below_drew W0).mono (Nat.le_trans hw (unhide HB0).size))).trans hBW1)
      have HG1 := hide hGW1
      have g1' := hGW1.cells.2
      have g0' := hGW1.cells.1
      have d1 := ((unhide HB1).cell (p := ⟨b, 1, none⟩) hb).trans c1
      have d2 := ((unhide HB1).cell (p := ⟨b, 2, none⟩) hb).trans c2
      clear HL HC HB0 HG0 hGW1 hBW1 g0 g1 c3 c4
      by_cases h2 : hi ≤ e.lo
      · have E := hide (met_left lo hi b e last l r hF h2)
        clear HR hF
        go_wp2
        go_quiet (fail)
        go_wp2
        (try simp only [Exit.inBlock, Exit.then])
        refine bodyPost_ret (results_none rfl _ _ _) rfl ?_
        exact ⟨rfl, ⟨vW1, by rw [unhide E]; exact (unhide HG1).below (below_drewN _ _)⟩, (unhide HB1).trans ((below_drewN _ _).mono (Nat.le_trans hw (unhide HB1).size))⟩
      · go_wp2
        go_quiet (fail)
        generalize hW2 : W1.drewN nq = W2
        have HB2 : Hid (Below base w W2) := by unfold Hid; rw [← hW2]; exact (unhide HB1).trans ((below_drewN _ _).mono (Nat.le_trans hw (unhide HB1).size))
        have HG2 : Hid (GathI W2 base bs bv bo lo hi vW1 (zs ++ metX lo hi l.items)) := by unfold Hid; rw [← hW2]; exact (unhide HG1).below (below_drewN _ _)
        have e0 := (unhide HG2).cells.1
        have e2 := ((unhide HB2).cell (p := ⟨b, 2, none⟩) hb).trans c2
        clear hW2 HG1 HB1 d1 d2 g0' g1'
        by_cases h3 : lo < e.hi
        · have E := hide (met_in lo hi b e last l r hF hlh (by omega) h3)
          clear hF
          go_wp2
          go_quiet (fail)
          generalize hW3 : W2.drewN nq = W3
          have HB3 : Hid (Below base w W3) := by unfold Hid; rw [← hW3]; exact (unhide HB2).trans ((below_drewN _ _).mono (Nat.le_trans hw (unhide HB2).size))
          have HG3 : Hid (GathI W3 base bs bv bo lo hi vW1 (zs ++ metX lo hi l.items)) := by unfold Hid; rw [← hW3]; exact (unhide HG2).below (below_drewN _ _)
          have e1 := ((unhide HB3).cell (p := ⟨b, 0, none⟩) hb).trans c0
          have eo := cell_of_one (unhide HG3).o
          have fo := free_of_one (unhide HG3).o
          clear hW3 HG2 HB2 e0 e2
          obtain ⟨zz, hzz⟩ : ∃ zz, zz = zs ++ metX lo hi l.items := ⟨_, rfl⟩
          have hzl : zz.length + 1 + r.items.length ≤ 100000 := by rw [hzz, List.length_append]; omega
          have HZ := hide hzz
          have HZ2 : Hid (zs ++ (metX lo hi l.items ++ [e.id] ++ metX lo hi r.items) = zz ++ [e.id] ++ metX lo hi r.items) := by unfold Hid; rw [hzz]; simp
          rw [← hzz] at HG3
          clear hzz
          have hbW : base ≤ W3.heap.size := Nat.le_trans hw (unhide HB3).size
          have S0 : Hid (OutS bo b vW1 e.id W3 W3.drew) := ⟨eo, e1, ⟨rfl, rfl, rfl, Nat.le_refl _, fun _ _ _ => rfl⟩⟩
          obtain ⟨_, _, _, _, _, a6⟩ := (unhide HG3).apart
          have a7 : vW1.ownBlock ≠ some b := fun q => by have := ((unhide HG3).row.lt b q).1; omega
          go_wp2
          refine wp_region_tail (fun x => x.cell? ⟨bo, 0, none⟩ = some vW1 ∧ x.cell? ⟨b, 0, none⟩ = some (.int .i64 e.id) ∧ W3.grownBy x vW1.ownBlock) 7 (by kernel_rfl) (by kernel_rfl) (unhide S0) (fun hHeld => ?_)
          refine wpAnyH_take (i := 0) (oi := ?to0_1) (v := ?tv0_1) ?th0_1 (by kernel_rfl) (by kernel_rfl) (by kernel_rfl) ?tq0_1 (Or.inl ⟨?tw0_1, ?ty0_1⟩) (by assumption) ?tr0_1
          case th0_1 => (simp only [List.getElem?_toArray, List.getElem?_cons_zero]; rfl)
          case tq0_1 => exact fun _ _ _ h => h
          case tw0_1 => rfl
          case ty0_1 => (intro w' hSw; (try dsimp only at hSw); go_simp <;> with_reducible rfl)
          try simp only [Act.put, List.setIfInBounds_toArray, List.set_cons_zero, List.set_cons_succ]
          refine wpAnyH_take (i := 1) (oi := ?to1_1) (v := ?tv1_1) ?th1_1 (by kernel_rfl) (by kernel_rfl) (by kernel_rfl) ?tq1_1 (Or.inl ⟨?tw1_1, ?ty1_1⟩) (by assumption) ?tr1_1
          case th1_1 => (simp only [List.getElem?_toArray, List.getElem?_cons_zero, List.getElem?_cons_succ]; rfl)
          case tq1_1 => exact fun _ _ _ h => h
          case tw1_1 => rfl
          case ty1_1 => (intro w' hSw; (try dsimp only at hSw); go_simp <;> with_reducible rfl)
          try simp only [Act.put, List.setIfInBounds_toArray, List.set_cons_zero, List.set_cons_succ]
          refine wpAnyH_take (i := 2) (oi := ?to2_1) (v := ?tv2_1) ?th2_1 (by kernel_rfl) (by kernel_rfl) (by kernel_rfl) ?tq2_1 (Or.inl ⟨?tw2_1, ?ty2_1⟩) (by assumption) ?tr2_1
          case th2_1 => (simp only [List.getElem?_toArray, List.getElem?_cons_zero, List.getElem?_cons_succ]; rfl)
          case tq2_1 => exact fun _ _ _ h => h
          case tw2_1 => rfl
          case ty2_1 => (intro w' hSw; (try dsimp only at hSw); go_simp <;> with_reducible rfl)
          try simp only [Act.put, List.setIfInBounds_toArray, List.set_cons_zero, List.set_cons_succ]
          refine wpAnyH_take (i := 3) (oi := ?to3_1) (v := ?tv3_1) ?th3_1 (by kernel_rfl) (by kernel_rfl) (by kernel_rfl) ?tq3_1 (Or.inl ⟨?tw3_1, ?ty3_1⟩) (by assumption) ?tr3_1
          case th3_1 => (simp only [List.getElem?_toArray, List.getElem?_cons_zero, List.getElem?_cons_succ]; rfl)
          case tq3_1 => exact fun _ _ _ h => h
          case tw3_1 => rfl
          case ty3_1 => (intro w' hSw; (try dsimp only at hSw); go_simp <;> with_reducible rfl)
          try simp only [Act.put, List.setIfInBounds_toArray, List.set_cons_zero, List.set_cons_succ]
          refine wpAnyH_take (i := 4) (oi := ?to4_1) (v := ?tv4_1) ?th4_1 (by kernel_rfl) (by kernel_rfl) (by kernel_rfl) ?tq4_1 (Or.inl ⟨?tw4_1, ?ty4_1⟩) (by assumption) ?tr4_1
          case th4_1 => (simp only [List.getElem?_toArray, List.getElem?_cons_zero, List.getElem?_cons_succ]; rfl)
          case tq4_1 => exact fun _ _ _ h => h
          case tw4_1 => rfl
          case ty4_1 => (intro w' hSw; (try dsimp only at hSw); go_simp <;> with_reducible rfl)
          try simp only [Act.put, List.setIfInBounds_toArray, List.set_cons_zero, List.set_cons_succ]
          refine wpAnyH_ready (rs := [5]) (by kernel_rfl) (by simp) ?_
          refine AllReadyH.cons (o := ?bo1_1) ?bh1_1 (fun K hK => ?bs1_1) ?bm1_1
          case bh1_1 => (simp only [List.getElem?_toArray, List.getElem?_cons_zero, List.getElem?_cons_succ]; rfl)
          case bs1_1 =>
            go_simp
            refine hK.out _ _ (OutS.alloc (unhide S0) _) (fun hHeld2 => ?_)
            clear hK K
            try simp only [Act.put, List.setIfInBounds_toArray, List.set_cons_zero, List.set_cons_succ]
            refine wpAnyH_ready (rs := [6]) (by kernel_rfl) (by simp) ?_
            refine AllReadyH.cons (o := ?bo2_1) ?bh2_1 (fun K hK => ?bs2_1) ?bm2_1
            case bh2_1 => (simp only [List.getElem?_toArray, List.getElem?_cons_zero, List.getElem?_cons_succ]; rfl)
            case bs2_1 =>
              refine step_appI _ (by rfl) (.tmp 39) (.tmp 44) (by rfl) base _ _ zz [e.id] (by rfl) ((ownsRow_carry (unhide HG3).row (below_drew W3)).alloc _) (by rfl) (.inr ⟨W3.heap.size, 0, 1, rfl, fun t ht => ?st⟩) (by simp; omega) (by simp; omega) ?_
              case st =>
                obtain rfl : t = 0 := by simp at ht; omega
                simp
              intro v' n1 k1 k2
              refine hK.out _ _ (OutS.grown (OutS.alloc (unhide S0) _) k2 a6 a7 (fun k q => q)) (fun hHeld3 => ?_)
              clear hK K
              try simp only [Act.put, List.setIfInBounds_toArray, List.set_cons_zero, List.set_cons_succ]
              refine wpAnyH_done (by kernel_rfl) ?_ _
              show wpList _ _ _ _ _ _
              have hgr := hHeld3.2.2
              have ob := (hgr.block bo (lt_of_cell eo) (fun q => a6 q.symm)).trans (unhide HG3).o
              have HG4 := hide ((unhide HG3).more k1 hgr (own_apart k1 ob))
              have oc := cell_of_one ob
              have of := free_of_one ob
              have HB4 : Hid (Below base w (n1.setCell ⟨bo, 0, none⟩ v')) := ((unhide HB3).trans (Below.grown (Below.refl base W3) hgr hbW (fun k q => ((unhide HG3).row.lt k q).1))).setCell ho _
              obtain ⟨ad, cp, rfl⟩ := row_slice k1
              clear k1 k2 hgr ob hHeld hHeld2 hHeld3 S0 HB3 HG3 eo fo e1 a6 a7
              generalize hX : n1.setCell ⟨bo, 0, none⟩ (.slice ad (zz ++ [e.id]).length cp) = W5 at HG4 HB4
              have HX := hide hX
              clear hX
              generalize (zz ++ [e.id]).length = ln at HX ⊢
              go_wp2
              rw [unhide HX]
              have cc := ((unhide HB4).cell (p := ⟨b, 5, none⟩) hb).trans c5
              have HC := hide (unhide HR W5.drew ((unhide HB4).trans ((below_drew W5).mono (Nat.le_trans hw (unhide HB4).size))) _ _ ((unhide HG4).below (below_drew W5)) (by simp; omega))
              have cv := cell_of_one (unhide HG4).fn
              go_region_held3 (fun x => x.cell? ⟨bv, 0, none⟩ = some (.func (.func 184) #[] #[.pointer (some ⟨bs, 0, none⟩), .pointer (some ⟨bv, 0, none⟩), .pointer (some ⟨bo, 0, none⟩)]) ∧ x.cell? ⟨b, 5, none⟩ = some r.ptr)
                (first | exact ⟨cv, cc⟩ | exact ⟨cell_of_one (GathI.fn (by assumption)), (Below.cell (w := W5.drew) (by assumption) hb).trans cc⟩)
                (first | (go_at_call 184; refine (unhide HC).mono ?_; rintro e Y ⟨rfl, ⟨vY, hGY⟩, hBY⟩))
              rename_i hh
              clear hh cv cc
              go_wp2
              (try simp only [Exit.inBlock, Exit.then])
              refine bodyPost_end (results_none rfl _ _ _) rfl ?_
              exact ⟨rfl, ⟨vY, by rw [unhide E, unhide HZ2]; simpa using hGY⟩, ((unhide HB4).trans ((below_drew W5).mono (Nat.le_trans hw (unhide HB4).size))).trans hBY⟩
            exact AllReadyH.nil
          exact AllReadyH.nil
        · have E := hide (met_out lo hi b e last l r (by omega))
          clear hF
          go_wp2
          go_quiet (fail)
          generalize hW3 : W2.drewN nq = W3
          have HB3 : Hid (Below base w W3) := by unfold Hid; rw [← hW3]; exact (unhide HB2).trans ((below_drewN _ _).mono (Nat.le_trans hw (unhide HB2).size))
          have HG3 : Hid (GathI W3 base bs bv bo lo hi vW1 (zs ++ metX lo hi l.items)) := by unfold Hid; rw [← hW3]; exact (unhide HG2).below (below_drewN _ _)
          clear hW3 HG2 HB2 e0 e2
          go_wp2
          have cc := ((unhide HB3).cell (p := ⟨b, 5, none⟩) hb).trans c5
          have HC := hide (unhide HR W3.drew ((unhide HB3).trans ((below_drew W3).mono (Nat.le_trans hw (unhide HB3).size))) _ _ ((unhide HG3).below (below_drew W3)) (by simp; omega))
          have cv := cell_of_one (unhide HG3).fn
          go_region_held3 (fun x => x.cell? ⟨bv, 0, none⟩ = some (.func (.func 184) #[] #[.pointer (some ⟨bs, 0, none⟩), .pointer (some ⟨bv, 0, none⟩), .pointer (some ⟨bo, 0, none⟩)]) ∧ x.cell? ⟨b, 5, none⟩ = some r.ptr)
            (first | exact ⟨cv, cc⟩ | exact ⟨cell_of_one (GathI.fn (by assumption)), (Below.cell (w := W3.drew) (by assumption) hb).trans cc⟩)
            (first | (go_at_call 184; refine (unhide HC).mono ?_; rintro e Y ⟨rfl, ⟨vY, hGY⟩, hBY⟩))
          rename_i hh
          clear hh cv cc
          go_wp2
          (try simp only [Exit.inBlock, Exit.then])
          refine bodyPost_end (results_none rfl _ _ _) rfl ?_
          exact ⟨rfl, ⟨vY, by rw [unhide E]; simpa using hGY⟩, ((unhide HB3).trans ((below_drew W3).mono (Nat.le_trans hw (unhide HB3).size))).trans hBY⟩
end Go.Proofs.YtfoojmflbifkpaaGreatDoor

/- Who has a time of a span, and who has a time, in the program's tree: walked. -/
namespace Go.Proofs.YtfoojmflbifkpaaGreatDoor
open Go.RowKit Go.Maps
def sortedI (zs : List Int) : List Int := zs.mergeSort fun x y => decide (x ≤ y)
theorem sortedI_length (zs : List Int) : (sortedI zs).length = zs.length := List.length_mergeSort zs
theorem sort_ints (zs : List Int) (v : Value) (w : World) (base : Nat) (hlen : zs.length < 1099511627776) (hown : w.ownsRow base 3 1 v zs.length (zs.map (Value.int .i64))) :
    Calls Tryz.prog 75 #[v] w fun e w' => e = .returned (.tuple #[]) ∧ w'.ownsRow base 3 1 v (sortedI zs).length ((sortedI zs).map (Value.int .i64)) ∧ w.grownBy w' v.ownBlock := by
  rcases hown.2 with ⟨rfl, h0⟩ | ⟨g, cap, cur, rfl, hbg, hg, hnc, hcm, hcs, htake⟩
  · have hz : zs = [] := List.eq_nil_of_length_eq_zero h0
    subst hz
    have hcon := Any.slices_Sort_int_none Tryz.lays189 none 0 w
    change Calls Tryz.prog 75 _ _ _ at hcon
    refine hcon.mono ?_
    rintro e w' ⟨rfl, rfl⟩
    exact ⟨rfl, by simpa [sortedI] using hown, ⟨rfl, rfl, rfl, Nat.le_refl _, fun _ _ _ => rfl⟩⟩
  · have hH : Go.Sort.Holds (Value.int .i64) w g 0 zs.toArray := holds_of_blockI hg (by simpa using htake)
    have hcon := Any.slices_Sort_int Tryz.lays189 g 0 cap zs w hH (Array.getElem?_eq_some_iff.1 hg).1 (by omega)
    change Calls Tryz.prog 75 _ _ _ at hcon
    refine hcon.mono ?_
    rintro e w' ⟨rfl, n, os, rfl⟩
    refine ⟨rfl, ?_, grownBy_sortedI _⟩
    have := ownsRow_sortedI (n := n) (os := os) (ts := sortedI zs) (sortedI_length zs) hbg hg hnc hcm hcs
    rw [sortedI_length]
    exact this
theorem met_sorted {L : List Ent} {X : List (Nat × Ent)} (h : Both L X) (hr : Rising L) (lo hi : Int) (hR : rightB lo hi = true) : sortedI (metX lo hi X) = meetsT L lo hi := by
  unfold meetsT
  rw [if_pos hR]
  refine sorted_one _ _ ((List.mergeSort_perm _ _).trans (both_met h lo hi).symm) ?_ ?_
  · have := List.pairwise_mergeSort (le := fun x y : Int => decide (x ≤ y)) (fun a b c h1 h2 => by simp at *; omega) (fun a b => by simp; omega) (metX lo hi X)
    exact this.imp (fun h => by simpa using h)
  · exact (met_rises L hr (meetB lo hi)).imp (fun h => by omega)
set_option maxRecDepth 100000 in
set_option maxHeartbeats 4000000 in
theorem tree_Meets (L : List Ent) (B : Nat) (F : Nat → Prop) (lo hi : Int) (w : World) (h : PT w B L F) :
    Calls Tryz.prog 138 #[.pointer (some ⟨B, 1, none⟩), .agg #[.int .i64 lo, .int .i64 hi]] w (GivesI (meetsT L lo hi) w) := by
  obtain ⟨mv, X, hP⟩ := h
  have HR := hide (fun W => span_Right lo hi W)
  have hB0 := below_box w (.cells #[.int .i64 lo, .int .i64 hi] 34)
  by_cases h2 : rightB lo hi = true
  · rw [h2] at HR
    have HE := hide (met_sorted hP.both hP.rising lo hi h2)
    have hlh := right_lt h2
    have hB := hP.lt B hP.fB
    have HP := hide hP
    have hl : X.length ≤ 4000 := by rw [hP.length]; exact hP.len
    have HBX : Hid (∀ W, W = (w.alloc (.cells #[.int .i64 lo, .int .i64 hi] 34)).alloc (.cells #[.int .i64 lo, .int .i64 hi] 34) → Below w.heap.size w W ∧ W.heap[w.heap.size]? = some (.cells #[.int .i64 lo, .int .i64 hi] 34 (0, 0)) ∧ w.heap.size < W.heap.size) := fun W hW => by
      rw [hW]
      exact ⟨hB0.trans ((below_box _ _).mono (by simp)), ((below_box _ _).block _ (by simp)).trans (heap_alloc_new _ _), by simp; omega⟩
    clear hP h2
    go_enter Tryz.func138, Tryz.ntmps138
    go_wp2_with (go_at_call 101; refine (unhide HR _).mono ?_; rintro e W ⟨rfl, hW⟩; have BW := hide (unhide HBX _ hW); clear hW)
    generalize hX : (W.alloc (.cells #[.slice none 0 0] 68)).alloc (.cells #[(.func (.func 184) #[] #[.pointer (some ⟨w.heap.size, 0, none⟩), .pointer (some ⟨W.heap.size + 1, 0, none⟩), .pointer (some ⟨W.heap.size, 0, none⟩)])] 278) = Y
    have hsW := (unhide BW).1.size
    have HY : Hid (Below w.heap.size w Y) := by unfold Hid; rw [← hX]; exact ((unhide BW).1.alloc hsW _).alloc (by simp; omega) _
    have HG : Hid (GathI Y w.heap.size w.heap.size (W.heap.size + 1) W.heap.size lo hi (.slice none 0 0) []) := by
      unfold Hid
      rw [← hX]
      refine ⟨?_, ?_, ?_, by simpa using World.ownsRow_nil _ _ _ _⟩
      · rw [(below_box _ _).block _ (by have := (unhide BW).2.2; simp; omega), (below_box _ _).block _ (unhide BW).2.2]
        exact (unhide BW).2.1
      · have := heap_alloc_new (W.alloc (.cells #[.slice none 0 0] 68)) (.cells #[(.func (.func 184) #[] #[.pointer (some ⟨w.heap.size, 0, none⟩), .pointer (some ⟨W.heap.size + 1, 0, none⟩), .pointer (some ⟨W.heap.size, 0, none⟩)])] 278)
        simpa using this
      · rw [(below_box _ _).block _ (by simp)]
        exact heap_alloc_new W _
    clear hX
    have hYs := (unhide HY).size
    have HYD := hide ((unhide HY).trans ((below_drew Y).mono hYs))
    have cv := cell_of_one (unhide HG).fn
    have d1 := ((unhide HY).cell (p := ⟨B, 2, none⟩) hB).trans (unhide HP).c1
    have HC := hide (visit_met w.heap.size w.heap.size (W.heap.size + 1) W.heap.size lo hi hlh (Nat.le_refl _) (by omega) hsW (linkT X) Y.drew (.slice none 0 0) []
      ((unhide HP).lies.keeps (Keeps.of_below (fun _ => False) (unhide HYD) (Nat.le_refl _)) (fun _ _ f => f)) (unhide HP).fine (fun x hx => ((unhide HP).lies.at x hx).lt) hYs ((unhide HG).below (below_drew Y)) (by rw [items_link]; simp; omega))
    go_region_held3 (fun x => x.cell? ⟨W.heap.size + 1, 0, none⟩ = some (.func (.func 184) #[] #[.pointer (some ⟨w.heap.size, 0, none⟩), .pointer (some ⟨W.heap.size + 1, 0, none⟩), .pointer (some ⟨W.heap.size, 0, none⟩)]) ∧ x.cell? ⟨B, 2, none⟩ = some (linkT X).ptr)
      (first | exact ⟨cv, d1⟩ | exact ⟨cell_of_one (GathI.fn (by assumption)), (Below.cell (w := Y.drew) (by assumption) hB).trans d1⟩)
      (first | (go_at_call 184; refine (unhide HC).mono ?_; rintro e Z ⟨rfl, ⟨vZ, hGZ⟩, hBZ⟩))
    rename_i hh
    rw [List.nil_append, items_link] at hGZ
    obtain ⟨ad, cp, rfl⟩ := row_slice hGZ.row
    have HGZ := hide hGZ
    have HBZ := hide ((unhide HYD).trans hBZ)
    have eo := cell_of_one hGZ.o
    have hml : (metX lo hi X).length ≤ X.length := by unfold metX; rw [List.length_map]; exact List.length_filter_le _ _
    have a6 := hGZ.apart.2.2.2.2.2
    have HSO := hide (sort_ints (metX lo hi X) _ Z w.heap.size (by omega) hGZ.row)
    rw [unhide HE] at HSO
    clear hh hGZ hBZ HC cv d1 HG
    go_wp2_with (go_at_call 75; refine (unhide HSO).mono ?_; rintro e V ⟨rfl, rowV, gV⟩; have eo2 := cell_of_one ((gV.block W.heap.size (lt_of_block (unhide HGZ).o) (fun q => a6 q.symm)).trans (unhide HGZ).o))
    go_ret
    exact ⟨_, rfl, rowV, (unhide HBZ).grown gV (unhide HBZ).size (fun k q => ((unhide HGZ).row.lt k q).1)⟩
  · have h2' : rightB lo hi = false := by simpa using h2
    have E : Hid (meetsT L lo hi = []) := by unfold Hid meetsT; rw [if_neg h2]
    rw [h2'] at HR
    clear hP h2 h2'
    go_enter Tryz.func138, Tryz.ntmps138
    go_wp2_with (go_at_call 101; refine (unhide HR _).mono ?_; rintro e W ⟨rfl, rfl⟩)
    go_ret
    exact ⟨_, rfl, by rw [unhide E]; exact World.ownsRow_nil _ _ _ _, hB0.trans ((below_box _ _).mono (by simp))⟩
end Go.Proofs.YtfoojmflbifkpaaGreatDoor
