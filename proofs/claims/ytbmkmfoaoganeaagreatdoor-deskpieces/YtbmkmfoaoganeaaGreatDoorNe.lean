/- Texts of one proof, one behind the other. -/
import Derived.Test.YtbmkmfoaoganeaaGreatDoorNd
import Derived.Test.YtbmkmfoaoganeaaGreatDoorNa
import Derived.Test.YtbmkmfoaoganeaaGreatDoorNc
import Derived.Test.YtbmkmfoaoganeaaGreatDoorShelfS
import Derived.Sort.OwnSortedInts
import Derived.Laws.EntriesVeiled
set_option maxRecDepth 100000
set_option maxHeartbeats 16000000
namespace Go.Proofs.YtbmkmfoaoganeaaGreatDoor
open Go.RowKit Go.Maps
def TreeSays (n : Int) (L' : List Ent) (B : Nat) (F : Nat -> Prop) (w : World) (e : Ending) (w' : World) : Prop := e = .returned (errV n) /\ Turned w B L' F w'
theorem turned_below {w w' : World} {B : Nat} {L : List Ent} {F : Nat -> Prop} (h : PT w B L F) (hb : Below w.heap.size w w') : Turned w B L F w' := ⟨F, h.below hb, fun _ h => .inl h, Keeps.of_below F hb zr, fun i _ _ => hb.cell (p := ⟨B, i, none⟩) (h.lt B h.fB)⟩
theorem add_none {L : List Ent} {x : Ent} (h : addErr L x ≠ 0) : addTo L x = L := by
 unfold addTo
 rw [if_neg h]
theorem wf_small {id : Int} (h0 : 0 <= id) (h1 : id <= 1048576) : (Lit.int .i64 id).wf = true := WalkArith.wf_i64 (by omega)
theorem add_rows {w : World} {B : Nat} {L : List Ent} {mv : Option Nat} {X : List (Nat × Ent)} {F : Nat -> Prop} (h : PX w B L mv X F) (e : Ent) (nb q : Nat) (W : World) (hnb : w.heap.size <= nb) (hX : ∀ x, x ∈ X -> NodeAt W x.1 x.2) (hN : NodeAt W nb e) (hxq : ∀ x, x ∈ X -> x.1 ≠ q) (hnq : nb ≠ q)
  (hc : ∀ j, (h : j < (X.take (posX X e) ++ (nb, e) :: X.drop (posX X e)).length) -> W.cell? ⟨q, j, none⟩ = some (ptrB (X.take (posX X e) ++ (nb, e) :: X.drop (posX X e))[j])) : Rows W (some ⟨q, 0, none⟩) q 0 (addX X nb e) := by
 have hmem : ∀ x, x ∈ addX X nb e ↔ x = (nb, e) \/ x ∈ X := fun x => by rw [(addX_perm X nb e).mem_iff, List.mem_cons]
 refine ⟨fun j hj => ⟨rfl, ?_⟩, fun x hx => ?_, ?_, fun x hx => ?_⟩
 ·rw [Nat.zero_add]
  exact hc j hj
 ·rcases (hmem x).1 hx with rfl | hx
  ·exact hN
  ·exact hX x hx
 ·refine ((addX_perm X nb e).map (·.1)).nodup_iff.2 ?_
  rw [List.map_cons, List.nodup_cons]
  refine ⟨fun q => ?_, h.nodup⟩
  obtain ⟨x, hx, k⟩ := List.mem_map.1 q
  have := h.lt x.1 (h.fX x hx)
  have k' : x.1 = nb := k
  omega
 ·rcases (hmem x).1 hx with rfl | hx
  ·exact hnq
  ·exact hxq x hx
theorem PX.empty {w : World} {B : Nat} {L : List Ent} {X : List (Nat × Ent)} {F : Nat -> Prop} (h : PX w B L none X F) : X = [] := by
 rcases h.map with ⟨_, e⟩ | ⟨m, D, e, _⟩
 ·exact e
 ·cases e
theorem mid_none {w W : World} {B : Nat} {L : List Ent} {X : List (Nat × Ent)} {F : Nat -> Prop} (h : PX w B L none X F) (hb : Below w.heap.size w W) : Mid w B W.heap.size X.length X (.map []) F ((W.alloc (.map #[] 0)).setCell ⟨B, 1, none⟩ (.map (some W.heap.size))) := by
 have hB := h.lt B h.fB
 have hBW : B < W.heap.size := Nat.lt_of_lt_of_le hB hb.size
 have hX := h.empty
 have a0 : (W.alloc (.map #[] 0)).cell? ⟨B, 1, none⟩ = some (.map none) := by
  rw [World.cell?_alloc_lt _ _ _ hBW]
  exact (hb.cell (p := ⟨B, 1, none⟩) hB).trans h.c0
 have a1 : (W.alloc (.map #[] 0)).cell? ⟨B, 2, none⟩ = some (linkT X).ptr := by
  rw [World.cell?_alloc_lt _ _ _ hBW]
  exact (hb.cell (p := ⟨B, 2, none⟩) hB).trans h.c1
 refine ⟨zs _ _ _ a0, ?_, fun i => ?_, ?_, ?_, ?_, fun i h1 h2 => ?_⟩
 ·rw [zo _ _ _ _ (by simp)]
  exact a1
 ·rw [World.frozen?_setCell, (below_box W _).frozen (p := ⟨B, i, none⟩) hBW, hb.frozen (p := ⟨B, i, none⟩) hB, h.f i]
 ·have := (World.ownsMap_made W Tryz.prog 3 ptrElem).setCell (a := ⟨B, 1, none⟩) (by show W.heap.size ≠ B; omega) (.map (some W.heap.size))
  rw [hX]
  exact this
 ·rw [hX, linkT_nil]
  trivial
 ·exact ((Keeps.of_below _ hb zr).then (Keeps.of_below (fun _ => False) (below_box W _) zr) (fun _ _ f => f.elim)).then (keeps_set _ B 1 _) (fun i _ e => by cases e; exact .inl h.fB)
 ·rw [zo _ _ _ _ (by simp <;> omega), World.cell?_alloc_lt _ _ _ hBW]
  exact hb.cell (p := ⟨B, i, none⟩) hB
theorem map_is (m : Nat) (w : World) : (binOp .eql 200 (.map (some m)) (.map none)).run Tryz.prog w = .ok (.bool false) w := by kernel_rfl
theorem map_not (w : World) : (binOp .eql 200 (.map none) (.map none)).run Tryz.prog w = .ok (.bool true) w := by kernel_rfl
def nodeO (id lo hi : Int) : Obj := .cells #[.int .i64 id, .int .i64 lo, .int .i64 hi, .int .i64 0, .pointer none, .pointer none] 335
theorem node_new (w : World) (id lo hi : Int) : NodeW (w.alloc (nodeO id lo hi)) w.heap.size ⟨id, lo, hi⟩ 0 (.pointer none) (.pointer none) := by
 unfold nodeO
 exact ⟨by simp, by simp, by simp, by simp, by simp, by simp, fun i => by simp⟩
theorem node_none (W : World) (B : Nat) (id lo hi : Int) : NodeW (((W.alloc (.map #[] 0)).setCell ⟨B, 1, none⟩ (.map (some W.heap.size))).alloc (nodeO id lo hi)) (W.heap.size + 1) ⟨id, lo, hi⟩ 0 (.pointer none) (.pointer none) := by
 have := node_new ((W.alloc (.map #[] 0)).setCell ⟨B, 1, none⟩ (.map (some W.heap.size))) id lo hi
 simpa using this
theorem PX.mid {w : World} {B : Nat} {L : List Ent} {m : Nat} {X : List (Nat × Ent)} {F : Nat -> Prop} (h : PX w B L (some m) X F) : ∃ D, Keys D X /\ ∀ W, Below w.heap.size w W -> Mid w B m X.length X D F W := by
 rcases h.map with ⟨e, _⟩ | ⟨m', D, e, h1, h2⟩
 ·cases e
 ·cases e
  refine ⟨D, h2, fun W hW => ?_⟩
  have hk : Keeps (fun _ => False) w W := Keeps.of_below _ hW zr
  have hB := h.lt B h.fB
  exact ⟨(hW.cell (p := ⟨B, 1, none⟩) hB).trans h.c0, (hW.cell (p := ⟨B, 2, none⟩) hB).trans h.c1, fun i => (hW.frozen (p := ⟨B, i, none⟩) hB).trans (h.f i), ownsMap_keeps h1 hk (fun f => f), h.lies.keeps hk (fun _ _ f => f), Keeps.of_below _ hW zr, fun i _ _ => hW.cell (p := ⟨B, i, none⟩) hB⟩
theorem tree_Add (L : List Ent) (B : Nat) (F : Nat -> Prop) (id lo hi : Int) (w : World) (h : PT w B L F) :
  Calls Tryz.prog 269 #[.pointer (some ⟨B, 1, none⟩), .int .i64 id, .agg #[.int .i64 lo, .int .i64 hi]] w (TreeSays (addErr L ⟨id, lo, hi⟩) (addTo L ⟨id, lo, hi⟩) B F w) := by
 have hB0 := below_box w (.cells #[.int .i64 lo, .int .i64 hi] 79)
 have HE : Hid (addErr L ⟨id, lo, hi⟩ = if 0 <= id /\ id <= 1048576 then (if rightB lo hi = true then (if foundT L id = true then 9 else if 4000 <= L.length then 12 else 0) else 1) else 2) := rfl
 have HR := zh (fun W => span_Right lo hi W)
 by_cases h0 : id < 0
 ·have e0 : Hid (addErr L ⟨id, lo, hi⟩ = 2) := by unfold Hid; rw [uh HE, if_neg (by omega)]
  have HT := zh h
  clear HE HR h
  go_enter Tryz.func269, Tryz.ntmps269
  go_wp2
  go_ret
  exact ⟨by rw [uh e0]; rfl, by rw [add_none (by rw [uh e0]; decide)]; exact turned_below (uh HT) hB0⟩
 ·by_cases h1 : 1048576 < id
  ·have e0 : Hid (addErr L ⟨id, lo, hi⟩ = 2) := by unfold Hid; rw [uh HE, if_neg (by omega)]
   have HT := zh h
   clear HE HR h
   go_enter Tryz.func269, Tryz.ntmps269
   go_wp2
   go_ret
   exact ⟨by rw [uh e0]; rfl, by rw [add_none (by rw [uh e0]; decide)]; exact turned_below (uh HT) hB0⟩
  ·have h1' : 0 <= id /\ id <= 1048576 := by omega
   have HB2 : Hid (∀ W, W = (w.alloc (.cells #[.int .i64 lo, .int .i64 hi] 79)).alloc (.cells #[.int .i64 lo, .int .i64 hi] 79) -> Below w.heap.size w W) := fun W e => by rw [e]; exact hB0.trans ((below_box _ _).mono (by simp))
   by_cases h2 : rightB lo hi = true
   ·have HSB : Hid (∀ W, W = (w.alloc (.cells #[.int .i64 lo, .int .i64 hi] 79)).alloc (.cells #[.int .i64 lo, .int .i64 hi] 79) -> W.cell? ⟨w.heap.size, 0, none⟩ = some (.int .i64 lo) /\ W.cell? ⟨w.heap.size, 1, none⟩ = some (.int .i64 hi) /\ w.heap.size < W.heap.size) := fun W e => by
     rw [e]
     refine ⟨?_, ?_, ?_⟩
     ·rw [World.cell?_alloc_lt _ _ _ (by simp)]; simp
     ·rw [World.cell?_alloc_lt _ _ _ (by simp)]; simp
     ·simp; omega
    have HR2 : Hid (rightB lo hi = true) := h2
    rw [h2] at HR
    obtain ⟨mv, X, hP⟩ := h
    have HT : Hid (PT w B L F) := ⟨mv, X, hP⟩
    have HP := zh hP
    have hw := wf_small h1'.1 h1'.2
    have hlen := hP.length
    have HC : Hid (∀ W, Below w.heap.size w W -> W.cell? ⟨B, 1, none⟩ = some (.map mv) /\ MapAt W mv X) := fun W hW => ⟨(hW.cell (p := ⟨B, 1, none⟩) (hP.lt B hP.fB)).trans hP.c0, hP.map.keeps (Keeps.of_below (fun _ => False) hW zr) (fun _ _ f => f)⟩
    have HLN : Hid (∀ W, Below w.heap.size w W -> ∀ ty, (Builtin.len_ #[200] ty #[.map mv]).run Tryz.prog W = .ok (.int .i64 (X.length : Nat)) W) := fun W hW ty => len_map (uh HC W hW).2 ty
    clear hP
    by_cases h3 : foundT L id = true
    ·have e0 : Hid (addErr L ⟨id, lo, hi⟩ = 9) := by unfold Hid; rw [uh HE, if_pos h1', if_pos h2, if_pos h3]
     obtain ⟨x, hx, hxid, _⟩ := (uh HP).there h3
     have HLK : Hid (∀ W, Below w.heap.size w W -> (Instr.lookup 200 (.map mv) (.int .i64 id) false).run Tryz.prog W = .ok (.pointer (some ⟨x.1, 0, none⟩)) W) := fun W hW => by
      have := look_at (uh HC W hW).2 x hx (by rw [hxid]; exact hw)
      rwa [hxid] at this
     clear HE h2 h3 HP hx hxid hw hlen
     go_enter Tryz.func269, Tryz.ntmps269
     go_wp2_with (first | (go_at_call 98; refine (uh HR _).mono ?_; rintro e W ⟨rfl, hW⟩; have BW : Hid (Below w.heap.size w W) := (uh HB2) _ hW; have cw := (uh HC W (uh BW)).1; have HSX := zh (uh HSB _ hW); clear hW) | (at_lookup; refine wpList_look_run _ rfl _ _ rfl _ _ _ rfl rfl (uh HLK _ (uh (by assumption))) ?_))
     go_ret
     exact ⟨by rw [uh e0]; rfl, by rw [add_none (by rw [uh e0]; decide)]; exact turned_below (uh HT) (uh BW)⟩
    ·have h3' : foundT L id = false := by simpa using h3
     have HLK : Hid (∀ W, Below w.heap.size w W -> (Instr.lookup 200 (.map mv) (.int .i64 id) false).run Tryz.prog W = .ok (.pointer none) W) := fun W hW => look_none (uh HC W hW).2 id hw ((uh HP).missing h3')
     by_cases h4 : 4000 <= L.length
     ·have e0 : Hid (addErr L ⟨id, lo, hi⟩ = 12) := by unfold Hid; rw [uh HE, if_pos h1', if_pos h2, if_neg h3, if_pos h4]
      have h4' : (4000 : Int) <= (X.length : Int) := by omega
      clear HE h2 h3 HP hw hlen h3'
      go_enter Tryz.func269, Tryz.ntmps269
      go_wp2_with (first | (go_at_call 98; refine (uh HR _).mono ?_; rintro e W ⟨rfl, hW⟩; have BW : Hid (Below w.heap.size w W) := (uh HB2) _ hW; have cw := (uh HC W (uh BW)).1; have HSX := zh (uh HSB _ hW); clear hW) | (at_lookup; refine wpList_look_run _ rfl _ _ rfl _ _ _ rfl rfl (uh HLK _ (uh (by assumption))) ?_) | (at_len; refine wpList_len_run _ rfl _ rfl _ _ rfl (uh HLN _ (uh (by assumption)) _) ?_))
      go_ret
      exact ⟨by rw [uh e0]; rfl, by rw [add_none (by rw [uh e0]; decide)]; exact turned_below (uh HT) (uh BW)⟩
     ·have E : Hid (addErr L ⟨id, lo, hi⟩ = 0 /\ addTo L ⟨id, lo, hi⟩ = addT L ⟨id, lo, hi⟩) := by
       have e0 : addErr L ⟨id, lo, hi⟩ = 0 := by rw [uh HE, if_pos h1', if_pos h2, if_neg h3, if_neg h4]
       exact ⟨e0, by unfold addTo; rw [if_pos e0]⟩
      have h4' : ¬ (4000 : Int) <= (X.length : Int) := by omega
      have H4 : Hid (L.length < 4000) := by unfold Hid; omega
      have H3 : Hid (foundT L id = false) := h3'
      clear HE h2 h3 h3' h4
      cases mv with
      | some m =>
       obtain ⟨D, hKD, hMD⟩ := (uh HP).mid
       have HKS : Hid (∀ W : World, Keys (D.put (.int .i64 id) (.lit (.int .i64 ((W.heap.size : Nat) + 1)))) (addX X W.heap.size ⟨id, lo, hi⟩)) := fun W => hKD.add ((hMD w (Below.refl _ _)).own.tidy keyedI) W.heap.size ⟨id, lo, hi⟩ ((uh HP).missing (uh H3))
       have HXL : Hid (∀ W : World, (addX X W.heap.size ⟨id, lo, hi⟩).length = X.length + 1) := fun W => by rw [(addX_perm X W.heap.size ⟨id, lo, hi⟩).length_eq]; rfl
       have HFm : Hid (F m \/ w.heap.size <= m) := .inl ((uh HP).fm m rfl)
       have HMD := zh hMD
       have hme := map_is
       have hxl : X.length < 4000 := by omega
       clear hKD hMD hlen
       go_enter Tryz.func269, Tryz.ntmps269
       go_wp2_with (first
        | (go_at_call 98; refine (uh HR _).mono ?_; rintro e W ⟨rfl, hW⟩; have BW : Hid (Below w.heap.size w W) := (uh HB2) _ hW; have cw := (uh HC W (uh BW)).1; have HSX := zh (uh HSB _ hW); have s0 := (uh HSX).1; have s1 := (uh HSX).2.1; have HM0 := zh ((uh HMD _ (uh BW)).below (below_box W (.cells #[.int .i64 id, .int .i64 lo, .int .i64 hi, .int .i64 0, .pointer none, .pointer none] 335))); have HN0 : Hid (NodeW (W.alloc (.cells #[.int .i64 id, .int .i64 lo, .int .i64 hi, .int .i64 0, .pointer none, .pointer none] 335)) W.heap.size ⟨id, lo, hi⟩ 0 (.pointer none) (.pointer none)) := node_new W id lo hi; have cn := (uh HM0).c0; have HNm : Hid (¬ W.heap.size = m) := (fun e => map_no_cells (uh HM0).own (uh HN0).c0 e.symm); clear hW)
        | (at_lookup; refine wpList_look_run _ rfl _ _ rfl _ _ _ rfl rfl (uh HLK _ (uh BW)) ?_)
        | (at_len; refine wpList_len_run _ rfl _ rfl _ _ rfl (uh HLN _ (uh BW) _) ?_)
        | (at_mapUpdate; refine wpList_mapUpdate_in _ rfl _ _ _ 200 rfl 3 201 keyedI Tryz.underlying200 ptrElem m X.length D rfl (uh HM0).own (by unfold maxLen; omega) _ _ _ rfl rfl (keyOf_int_mk Tryz.underlying3 hw) (.lit (.int .i64 ((W.heap.size : Nat) + 1))) [] rfl ?_; intro W2 own2 turn2; have HM2 := zh ((uh HM0).put turn2 own2 (uh HFm)); have HN2 := zh ((uh HN0).keeps (turned_keeps turn2) (uh HNm)); have hs2 : W.heap.size < W2.heap.size := (uh HN2).lt; clear own2 turn2)
        | (go_at_call 276; refine (tree_order (linkT X) B m _ (X.length + 1) _ _ (uh HM2).c0 (uh HM2).own (by rw [(uh HKS W).size]; exact (uh HXL W)) (by omega) (uh HM2).c1 (uh HM2).lies (by rw [items_link]; omega)).mono ?_; rw [items_link]; rintro e W3 ⟨q, rfl, row3, b3⟩))
       obtain ⟨cur3, hc3, _, _, _, hq3⟩ := row_block row3
       have hwW : w.heap.size <= W.heap.size := by have := (uh HSX).2.2; omega
       have HM3 := zh ((uh HM2).below b3)
       have HN3 := zh ((uh HN2).of_block (b3.block _ hs2))
       have hxq : ∀ x, x ∈ X -> x.1 ≠ q := fun x hx => by have := ((uh HM2).nodes x hx).lt; omega
       have hnq : W.heap.size ≠ q := by omega
       have hmq : m ≠ q := by have := (uh HM2).own.lt; omega
       have hBq : B ≠ q := by
        have hB2 : B < W2.heap.size := lt_of_cell (uh HM2).c0
        omega
       have HXQ := zh hxq
       have HLE := zh (posX_le X ⟨id, lo, hi⟩)
       refine (search_node X (W.heap.size, ⟨id, lo, hi⟩) q (X.length + 1 + 1) W2.heap.size W3 (uh HP).ordered (uh HM3).nodes hxq ⟨_, _, _, uh HN3⟩ hnq row3 (by omega)).mono ?_
       rintro e W4 ⟨bl, rfl, b4⟩
       have HR4 := zh (ownsRow_carry row3 b4)
       have HM4 := zh ((uh HM3).below b4)
       have HN4 := zh ((uh HN3).of_block (b4.block _ (uh HN3).lt))
       have hq4 : q < W4.heap.size := Nat.lt_of_lt_of_le (lt_of_block hc3) b4.size
       clear row3 b3 b4 hc3 HM3 HN3 HM0 HN0 cn hxq
       generalize hpos : posX X ⟨id, lo, hi⟩ = k at *
       have HPOS := zh hpos
       clear hpos
       go_wp2_with fail
       have HM5 := zh ((uh HM4).below (below_box W4 (.cells #[.pointer (some ⟨W.heap.size, 0, none⟩)] 201)))
       have HN5 := zh ((uh HN4).of_block ((below_box W4 (.cells #[.pointer (some ⟨W.heap.size, 0, none⟩)] 201)).block _ (uh HN4).lt))
       refine (ins_node X (W.heap.size, ⟨id, lo, hi⟩) q (X.length + 1 + 1) W2.heap.size k W4.heap.size _ ((uh HR4).alloc _) (by omega) (by omega) (uh HLE) (by omega) (heap_alloc_new W4 _)).mono ?_
       rintro e W6 ⟨rfl, hcell, k6⟩
       have HM6 := zh ((uh HM5).keep k6 hBq hmq (uh HXQ) (fun i hi e => by subst e; exact absurd hq3 (by have := hs2; omega)))
       have HN6 := zh ((uh HN5).keeps k6 hnq)
       have hR6 : Rows W6 (some ⟨q, 0, none⟩) q 0 (addX X (W.heap.size) ⟨id, lo, hi⟩) := add_rows (uh HP) ⟨id, lo, hi⟩ (W.heap.size) q W6 hwW (uh HM6).nodes ⟨_, _, _, uh HN6⟩ (uh HXQ) hnq (by rw [uh HPOS]; exact hcell)
       have HL6 := zh (tree_link _ (addX X (W.heap.size) ⟨id, lo, hi⟩) _ q 0 (X.length + 1 + 1) W6 rfl (by rw [uh HXL W]; omega) (by omega) hR6)
       rw [uh HXL W] at HL6
       obtain ⟨u, hu⟩ := ptr_form (linkT (addX X (W.heap.size) ⟨id, lo, hi⟩))
       have HU := zh hu
       have hBX : ¬ inX (addX X (W.heap.size) ⟨id, lo, hi⟩) B := fun hf => by
        obtain ⟨x, hx, hxB⟩ := List.mem_map.1 hf
        rcases List.mem_cons.1 ((addX_perm X (W.heap.size) ⟨id, lo, hi⟩).mem_iff.1 hx) with rfl | hx
        ·have := (uh HP).lt B (uh HP).fB
         have hxB' : W.heap.size = B := hxB
         omega
        ·exact (uh HP).out x hx hxB
       clear hcell k6 HM5 HN5 HM4 HN4 hR6 HR4 hu
       go_wp2_with fail
       refine (uh HL6).mono ?_
       rintro e W7 ⟨he, l7, k7⟩
       rw [uh HU] at he
       subst he
       have hB6 := lt_of_cell (uh HM6).c0
       have d1 := (k7.cell (p := ⟨B, 2, none⟩) hB6 hBX).trans (uh HM6).c1
       have g1 := (k7.frozen (p := ⟨B, 2, none⟩) hB6 hBX).trans ((uh HM6).f 2)
       have HEND := zh (add_end (uh HP) ⟨id, lo, hi⟩ (W.heap.size) m _ _ W6 W7 (uh H3) (uh H4) (uh HR2) hwW (uh HN6).lt (.inl rfl) (fun e => uh HNm e.symm) (uh HM6) (uh HKS W) l7 k7)
       rw [uh HU] at HEND
       clear HM6 HN6 l7 k7 HL6
       go_wp2
       go_ret
       exact ⟨by rw [(uh E).1]; rfl, by rw [(uh E).2]; exact uh HEND⟩
      | none =>
       have HKS : Hid (∀ W : World, Keys (DataW.put (.map []) (.int .i64 id) (.lit (.int .i64 ((W.heap.size + 1 : Nat) + 1)))) (addX X (W.heap.size + 1) ⟨id, lo, hi⟩)) := fun W => by
        have hX0 := (uh HP).empty
        exact (show Keys (.map []) X by rw [hX0]; exact keys_none).add tidy_empty (W.heap.size + 1) ⟨id, lo, hi⟩ ((uh HP).missing (uh H3))
       have HXL : Hid (∀ W : World, (addX X (W.heap.size + 1) ⟨id, lo, hi⟩).length = X.length + 1) := fun W => by rw [(addX_perm X (W.heap.size + 1) ⟨id, lo, hi⟩).length_eq]; rfl
       have hme := map_not
       have hmm := @run_makeMap Tryz.prog
       have hxl : X.length < 4000 := by omega
       clear hlen
       go_enter Tryz.func269, Tryz.ntmps269
       go_wp2_with (first
        | (go_at_call 98; refine (uh HR _).mono ?_; rintro e W ⟨rfl, hW⟩; have BW : Hid (Below w.heap.size w W) := (uh HB2) _ hW; have cw := (uh HC W (uh BW)).1; have HSX := zh (uh HSB _ hW); have HM9 := zh (mid_none (uh HP) (uh BW)); have HAB := zh (below_box W (.map #[] 0)); have ca := ((uh HAB).cell (p := ⟨B, 1, none⟩) (lt_of_cell cw)).trans cw; have fa := ((uh HAB).frozen (p := ⟨B, 1, none⟩) (lt_of_cell cw)).trans (((uh BW).frozen (p := ⟨B, 1, none⟩) ((uh HP).lt B (uh HP).fB)).trans ((uh HP).f 1)); have HBS : Hid (Keeps (· = B) (W.alloc (.map #[] 0)) ((W.alloc (.map #[] 0)).setCell ⟨B, 1, none⟩ (.map (some W.heap.size)))) := keeps_set _ B 1 _; have HNB : Hid (¬ w.heap.size = B) := (fun e => absurd ((uh HP).lt B (uh HP).fB) (by omega)); have s0 := ((uh HBS).cell (p := ⟨w.heap.size, 0, none⟩) (Nat.lt_of_lt_of_le (uh HSX).2.2 (uh HAB).size) (uh HNB)).trans (((uh HAB).cell (p := ⟨w.heap.size, 0, none⟩) (uh HSX).2.2).trans (uh HSX).1); have s1 := ((uh HBS).cell (p := ⟨w.heap.size, 1, none⟩) (Nat.lt_of_lt_of_le (uh HSX).2.2 (uh HAB).size) (uh HNB)).trans (((uh HAB).cell (p := ⟨w.heap.size, 1, none⟩) (uh HSX).2.2).trans (uh HSX).2.1); have HM0 := zh ((uh HM9).below (below_box ((W.alloc (.map #[] 0)).setCell ⟨B, 1, none⟩ (.map (some W.heap.size))) (.cells #[.int .i64 id, .int .i64 lo, .int .i64 hi, .int .i64 0, .pointer none, .pointer none] 335))); have HN0 : Hid (NodeW (((W.alloc (.map #[] 0)).setCell ⟨B, 1, none⟩ (.map (some W.heap.size))).alloc (.cells #[.int .i64 id, .int .i64 lo, .int .i64 hi, .int .i64 0, .pointer none, .pointer none] 335)) (W.heap.size + 1) ⟨id, lo, hi⟩ 0 (.pointer none) (.pointer none)) := (node_none W B id lo hi); have cn := (uh HM0).c0; have HNm : Hid (¬ W.heap.size + 1 = W.heap.size) := (fun e => by omega); have HFm : Hid (F W.heap.size \/ w.heap.size <= W.heap.size) := .inr (uh BW).size; clear hW)
        | (at_lookup; refine wpList_look_run _ rfl _ _ rfl _ _ _ rfl rfl (uh HLK _ (uh BW)) ?_)
        | (at_len; refine wpList_len_run _ rfl _ rfl _ _ rfl (uh HLN _ (uh BW) _) ?_)
        | (at_mapUpdate; refine wpList_mapUpdate_in _ rfl _ _ _ 200 rfl 3 201 keyedI Tryz.underlying200 ptrElem W.heap.size X.length (.map []) rfl (uh HM0).own (by unfold maxLen; omega) _ _ _ rfl rfl (keyOf_int_mk Tryz.underlying3 hw) (.lit (.int .i64 (((W.heap.size + 1) : Nat) + 1))) [] rfl ?_; intro W2 own2 turn2; have HM2 := zh ((uh HM0).put turn2 own2 (uh HFm)); have HN2 := zh ((uh HN0).keeps (turned_keeps turn2) (uh HNm)); have hs2 : (W.heap.size + 1) < W2.heap.size := (uh HN2).lt; clear own2 turn2)
        | (go_at_call 276; refine (tree_order (linkT X) B W.heap.size _ (X.length + 1) _ _ (uh HM2).c0 (uh HM2).own (by rw [(uh HKS W).size]; exact (uh HXL W)) (by omega) (uh HM2).c1 (uh HM2).lies (by rw [items_link]; omega)).mono ?_; rw [items_link]; rintro e W3 ⟨q, rfl, row3, b3⟩))
       obtain ⟨cur3, hc3, _, _, _, hq3⟩ := row_block row3
       have hwW : w.heap.size <= (W.heap.size + 1) := by have := (uh HSX).2.2; omega
       have HM3 := zh ((uh HM2).below b3)
       have HN3 := zh ((uh HN2).of_block (b3.block _ hs2))
       have hxq : ∀ x, x ∈ X -> x.1 ≠ q := fun x hx => by have := ((uh HM2).nodes x hx).lt; omega
       have hnq : (W.heap.size + 1) ≠ q := by omega
       have hmq : W.heap.size ≠ q := by have := (uh HM2).own.lt; omega
       have hBq : B ≠ q := by
        have hB2 : B < W2.heap.size := lt_of_cell (uh HM2).c0
        omega
       have HXQ := zh hxq
       have HLE := zh (posX_le X ⟨id, lo, hi⟩)
       refine (search_node X ((W.heap.size + 1), ⟨id, lo, hi⟩) q (X.length + 1 + 1) W2.heap.size W3 (uh HP).ordered (uh HM3).nodes hxq ⟨_, _, _, uh HN3⟩ hnq row3 (by omega)).mono ?_
       rintro e W4 ⟨bl, rfl, b4⟩
       have HR4 := zh (ownsRow_carry row3 b4)
       have HM4 := zh ((uh HM3).below b4)
       have HN4 := zh ((uh HN3).of_block (b4.block _ (uh HN3).lt))
       have hq4 : q < W4.heap.size := Nat.lt_of_lt_of_le (lt_of_block hc3) b4.size
       clear row3 b3 b4 hc3 HM3 HN3 HM0 HN0 cn hxq
       generalize hpos : posX X ⟨id, lo, hi⟩ = k at *
       have HPOS := zh hpos
       clear hpos
       go_wp2_with fail
       have HM5 := zh ((uh HM4).below (below_box W4 (.cells #[.pointer (some ⟨(W.heap.size + 1), 0, none⟩)] 201)))
       have HN5 := zh ((uh HN4).of_block ((below_box W4 (.cells #[.pointer (some ⟨(W.heap.size + 1), 0, none⟩)] 201)).block _ (uh HN4).lt))
       refine (ins_node X ((W.heap.size + 1), ⟨id, lo, hi⟩) q (X.length + 1 + 1) W2.heap.size k W4.heap.size _ ((uh HR4).alloc _) (by omega) (by omega) (uh HLE) (by omega) (heap_alloc_new W4 _)).mono ?_
       rintro e W6 ⟨rfl, hcell, k6⟩
       have HM6 := zh ((uh HM5).keep k6 hBq hmq (uh HXQ) (fun i hi e => by subst e; exact absurd hq3 (by have := hs2; omega)))
       have HN6 := zh ((uh HN5).keeps k6 hnq)
       have hR6 : Rows W6 (some ⟨q, 0, none⟩) q 0 (addX X ((W.heap.size + 1)) ⟨id, lo, hi⟩) := add_rows (uh HP) ⟨id, lo, hi⟩ ((W.heap.size + 1)) q W6 hwW (uh HM6).nodes ⟨_, _, _, uh HN6⟩ (uh HXQ) hnq (by rw [uh HPOS]; exact hcell)
       have HL6 := zh (tree_link _ (addX X ((W.heap.size + 1)) ⟨id, lo, hi⟩) _ q 0 (X.length + 1 + 1) W6 rfl (by rw [uh HXL W]; omega) (by omega) hR6)
       rw [uh HXL W] at HL6
       obtain ⟨u, hu⟩ := ptr_form (linkT (addX X ((W.heap.size + 1)) ⟨id, lo, hi⟩))
       have HU := zh hu
       have hBX : ¬ inX (addX X ((W.heap.size + 1)) ⟨id, lo, hi⟩) B := fun hf => by
        obtain ⟨x, hx, hxB⟩ := List.mem_map.1 hf
        rcases List.mem_cons.1 ((addX_perm X ((W.heap.size + 1)) ⟨id, lo, hi⟩).mem_iff.1 hx) with rfl | hx
        ·have := (uh HP).lt B (uh HP).fB
         have hxB' : (W.heap.size + 1) = B := hxB
         omega
        ·exact (uh HP).out x hx hxB
       clear hcell k6 HM5 HN5 HM4 HN4 hR6 HR4 hu
       go_wp2_with fail
       refine (uh HL6).mono ?_
       rintro e W7 ⟨he, l7, k7⟩
       rw [uh HU] at he
       subst he
       have hB6 := lt_of_cell (uh HM6).c0
       have d1 := (k7.cell (p := ⟨B, 2, none⟩) hB6 hBX).trans (uh HM6).c1
       have g1 := (k7.frozen (p := ⟨B, 2, none⟩) hB6 hBX).trans ((uh HM6).f 2)
       have HEND := zh (add_end (uh HP) ⟨id, lo, hi⟩ ((W.heap.size + 1)) W.heap.size _ _ W6 W7 (uh H3) (uh H4) (uh HR2) hwW (uh HN6).lt (.inr (uh BW).size) (fun e => uh HNm e.symm) (uh HM6) (uh HKS W) l7 k7)
       rw [uh HU] at HEND
       clear HM6 HN6 l7 k7 HL6
       go_wp2
       go_ret
       exact ⟨by rw [(uh E).1]; rfl, by rw [(uh E).2]; exact uh HEND⟩
   ·have e0 : Hid (addErr L ⟨id, lo, hi⟩ = 1) := by unfold Hid; rw [uh HE, if_pos h1', if_neg h2]
    have h2' : rightB lo hi = false := by simpa using h2
    rw [h2'] at HR
    have HT := zh h
    clear HE h2 h2' h
    go_enter Tryz.func269, Tryz.ntmps269
    go_wp2_with (first | (go_at_call 98; refine (uh HR _).mono ?_; rintro e W ⟨rfl, hW⟩; have BW : Hid (Below w.heap.size w W) := (uh HB2) _ hW; clear hW))
    go_ret
    exact ⟨by rw [uh e0]; rfl, by rw [add_none (by rw [uh e0]; decide)]; exact turned_below (uh HT) (uh BW)⟩
theorem drop_end {w : World} {B : Nat} {L : List Ent} {m : Nat} {X : List (Nat × Ent)} {F : Nat -> Prop} (h : PX w B L (some m) X F) (p : Nat × Ent) (hp : p ∈ X) (n : Nat) (D : DataW Unit) (W6 W7 : World)
  (hM : Mid w B m n X D F W6) (hK : Keys D (dropX X p.2)) (hL : (linkT (dropX X p.2)).Lies W7) (hk : Keeps (inX (dropX X p.2)) W6 W7) :
  Turned w B (dropT L p.2.id) F (W7.setCell ⟨B, 2, none⟩ (linkT (dropX X p.2)).ptr) := by
 have hP := dropX_perm X p h.ordered hp
 have hmem : ∀ x, x ∈ dropX X p.2 -> x ∈ X := fun x hx => hP.mem_iff.2 (List.mem_cons_of_mem _ hx)
 have hin : ∀ i, inX (dropX X p.2) i -> ∃ x, x ∈ X /\ x.1 = i := fun i hi => by
  obtain ⟨x, hx, q⟩ := List.mem_map.1 hi
  exact ⟨x, hmem x hx, q⟩
 obtain ⟨a1, a2⟩ := hM.apart
 have nB : ¬ inX (dropX X p.2) B := fun q => by
  obtain ⟨x, hx, k⟩ := hin _ q
  exact h.out x hx k
 have nm : ¬ inX (dropX X p.2) m := fun q => by
  obtain ⟨x, hx, k⟩ := hin _ q
  exact a2 x hx k.symm
 have hBl := lt_of_cell hM.c0
 have d0 := (hk.cell (p := ⟨B, 1, none⟩) hBl nB).trans hM.c0
 have d1 := (hk.cell (p := ⟨B, 2, none⟩) hBl nB).trans hM.c1
 have dk : Keeps F w (W7.setCell ⟨B, 2, none⟩ (linkT (dropX X p.2)).ptr) := by
  have k1 := (hM.keeps.then hk (fun i hi q => by
   obtain ⟨x, hx, k⟩ := hin i q
   rw [<- k]; exact .inl (h.fX x hx))).then (keeps_set W7 B 2 (linkT (dropX X p.2)).ptr) (fun i _ q => by cases q; exact .inl h.fB)
  exact k1.mono (fun i hi q => by
   rcases q with q | q
   ·exact q
   ·omega)
 refine turned_drop h p hp ?_ ?_ ?_ ?_ ?_ dk ?_
 ·rw [zo _ _ _ _ (by simp)]
  exact d0
 ·exact zs _ _ _ d1
 ·intro i
  rw [World.frozen?_setCell, hk.frozen (p := ⟨B, i, none⟩) hBl nB, hM.f i]
 ·refine .inr ⟨m, D, rfl, ?_, hK⟩
  have := ownsMap_size ((ownsMap_keeps hM.own hk nm).setCell (a := ⟨B, 2, none⟩) a1 (linkT (dropX X p.2)).ptr)
  rwa [hK.size] at this
 ·refine hL.keeps (keeps_set W7 B 2 _) (fun x hx q => ?_)
  rw [items_link] at hx
  exact nB (List.mem_map.2 ⟨x, hx, q⟩)
 ·intro i h1 h2
  rw [zo _ _ _ _ (by simp <;> omega)]
  exact (hk.cell (p := ⟨B, i, none⟩) hBl nB).trans (hM.rest i h1 h2)
theorem PX.some_map {w : World} {B : Nat} {L : List Ent} {mv : Option Nat} {X : List (Nat × Ent)} {F : Nat -> Prop} (h : PX w B L mv X F) {x : Nat × Ent} (hx : x ∈ X) : ∃ m, mv = some m := by
 rcases h.map with ⟨_, e⟩ | ⟨m, D, e, _⟩
 ·subst e; cases hx
 ·exact ⟨m, e⟩
theorem tree_Drop (L : List Ent) (B : Nat) (F : Nat -> Prop) (id : Int) (w : World) (h : PT w B L F) (hw : (Lit.int .i64 id).wf = true) :
  Calls Tryz.prog 267 #[.pointer (some ⟨B, 1, none⟩), .int .i64 id] w (TreeSays (dropErr L id) (dropTo L id) B F w) := by
 obtain ⟨mv, X, hP⟩ := h
 have HT : Hid (PT w B L F) := ⟨mv, X, hP⟩
 have c0 := hP.c0
 by_cases h3 : foundT L id = true
 ·have E : Hid (dropErr L id = 0 /\ dropTo L id = dropT L id) := ⟨by unfold dropErr; rw [if_pos h3], by unfold dropTo; rw [if_pos h3]⟩
  obtain ⟨x, hx, hxid, _⟩ := hP.there h3
  obtain ⟨m, rfl⟩ := hP.some_map hx
  have hlk := look_at hP.map x hx (by rw [hxid]; exact hw)
  have HX := zh hx
  have HP := zh hP
  subst hxid
  obtain ⟨D, hKD, hMD⟩ := hP.mid
  have HM0 := zh (hMD w (Below.refl _ _))
  have HKS : Hid (Keys (D.del (.int .i64 x.2.id)) (dropX X x.2)) := hKD.drop ((hMD w (Below.refl _ _)).own.tidy keyedI) hP.ordered hP.ids x hx
  obtain ⟨N, hN⟩ : ∃ N, (dropX X x.2).length = N := ⟨_, rfl⟩
  have hXN : X.length = N + 1 := by rw [(dropX_perm X x hP.ordered hx).length_eq, List.length_cons, hN]
  have hXL : X.length <= 4000 := by rw [hP.length]; exact hP.len
  have HFm : Hid (F m \/ w.heap.size <= m) := .inl (hP.fm m rfl)
  obtain ⟨hpl, hpat⟩ := posX_at X x hP.ordered hx
  have HPL := zh hpl
  have HND := zh (hP.nodeAt x hx)
  have hlk' : (Instr.lookup 200 (.map (some m)) (.int .i64 x.2.id) false).run Tryz.prog w = .ok (.pointer (some ⟨x.1, 0, none⟩)) w := hlk
  have HNN := zh hN
  have HXN := zh hXN
  clear hKD hMD hlk hpl hpat hP h3 hx hN hXN
  go_enter Tryz.func267, Tryz.ntmps267
  go_wp2_with (first
   | (at_lookup; refine wpList_look_run _ rfl _ _ rfl _ _ _ rfl rfl hlk' ?_)
   | (at_delete; refine wpList_delete_own _ rfl _ _ 200 3 rfl 201 keyedI Tryz.underlying200 ptrElem m X.length D rfl (uh HM0).own _ _ rfl (keyOf_int_mk Tryz.underlying3 hw) ?_; intro W2 own2 turn2; have HM2 := zh ((uh HM0).put turn2 own2 (uh HFm)); clear own2 turn2)
   | (go_at_call 276; refine (tree_order (linkT X) B m _ N _ _ (uh HM2).c0 (uh HM2).own (by rw [(uh HKS).size]; exact (uh HNN)) (by have := uh HXN; omega) (uh HM2).c1 (uh HM2).lies (by rw [items_link]; have := uh HXN; omega)).mono ?_; rw [items_link]; rintro e W3 ⟨q, rfl, row3, b3⟩))
  obtain ⟨cur3, hc3, _, _, _, hq3⟩ := row_block row3
  have hw2 : w.heap.size <= W2.heap.size := (uh HM2).keeps.size
  have HM3 := zh ((uh HM2).below b3)
  have hxq : ∀ y, y ∈ X -> y.1 ≠ q := fun y hy => by have := ((uh HM2).nodes y hy).lt; omega
  have hmq : m ≠ q := by have := (uh HM2).own.lt; omega
  have hBq : B ≠ q := by
   have hB2 : B < W2.heap.size := lt_of_cell (uh HM2).c0
   omega
  have HXQ := zh hxq
  refine (search_node X x q (N + 1) W2.heap.size W3 (uh HP).ordered (uh HM3).nodes hxq ((uh HM3).nodes x (uh HX)) (hxq x (uh HX)) row3 (by omega)).mono ?_
  rintro e W4 ⟨bl, rfl, b4⟩
  have HR4 := zh (ownsRow_carry row3 b4)
  have HM4 := zh ((uh HM3).below b4)
  clear row3 b3 b4 hc3 HM3 HM0 hxq
  obtain ⟨k, hk⟩ : ∃ k, posX X x.2 = k := ⟨_, rfl⟩
  have HPOS := zh hk
  rw [hk] at HPL ⊢
  clear hk
  have hk1 : (k : Int) < (X.length : Int) := by have := uh HPL; omega
  have hk2 : (X.length : Int) <= 4000 := by omega
  have HD4 : Hid (Calls Tryz.prog 280 #[.slice (some ⟨q, 0, none⟩) X.length (N + 1), .int .i64 k, .int .i64 ((k : Int) + 1)] W4 fun e w' =>
    e = .returned (.slice (some ⟨q, 0, none⟩) N (N + 1)) /\ (∀ t, (h : t < (X.take k ++ X.drop (k + 1)).length) -> w'.cell? ⟨q, t, none⟩ = some (ptrB (X.take k ++ X.drop (k + 1))[t])) /\ Keeps (· = q) W4 w') := by
   have := del_node X q (N + 1) W2.heap.size k (k + 1) W4 (uh HR4) (by have := uh HXN; omega) (uh HPL) rfl
   rw [show X.length - 1 = N by have := uh HXN; omega] at this
   exact this
  clear HR4
  go_wp2_with fail
  refine (uh HD4).mono ?_
  rintro e W6 ⟨rfl, hcell, k6⟩
  have HM6 := zh ((uh HM4).keep k6 hBq hmq (uh HXQ) (fun i hi e => by subst e; exact absurd hq3 (by omega)))
  have hsub : ∀ y, y ∈ dropX X x.2 -> y ∈ X := fun y hy => (dropX_perm X x (uh HP).ordered (uh HX)).mem_iff.2 (List.mem_cons_of_mem _ hy)
  have hR6 : Rows W6 (some ⟨q, 0, none⟩) q 0 (dropX X x.2) := by
   refine ⟨fun j hj => ⟨rfl, ?_⟩, fun y hy => (uh HM6).nodes y (hsub y hy), ?_, fun y hy => uh HXQ y (hsub y hy)⟩
   ·rw [Nat.zero_add]
    unfold dropX at hj ⊢
    simp only [uh HPOS] at hj ⊢
    exact hcell j hj
   ·have := ((dropX_perm X x (uh HP).ordered (uh HX)).map (·.1)).nodup_iff.1 (uh HP).nodup
    rw [List.map_cons, List.nodup_cons] at this
    exact this.2
  have HL6 := zh (tree_link _ (dropX X x.2) _ q 0 (N + 1) W6 rfl (by rw [uh HNN]; omega) (by have := uh HXN; omega) hR6)
  rw [uh HNN] at HL6
  obtain ⟨u, hu⟩ := ptr_form (linkT (dropX X x.2))
  have HU := zh hu
  have hBX : ¬ inX (dropX X x.2) B := fun hf => by
   obtain ⟨y, hy, hyB⟩ := List.mem_map.1 hf
   exact (uh HP).out y (hsub y hy) hyB
  clear hcell k6 HM4 hR6 HD4 hu hsub
  go_wp2_with fail
  refine (uh HL6).mono ?_
  rintro e W7 ⟨he, l7, k7⟩
  rw [uh HU] at he
  subst he
  have hB6 := lt_of_cell (uh HM6).c0
  have d1 := (k7.cell (p := ⟨B, 2, none⟩) hB6 hBX).trans (uh HM6).c1
  have g1 := (k7.frozen (p := ⟨B, 2, none⟩) hB6 hBX).trans ((uh HM6).f 2)
  have HEND := zh (drop_end (uh HP) x (uh HX) _ _ W6 W7 (uh HM6) (uh HKS) l7 k7)
  rw [uh HU] at HEND
  clear HM6 l7 k7 HL6
  go_wp2
  go_ret
  exact ⟨by rw [(uh E).1]; rfl, by rw [(uh E).2]; exact uh HEND⟩
 ·have h3' : foundT L id = false := by simpa using h3
  have E : Hid (dropErr L id = 7 /\ dropTo L id = L) := ⟨by unfold dropErr; rw [if_neg h3], by unfold dropTo; rw [if_neg h3]⟩
  have hlk := look_none hP.map id hw (hP.missing h3')
  clear hP h3 h3'
  go_enter Tryz.func267, Tryz.ntmps267
  go_wp2_with (at_lookup; refine wpList_look_run _ rfl _ _ rfl _ _ _ rfl rfl hlk ?_)
  go_ret
  exact ⟨by rw [(uh E).1]; rfl, by rw [(uh E).2]; exact turned_below (uh HT) (Below.refl _ _)⟩
structure GathI (w : World) (base bs bv bo : Nat) (lo hi : Int) (v : Value) (zs : List Int) : Prop where
 s : w.heap[bs]? = some (.cells #[.int .i64 lo, .int .i64 hi] 79 (0, 0))
 fn : w.heap[bv]? = some (.cells #[.func (.func 275) #[] #[.pointer (some ⟨bs, 0, none⟩), .pointer (some ⟨bv, 0, none⟩), .pointer (some ⟨bo, 0, none⟩)]] 332 (0, 0))
 o : w.heap[bo]? = some (.cells #[v] 89 (0, 0))
 row : w.ownsRow base 3 1 v zs.length (zs.map (Value.int .i64))
theorem own_block {w : World} {base : Nat} {v : Value} {n : Nat} {e : TypeId} {xs : List Value} (h : w.ownsRow base e 1 v n xs) (k : Nat) (hk : v.ownBlock = some k) : ∃ cur, w.heap[k]? = some (.cells cur e (0, 0)) := by
 rcases h.2 with ⟨rfl, _⟩ | ⟨g, cap, cur, rfl, hg, hh, _⟩
 ·cases hk
 ·cases hk
  exact ⟨cur, hh⟩
theorem GathI.apart {w : World} {base bs bv bo : Nat} {lo hi : Int} {v : Value} {zs : List Int} (h : GathI w base bs bv bo lo hi v zs) : bs ≠ bv /\ bs ≠ bo /\ bv ≠ bo /\ v.ownBlock ≠ some bs /\ v.ownBlock ≠ some bv /\ v.ownBlock ≠ some bo := by
 refine ⟨fun e => ?_, fun e => ?_, fun e => ?_, fun e => ?_, fun e => ?_, fun e => ?_⟩
 ·have := h.s
  rw [e, h.fn] at this
  simp at this
 ·have := h.s
  rw [e, h.o] at this
  simp at this
 ·have := h.fn
  rw [e, h.o] at this
  simp at this
 ·obtain ⟨cur, hc⟩ := own_block h.row bs e
  rw [h.s] at hc
  simp at hc
 ·obtain ⟨cur, hc⟩ := own_block h.row bv e
  rw [h.fn] at hc
  simp at hc
 ·obtain ⟨cur, hc⟩ := own_block h.row bo e
  rw [h.o] at hc
  simp at hc
theorem GathI.below {w w' : World} {base bs bv bo : Nat} {lo hi : Int} {v : Value} {zs : List Int} (h : GathI w base bs bv bo lo hi v zs) (hb : Below w.heap.size w w') : GathI w' base bs bv bo lo hi v zs :=
 ⟨(hb.block bs (lt_of_block h.s)).trans h.s, (hb.block bv (lt_of_block h.fn)).trans h.fn, (hb.block bo (lt_of_block h.o)).trans h.o, ownsRow_carry h.row hb⟩
theorem GathI.more {w wn : World} {base bs bv bo : Nat} {lo hi : Int} {v v' : Value} {zs ys : List Int} (h : GathI w base bs bv bo lo hi v zs) (hr : wn.ownsRow base 3 1 v' ys.length (ys.map (Value.int .i64))) (hg : w.grownBy wn v.ownBlock) (hb : v'.ownBlock ≠ some bo) :
  GathI (wn.setCell ⟨bo, 0, none⟩ v') base bs bv bo lo hi v' ys := by
 obtain ⟨a1, a2, a3, a4, a5, a6⟩ := h.apart
 refine ⟨?_, ?_, one_setCell ((hg.block bo (lt_of_block h.o) (fun e => a6 e.symm)).trans h.o), ownsRow_setCell_other hr hb _⟩
 ·rw [Below.heap_setCell _ _ _ _ (by exact a2)]
  exact (hg.block bs (lt_of_block h.s) (fun e => a4 e.symm)).trans h.s
 ·rw [Below.heap_setCell _ _ _ _ (by exact a3)]
  exact (hg.block bv (lt_of_block h.fn) (fun e => a5 e.symm)).trans h.fn
theorem own_apart {wn : World} {base bo : Nat} {v' : Value} {zs : List Int} {u : Value} (hr : wn.ownsRow base 3 1 v' zs.length (zs.map (Value.int .i64))) (h : wn.heap[bo]? = some (.cells #[u] 89 (0, 0))) : v'.ownBlock ≠ some bo := fun e => by
 obtain ⟨cur, hc⟩ := own_block hr bo e
 rw [h] at hc
 simp at hc
theorem GathI.cells {w : World} {base bs bv bo : Nat} {lo hi : Int} {v : Value} {zs : List Int} (h : GathI w base bs bv bo lo hi v zs) : w.cell? ⟨bs, 0, none⟩ = some (.int .i64 lo) /\ w.cell? ⟨bs, 1, none⟩ = some (.int .i64 hi) := by
 constructor
 ·simp [World.cell?, h.s]
 ·simp [World.cell?, h.s]
theorem below_drewN (w : World) (n : Nat) : Below w.heap.size w (w.drewN n) := ⟨rfl, rfl, rfl, Nat.le_refl _, fun _ _ => rfl⟩
def OutS (bo b : Nat) (v : Value) (i : Int) (W x : World) : Prop := x.cell? ⟨bo, 0, none⟩ = some v /\ x.cell? ⟨b, 0, none⟩ = some (.int .i64 i) /\ W.grownBy x v.ownBlock
theorem OutS.grown {bo b : Nat} {v : Value} {i : Int} {W x y : World} {row : Option Nat} (h : OutS bo b v i W x) (hg : x.grownBy y row) (h1 : row ≠ some bo) (h2 : row ≠ some b) (h3 : ∀ k, row = some k -> v.ownBlock = some k) : OutS bo b v i W y := by
 obtain ⟨a1, a2, a3⟩ := h
 refine ⟨(World.cell?_of_block (w := x) (a := ⟨bo, 0, none⟩) (hg.block bo (lt_of_cell a1) (fun e => h1 e.symm))).trans a1, (World.cell?_of_block (w := x) (a := ⟨b, 0, none⟩) (hg.block b (lt_of_cell a2) (fun e => h2 e.symm))).trans a2, ?_⟩
 exact ⟨hg.os.trans a3.os, hg.tape.trans a3.tape, hg.output.trans a3.output, Nat.le_trans a3.size hg.size, fun k hk hr => (hg.block k (Nat.lt_of_lt_of_le hk a3.size) (fun e => hr (h3 k e.symm).symm)).trans (a3.block k hk hr)⟩
theorem OutS.alloc {bo b : Nat} {v : Value} {i : Int} {W x : World} (h : OutS bo b v i W x) (o : Obj) : OutS bo b v i W (x.alloc o) := h.grown (World.grownBy_alloc x o none) (by simp) (by simp) (by simp)
def Met (base bs bv bo : Nat) (lo hi : Int) (zs : List Int) (T : Tr) (w : World) (e : Ending) (w' : World) : Prop :=
 e = .returned (.tuple #[]) /\ (∃ v, GathI w' base bs bv bo lo hi v (zs ++ metX lo hi T.items)) /\ Below base w w'
theorem visit_met (base bs bv bo : Nat) (lo hi : Int) (hlh : lo < hi) (_hs : base <= bs) (_hv : base <= bv) (ho : base <= bo) : ∀ (T : Tr) (w : World) (v : Value) (zs : List Int), T.Lies w -> T.Fine -> (∀ x, x ∈ T.items -> x.1 < base) -> base <= w.heap.size -> GathI w base bs bv bo lo hi v zs -> zs.length + T.items.length <= 100000 ->
  Calls Tryz.prog 275 #[T.ptr, .pointer (some ⟨bs, 0, none⟩), .pointer (some ⟨bv, 0, none⟩), .pointer (some ⟨bo, 0, none⟩)] w (Met base bs bv bo lo hi zs T w) := by
 intro T
 induction T using Tr.ind with
 | nil =>
  intro w v zs _ _ _ _ hG _
  have HG := zh hG
  clear hG
  rw [ptr_nil]
  go_enter Tryz.func275, Tryz.ntmps275
  go_wp2
  go_quiet (fail)
  go_wp2
  (try simp only [Exit.inBlock, Exit.then])
  refine bodyPost_ret (results_none rfl _ _ _) rfl ?_
  exact ⟨rfl, ⟨v, by rw [items_nil, show metX lo hi [] = [] from rfl, List.append_nil]; exact (uh HG).below (below_drewN w _)⟩, ⟨rfl, rfl, rfl, Nat.le_refl _, fun _ _ => rfl⟩⟩
 | node b e last l r ihl ihr =>
  intro w v zs hT hF hx hw hG hn
  rw [lies_node] at hT
  obtain ⟨hN, hl, hr⟩ := hT
  have HF := zh hF
  have hb : b < base := hx (b, e) (by simp [items_node])
  have c0 := hN.c0
  have c1 := hN.c1
  have c2 := hN.c2
  have c3 := hN.c3
  have c4 := hN.c4
  have c5 := hN.c5
  have hg := hG.cells
  have g0 := hg.1
  have g1 := hg.2
  have HG := zh hG
  by_cases h1 : last <= lo
  ·have E := zh (met_pruned lo hi b e last l r hF h1)
   clear ihl ihr hN hl hr hF hx hG hg c0 c1 c2 c4 c5
   show Calls _ _ #[.pointer (some ⟨b, 0, none⟩), _, _, _] _ _
   go_enter Tryz.func275, Tryz.ntmps275
   go_wp2
   go_quiet (fail)
   go_wp2
   (try simp only [Exit.inBlock, Exit.then])
   refine bodyPost_ret (results_none rfl _ _ _) rfl ?_
   exact ⟨rfl, ⟨v, by rw [uh E, List.append_nil]; exact (uh HG).below (below_drewN w _)⟩, ⟨rfl, rfl, rfl, Nat.le_refl _, fun _ _ => rfl⟩⟩
  ·have hF' := hF
   rw [fine_node] at hF'
   rw [items_node, List.length_append, List.length_cons] at hn
   have HL := zh (fun W (hW : Below base w W) (hG' : GathI W base bs bv bo lo hi v zs) => ihl W v zs (hl.keeps (F := fun i => base <= i) ⟨hW.os, hW.tape, hW.output, hW.size, fun k _ hk => hW.block k (by omega)⟩ (fun x h => by have := hx x (by simp [items_node, h]); omega)) hF'.2.2.2.1 (fun x h => hx x (by simp [items_node, h])) (Nat.le_trans hw hW.size) hG' (by omega))
   have HR := zh (fun W (hW : Below base w W) v' zs' (hG' : GathI W base bs bv bo lo hi v' zs') (hn' : zs'.length + r.items.length <= 100000) => ihr W v' zs' (hr.keeps (F := fun i => base <= i) ⟨hW.os, hW.tape, hW.output, hW.size, fun k _ hk => hW.block k (by omega)⟩ (fun x h => by have := hx x (by simp [items_node, h]); omega)) hF'.2.2.2.2 (fun x h => hx x (by simp [items_node, h])) (Nat.le_trans hw hW.size) hG' hn')
   have hml : (metX lo hi l.items).length <= l.items.length := by unfold metX; rw [List.length_map]; exact List.length_filter_le _ _
   clear ihl ihr hN hl hr hx hG hg
   show Calls _ _ #[.pointer (some ⟨b, 0, none⟩), _, _, _] _ _
   go_enter Tryz.func275, Tryz.ntmps275
   go_wp2
   go_quiet (fail)
   generalize hW0 : w.drewN nq = W0
   have HB0 : Hid (Below base w W0) := by unfold Hid; rw [<- hW0]; exact (below_drewN w nq).mono hw
   have HG0 : Hid (GathI W0 base bs bv bo lo hi v zs) := by unfold Hid; rw [<- hW0]; exact (uh HG).below (below_drewN w nq)
   clear hW0 HG
   go_wp2
   have cc := ((uh HB0).cell (p := ⟨b, 4, none⟩) hb).trans c4
   have HC := zh (uh HL W0.drew ((uh HB0).trans ((below_drew W0).mono (Nat.le_trans hw (uh HB0).size))) ((uh HG0).below (below_drew W0)))
   have cv := cell_of_one (uh HG0).fn
   go_region_held3 (fun x => x.cell? ⟨bv, 0, none⟩ = some (.func (.func 275) #[] #[.pointer (some ⟨bs, 0, none⟩), .pointer (some ⟨bv, 0, none⟩), .pointer (some ⟨bo, 0, none⟩)]) /\ x.cell? ⟨b, 4, none⟩ = some l.ptr)
    (first | exact ⟨cv, cc⟩ | exact ⟨cell_of_one (GathI.fn (by assumption)), (Below.cell (w := W0.drew) (by assumption) hb).trans cc⟩)
    (first | (go_at_call 275; refine (uh HC).mono ?_; rintro e W1 ⟨rfl, ⟨vW1, hGW1⟩, hBW1⟩))
   rename_i hh
   clear hh cv cc
   have HB1 := zh (((uh HB0).trans ((below_drew W0).mono (Nat.le_trans hw (uh HB0).size))).trans hBW1)
   have HG1 := zh hGW1
   have g1' := hGW1.cells.2
   have g0' := hGW1.cells.1
   have d1 := ((uh HB1).cell (p := ⟨b, 1, none⟩) hb).trans c1
   have d2 := ((uh HB1).cell (p := ⟨b, 2, none⟩) hb).trans c2
   clear HL HC HB0 HG0 hGW1 hBW1 g0 g1 c3 c4
   by_cases h2 : hi <= e.lo
   ·have E := zh (met_left lo hi b e last l r hF h2)
    clear HR hF
    go_wp2
    go_quiet (fail)
    go_wp2
    (try simp only [Exit.inBlock, Exit.then])
    refine bodyPost_ret (results_none rfl _ _ _) rfl ?_
    exact ⟨rfl, ⟨vW1, by rw [uh E]; exact (uh HG1).below (below_drewN _ _)⟩, (uh HB1).trans ((below_drewN _ _).mono (Nat.le_trans hw (uh HB1).size))⟩
   ·go_wp2
    go_quiet (fail)
    generalize hW2 : W1.drewN nq = W2
    have HB2 : Hid (Below base w W2) := by unfold Hid; rw [<- hW2]; exact (uh HB1).trans ((below_drewN _ _).mono (Nat.le_trans hw (uh HB1).size))
    have HG2 : Hid (GathI W2 base bs bv bo lo hi vW1 (zs ++ metX lo hi l.items)) := by unfold Hid; rw [<- hW2]; exact (uh HG1).below (below_drewN _ _)
    have e0 := (uh HG2).cells.1
    have e2 := ((uh HB2).cell (p := ⟨b, 2, none⟩) hb).trans c2
    clear hW2 HG1 HB1 d1 d2 g0' g1'
    by_cases h3 : lo < e.hi
    ·have E := zh (met_in lo hi b e last l r hF hlh (by omega) h3)
     clear hF
     go_wp2
     go_quiet (fail)
     generalize hW3 : W2.drewN nq = W3
     have HB3 : Hid (Below base w W3) := by unfold Hid; rw [<- hW3]; exact (uh HB2).trans ((below_drewN _ _).mono (Nat.le_trans hw (uh HB2).size))
     have HG3 : Hid (GathI W3 base bs bv bo lo hi vW1 (zs ++ metX lo hi l.items)) := by unfold Hid; rw [<- hW3]; exact (uh HG2).below (below_drewN _ _)
     have e1 := ((uh HB3).cell (p := ⟨b, 0, none⟩) hb).trans c0
     have eo := cell_of_one (uh HG3).o
     have fo := free_of_one (uh HG3).o
     clear hW3 HG2 HB2 e0 e2
     obtain ⟨zz, hzz⟩ : ∃ zz, zz = zs ++ metX lo hi l.items := ⟨_, rfl⟩
     have hzl : zz.length + 1 + r.items.length <= 100000 := by rw [hzz, List.length_append]; omega
     have HZ := zh hzz
     have HZ2 : Hid (zs ++ (metX lo hi l.items ++ [e.id] ++ metX lo hi r.items) = zz ++ [e.id] ++ metX lo hi r.items) := by unfold Hid; rw [hzz]; simp
     rw [<- hzz] at HG3
     clear hzz
     have hbW : base <= W3.heap.size := Nat.le_trans hw (uh HB3).size
     have S0 : Hid (OutS bo b vW1 e.id W3 W3.drew) := ⟨eo, e1, ⟨rfl, rfl, rfl, Nat.le_refl _, fun _ _ _ => rfl⟩⟩
     obtain ⟨_, _, _, _, _, a6⟩ := (uh HG3).apart
     have a7 : vW1.ownBlock ≠ some b := fun q => by have := ((uh HG3).row.lt b q).1; omega
     go_wp2
     refine wp_region_tail (fun x => x.cell? ⟨bo, 0, none⟩ = some vW1 /\ x.cell? ⟨b, 0, none⟩ = some (.int .i64 e.id) /\ W3.grownBy x vW1.ownBlock) 7 (by kernel_rfl) (by kernel_rfl) (uh S0) (fun hHeld => ?_)
     refine takeH 0 (h := ?_)
     try simp only [Act.put, sI, sZ, sS]
     refine takeH 1 (h := ?_)
     try simp only [Act.put, sI, sZ, sS]
     refine takeH 2 (h := ?_)
     try simp only [Act.put, sI, sZ, sS]
     refine takeH 3 (h := ?_)
     try simp only [Act.put, sI, sZ, sS]
     refine takeH 4 (h := ?_)
     try simp only [Act.put, sI, sZ, sS]
     refine wpAnyH_ready (rs := [5]) (by kernel_rfl) (by simp) ?_
     refine AllReadyH.cons (o := ?bo1_1) ?bh1_1 (fun K hK => ?bs1_1) ?bm1_1
     case bh1_1 => (simp only [gA, gZ, gS]; rfl)
     case bs1_1 =>
      go_simp
      refine hK.out _ _ (OutS.alloc (uh S0) _) (fun hHeld2 => ?_)
      clear hK K
      try simp only [Act.put, sI, sZ, sS]
      refine wpAnyH_ready (rs := [6]) (by kernel_rfl) (by simp) ?_
      refine AllReadyH.cons (o := ?bo2_1) ?bh2_1 (fun K hK => ?bs2_1) ?bm2_1
      case bh2_1 => (simp only [gA, gZ, gS]; rfl)
      case bs2_1 =>
       refine step_appI _ (by rfl) (.tmp 39) (.tmp 44) (by rfl) base _ _ zz [e.id] (by rfl) ((ownsRow_carry (uh HG3).row (below_drew W3)).alloc _) (by rfl) (.inr ⟨W3.heap.size, 0, 1, rfl, fun t ht => ?st⟩) (by simp; omega) (by simp; omega) ?_
       case st =>
        obtain rfl : t = 0 := by simp at ht; omega
        simp
       intro v' n1 k1 k2
       refine hK.out _ _ (OutS.grown (OutS.alloc (uh S0) _) k2 a6 a7 (fun k q => q)) (fun hHeld3 => ?_)
       clear hK K
       try simp only [Act.put, sI, sZ, sS]
       refine wpAnyH_done (by kernel_rfl) ?_ _
       show wpList _ _ _ _ _ _
       have hgr := hHeld3.2.2
       have ob := (hgr.block bo (lt_of_cell eo) (fun q => a6 q.symm)).trans (uh HG3).o
       have HG4 := zh ((uh HG3).more k1 hgr (own_apart k1 ob))
       have oc := cell_of_one ob
       have of := free_of_one ob
       have HB4 : Hid (Below base w (n1.setCell ⟨bo, 0, none⟩ v')) := ((uh HB3).trans (Below.grown (Below.refl base W3) hgr hbW (fun k q => ((uh HG3).row.lt k q).1))).setCell ho _
       obtain ⟨ad, cp, rfl⟩ := row_slice k1
       clear k1 k2 hgr ob hHeld hHeld2 hHeld3 S0 HB3 HG3 eo fo e1 a6 a7
       generalize hX : n1.setCell ⟨bo, 0, none⟩ (.slice ad (zz ++ [e.id]).length cp) = W5 at HG4 HB4
       have HX := zh hX
       clear hX
       generalize (zz ++ [e.id]).length = ln at HX ⊢
       go_wp2
       rw [uh HX]
       have cc := ((uh HB4).cell (p := ⟨b, 5, none⟩) hb).trans c5
       have HC := zh (uh HR W5.drew ((uh HB4).trans ((below_drew W5).mono (Nat.le_trans hw (uh HB4).size))) _ _ ((uh HG4).below (below_drew W5)) (by simp; omega))
       have cv := cell_of_one (uh HG4).fn
       go_region_held3 (fun x => x.cell? ⟨bv, 0, none⟩ = some (.func (.func 275) #[] #[.pointer (some ⟨bs, 0, none⟩), .pointer (some ⟨bv, 0, none⟩), .pointer (some ⟨bo, 0, none⟩)]) /\ x.cell? ⟨b, 5, none⟩ = some r.ptr)
        (first | exact ⟨cv, cc⟩ | exact ⟨cell_of_one (GathI.fn (by assumption)), (Below.cell (w := W5.drew) (by assumption) hb).trans cc⟩)
        (first | (go_at_call 275; refine (uh HC).mono ?_; rintro e Y ⟨rfl, ⟨vY, hGY⟩, hBY⟩))
       rename_i hh
       clear hh cv cc
       go_wp2
       (try simp only [Exit.inBlock, Exit.then])
       refine bodyPost_end (results_none rfl _ _ _) rfl ?_
       exact ⟨rfl, ⟨vY, by rw [uh E, uh HZ2]; simpa using hGY⟩, ((uh HB4).trans ((below_drew W5).mono (Nat.le_trans hw (uh HB4).size))).trans hBY⟩
      exact AllReadyH.nil
     exact AllReadyH.nil
    ·have E := zh (met_out lo hi b e last l r (by omega))
     clear hF
     go_wp2
     go_quiet (fail)
     generalize hW3 : W2.drewN nq = W3
     have HB3 : Hid (Below base w W3) := by unfold Hid; rw [<- hW3]; exact (uh HB2).trans ((below_drewN _ _).mono (Nat.le_trans hw (uh HB2).size))
     have HG3 : Hid (GathI W3 base bs bv bo lo hi vW1 (zs ++ metX lo hi l.items)) := by unfold Hid; rw [<- hW3]; exact (uh HG2).below (below_drewN _ _)
     clear hW3 HG2 HB2 e0 e2
     go_wp2
     have cc := ((uh HB3).cell (p := ⟨b, 5, none⟩) hb).trans c5
     have HC := zh (uh HR W3.drew ((uh HB3).trans ((below_drew W3).mono (Nat.le_trans hw (uh HB3).size))) _ _ ((uh HG3).below (below_drew W3)) (by simp; omega))
     have cv := cell_of_one (uh HG3).fn
     go_region_held3 (fun x => x.cell? ⟨bv, 0, none⟩ = some (.func (.func 275) #[] #[.pointer (some ⟨bs, 0, none⟩), .pointer (some ⟨bv, 0, none⟩), .pointer (some ⟨bo, 0, none⟩)]) /\ x.cell? ⟨b, 5, none⟩ = some r.ptr)
      (first | exact ⟨cv, cc⟩ | exact ⟨cell_of_one (GathI.fn (by assumption)), (Below.cell (w := W3.drew) (by assumption) hb).trans cc⟩)
      (first | (go_at_call 275; refine (uh HC).mono ?_; rintro e Y ⟨rfl, ⟨vY, hGY⟩, hBY⟩))
     rename_i hh
     clear hh cv cc
     go_wp2
     (try simp only [Exit.inBlock, Exit.then])
     refine bodyPost_end (results_none rfl _ _ _) rfl ?_
     exact ⟨rfl, ⟨vY, by rw [uh E]; simpa using hGY⟩, ((uh HB3).trans ((below_drew W3).mono (Nat.le_trans hw (uh HB3).size))).trans hBY⟩
def sortedI (zs : List Int) : List Int := zs.mergeSort fun x y => decide (x <= y)
theorem sortedI_length (zs : List Int) : (sortedI zs).length = zs.length := List.length_mergeSort zs
theorem sort_ints (zs : List Int) (v : Value) (w : World) (base : Nat) (hlen : zs.length < 1099511627776) (hown : w.ownsRow base 3 1 v zs.length (zs.map (Value.int .i64))) :
  Calls Tryz.prog 112 #[v] w fun e w' => e = .returned (.tuple #[]) /\ w'.ownsRow base 3 1 v (sortedI zs).length ((sortedI zs).map (Value.int .i64)) /\ w.grownBy w' v.ownBlock := by
 rcases hown.2 with ⟨rfl, h0⟩ | ⟨g, cap, cur, rfl, hbg, hg, hnc, hcm, hcs, htake⟩
 ·have hz : zs = [] := List.eq_nil_of_length_eq_zero h0
  subst hz
  have hcon := Any.slices_Sort_int_none Tryz.lays189 none 0 w
  change Calls Tryz.prog 112 _ _ _ at hcon
  refine hcon.mono ?_
  rintro e w' ⟨rfl, rfl⟩
  exact ⟨rfl, by simpa [sortedI] using hown, ⟨rfl, rfl, rfl, Nat.le_refl _, fun _ _ _ => rfl⟩⟩
 ·have hH : Go.Sort.Holds (Value.int .i64) w g 0 zs.toArray := holds_of_blockI hg (by simpa using htake)
  have hcon := Any.slices_Sort_int Tryz.lays189 g 0 cap zs w hH (Array.getElem?_eq_some_iff.1 hg).1 (by omega)
  change Calls Tryz.prog 112 _ _ _ at hcon
  refine hcon.mono ?_
  rintro e w' ⟨rfl, n, os, rfl⟩
  refine ⟨rfl, ?_, grownBy_sortedI _⟩
  have := ownsRow_sortedI (n := n) (os := os) (ts := sortedI zs) (sortedI_length zs) hbg hg hnc hcm hcs
  rw [sortedI_length]
  exact this
theorem met_sorted {L : List Ent} {X : List (Nat × Ent)} (h : Both L X) (hr : Rising L) (lo hi : Int) (hR : rightB lo hi = true) : sortedI (metX lo hi X) = meetsT L lo hi := by
 unfold meetsT
 rw [if_pos hR]
 refine sorted_one _ _ ((List.mergeSort_perm _ _).trans (both_met h lo hi).symm) ?_ ?_
 ·have := List.pairwise_mergeSort (le := fun x y : Int => decide (x <= y)) (fun a b c h1 h2 => by simp at *; omega) (fun a b => by simp; omega) (metX lo hi X)
  exact this.imp (fun h => by simpa using h)
 ·exact (met_rises L hr (meetB lo hi)).imp (fun h => by omega)
theorem tree_Meets (L : List Ent) (B : Nat) (F : Nat -> Prop) (lo hi : Int) (w : World) (h : PT w B L F) :
  Calls Tryz.prog 266 #[.pointer (some ⟨B, 1, none⟩), .agg #[.int .i64 lo, .int .i64 hi]] w (GivesI (meetsT L lo hi) w) := by
 obtain ⟨mv, X, hP⟩ := h
 have HR := zh (fun W => span_Right lo hi W)
 have hB0 := below_box w (.cells #[.int .i64 lo, .int .i64 hi] 79)
 by_cases h2 : rightB lo hi = true
 ·rw [h2] at HR
  have HE := zh (met_sorted hP.both hP.rising lo hi h2)
  have hlh := right_lt h2
  have hB := hP.lt B hP.fB
  have HP := zh hP
  have hl : X.length <= 4000 := by rw [hP.length]; exact hP.len
  have HBX : Hid (∀ W, W = (w.alloc (.cells #[.int .i64 lo, .int .i64 hi] 79)).alloc (.cells #[.int .i64 lo, .int .i64 hi] 79) -> Below w.heap.size w W /\ W.heap[w.heap.size]? = some (.cells #[.int .i64 lo, .int .i64 hi] 79 (0, 0)) /\ w.heap.size < W.heap.size) := fun W hW => by
   rw [hW]
   exact ⟨hB0.trans ((below_box _ _).mono (by simp)), ((below_box _ _).block _ (by simp)).trans (heap_alloc_new _ _), by simp; omega⟩
  clear hP h2
  go_enter Tryz.func266, Tryz.ntmps266
  go_wp2_with (go_at_call 98; refine (uh HR _).mono ?_; rintro e W ⟨rfl, hW⟩; have BW := zh (uh HBX _ hW); clear hW)
  generalize hX : (W.alloc (.cells #[.slice none 0 0] 89)).alloc (.cells #[(.func (.func 275) #[] #[.pointer (some ⟨w.heap.size, 0, none⟩), .pointer (some ⟨W.heap.size + 1, 0, none⟩), .pointer (some ⟨W.heap.size, 0, none⟩)])] 332) = Y
  have hsW := (uh BW).1.size
  have HY : Hid (Below w.heap.size w Y) := by unfold Hid; rw [<- hX]; exact ((uh BW).1.alloc hsW _).alloc (by simp; omega) _
  have HG : Hid (GathI Y w.heap.size w.heap.size (W.heap.size + 1) W.heap.size lo hi (.slice none 0 0) []) := by
   unfold Hid
   rw [<- hX]
   refine ⟨?_, ?_, ?_, by simpa using World.ownsRow_nil _ _ _ _⟩
   ·rw [(below_box _ _).block _ (by have := (uh BW).2.2; simp; omega), (below_box _ _).block _ (uh BW).2.2]
    exact (uh BW).2.1
   ·have := heap_alloc_new (W.alloc (.cells #[.slice none 0 0] 89)) (.cells #[(.func (.func 275) #[] #[.pointer (some ⟨w.heap.size, 0, none⟩), .pointer (some ⟨W.heap.size + 1, 0, none⟩), .pointer (some ⟨W.heap.size, 0, none⟩)])] 332)
    simpa using this
   ·rw [(below_box _ _).block _ (by simp)]
    exact heap_alloc_new W _
  clear hX
  have hYs := (uh HY).size
  have HYD := zh ((uh HY).trans ((below_drew Y).mono hYs))
  have cv := cell_of_one (uh HG).fn
  have d1 := ((uh HY).cell (p := ⟨B, 2, none⟩) hB).trans (uh HP).c1
  have HC := zh (visit_met w.heap.size w.heap.size (W.heap.size + 1) W.heap.size lo hi hlh zr (by omega) hsW (linkT X) Y.drew (.slice none 0 0) []
   ((uh HP).lies.keeps (Keeps.of_below (fun _ => False) (uh HYD) zr) (fun _ _ f => f)) (uh HP).fine (fun x hx => ((uh HP).lies.at x hx).lt) hYs ((uh HG).below (below_drew Y)) (by rw [items_link]; simp; omega))
  go_region_held3 (fun x => x.cell? ⟨W.heap.size + 1, 0, none⟩ = some (.func (.func 275) #[] #[.pointer (some ⟨w.heap.size, 0, none⟩), .pointer (some ⟨W.heap.size + 1, 0, none⟩), .pointer (some ⟨W.heap.size, 0, none⟩)]) /\ x.cell? ⟨B, 2, none⟩ = some (linkT X).ptr)
   (first | exact ⟨cv, d1⟩ | exact ⟨cell_of_one (GathI.fn (by assumption)), (Below.cell (w := Y.drew) (by assumption) hB).trans d1⟩)
   (first | (go_at_call 275; refine (uh HC).mono ?_; rintro e Z ⟨rfl, ⟨vZ, hGZ⟩, hBZ⟩))
  rename_i hh
  rw [List.nil_append, items_link] at hGZ
  obtain ⟨ad, cp, rfl⟩ := row_slice hGZ.row
  have HGZ := zh hGZ
  have HBZ := zh ((uh HYD).trans hBZ)
  have eo := cell_of_one hGZ.o
  have hml : (metX lo hi X).length <= X.length := by unfold metX; rw [List.length_map]; exact List.length_filter_le _ _
  have a6 := hGZ.apart.2.2.2.2.2
  have HSO := zh (sort_ints (metX lo hi X) _ Z w.heap.size (by omega) hGZ.row)
  rw [uh HE] at HSO
  clear hh hGZ hBZ HC cv d1 HG
  go_wp2_with (go_at_call 112; refine (uh HSO).mono ?_; rintro e V ⟨rfl, rowV, gV⟩; have eo2 := cell_of_one ((gV.block W.heap.size (lt_of_block (uh HGZ).o) (fun q => a6 q.symm)).trans (uh HGZ).o))
  go_ret
  exact ⟨_, rfl, rowV, (uh HBZ).grown gV (uh HBZ).size (fun k q => ((uh HGZ).row.lt k q).1)⟩
 ·have h2' : rightB lo hi = false := by simpa using h2
  have E : Hid (meetsT L lo hi = []) := by unfold Hid meetsT; rw [if_neg h2]
  rw [h2'] at HR
  clear hP h2 h2'
  go_enter Tryz.func266, Tryz.ntmps266
  go_wp2_with (go_at_call 98; refine (uh HR _).mono ?_; rintro e W ⟨rfl, rfl⟩)
  go_ret
  exact ⟨_, rfl, by rw [uh E]; exact World.ownsRow_nil _ _ _ _, hB0.trans ((below_box _ _).mono (by simp))⟩
theorem wrap64_is (x : Int) : wrap64 x = IntKind.i64.wrap x := by
 unfold wrap64
 rw [IntKind.wrap_i64]
end Go.Proofs.YtbmkmfoaoganeaaGreatDoor
