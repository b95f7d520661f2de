/- Who has a time of a span, in the program's tree: the closure that goes through it: walked. -/
import Derived.Test.YtfcmkaiocnelgaaPtO
import Derived.Test.YtfcmkaiocnelgaaTrB
namespace Go.Proofs.Ytfcmkaiocnelgaa
open Go.RowKit Go.Maps

/-- What the closure finds, and leaves. -/
structure GathI (w : World) (base bs bv bo : Nat) (lo hi : Int) (v : Value) (zs : List Int) : Prop where
  s : w.heap[bs]? = some (.cells #[.int .i64 lo, .int .i64 hi] 23 (0, 0))
  fn : w.heap[bv]? = some (.cells #[.func (.func 50) #[] #[.pointer (some ⟨bs, 0, none⟩), .pointer (some ⟨bv, 0, none⟩), .pointer (some ⟨bo, 0, none⟩)]] 84 (0, 0))
  o : w.heap[bo]? = some (.cells #[v] 28 (0, 0))
  row : w.ownsRow base 3 1 v zs.length (zs.map (Value.int .i64))

theorem own_block {w : World} {base : Nat} {v : Value} {n : Nat} {e : TypeId} {xs : List Value} (h : w.ownsRow base e 1 v n xs) (k : Nat) (hk : v.ownBlock = some k) : ∃ cur, w.heap[k]? = some (.cells cur e (0, 0)) := by
  rcases h.2 with ⟨rfl, _⟩ | ⟨g, cap, cur, rfl, hg, hh, _⟩
  · cases hk
  · cases hk
    exact ⟨cur, hh⟩

theorem GathI.apart {w : World} {base bs bv bo : Nat} {lo hi : Int} {v : Value} {zs : List Int} (h : GathI w base bs bv bo lo hi v zs) : bs ≠ bv ∧ bs ≠ bo ∧ bv ≠ bo ∧ v.ownBlock ≠ some bs ∧ v.ownBlock ≠ some bv ∧ v.ownBlock ≠ some bo := by
  refine ⟨fun e => ?_, fun e => ?_, fun e => ?_, fun e => ?_, fun e => ?_, fun e => ?_⟩
  · have := h.s
    rw [e, h.fn] at this
    simp at this
  · have := h.s
    rw [e, h.o] at this
    simp at this
  · have := h.fn
    rw [e, h.o] at this
    simp at this
  · obtain ⟨cur, hc⟩ := own_block h.row bs e
    rw [h.s] at hc
    simp at hc
  · obtain ⟨cur, hc⟩ := own_block h.row bv e
    rw [h.fn] at hc
    simp at hc
  · obtain ⟨cur, hc⟩ := own_block h.row bo e
    rw [h.o] at hc
    simp at hc

theorem GathI.below {w w' : World} {base bs bv bo : Nat} {lo hi : Int} {v : Value} {zs : List Int} (h : GathI w base bs bv bo lo hi v zs) (hb : Below w.heap.size w w') : GathI w' base bs bv bo lo hi v zs :=
  ⟨(hb.block bs (lt_of_block h.s)).trans h.s, (hb.block bv (lt_of_block h.fn)).trans h.fn, (hb.block bo (lt_of_block h.o)).trans h.o, ownsRow_carry h.row hb⟩

theorem GathI.more {w wn : World} {base bs bv bo : Nat} {lo hi : Int} {v v' : Value} {zs ys : List Int} (h : GathI w base bs bv bo lo hi v zs) (hr : wn.ownsRow base 3 1 v' ys.length (ys.map (Value.int .i64))) (hg : w.grownBy wn v.ownBlock) (hb : v'.ownBlock ≠ some bo) :
    GathI (wn.setCell ⟨bo, 0, none⟩ v') base bs bv bo lo hi v' ys := by
  obtain ⟨a1, a2, a3, a4, a5, a6⟩ := h.apart
  refine ⟨?_, ?_, one_setCell ((hg.block bo (lt_of_block h.o) (fun e => a6 e.symm)).trans h.o), ownsRow_setCell_other hr hb _⟩
  · rw [Below.heap_setCell _ _ _ _ (by exact a2)]
    exact (hg.block bs (lt_of_block h.s) (fun e => a4 e.symm)).trans h.s
  · rw [Below.heap_setCell _ _ _ _ (by exact a3)]
    exact (hg.block bv (lt_of_block h.fn) (fun e => a5 e.symm)).trans h.fn

/-- The row's block is none of a block that is no row of numbers. -/
theorem own_apart {wn : World} {base bo : Nat} {v' : Value} {zs : List Int} {u : Value} (hr : wn.ownsRow base 3 1 v' zs.length (zs.map (Value.int .i64))) (h : wn.heap[bo]? = some (.cells #[u] 28 (0, 0))) : v'.ownBlock ≠ some bo := fun e => by
  obtain ⟨cur, hc⟩ := own_block hr bo e
  rw [h] at hc
  simp at hc

theorem GathI.cells {w : World} {base bs bv bo : Nat} {lo hi : Int} {v : Value} {zs : List Int} (h : GathI w base bs bv bo lo hi v zs) : w.cell? ⟨bs, 0, none⟩ = some (.int .i64 lo) ∧ w.cell? ⟨bs, 1, none⟩ = some (.int .i64 hi) := by
  constructor
  · simp [World.cell?, h.s]
  · simp [World.cell?, h.s]

theorem below_drewN (w : World) (n : Nat) : Below w.heap.size w (w.drewN n) := ⟨rfl, rfl, rfl, Nat.le_refl _, fun _ _ => rfl⟩

/-- What holds while one more is appended. -/
def OutS (bo b : Nat) (v : Value) (i : Int) (W x : World) : Prop := x.cell? ⟨bo, 0, none⟩ = some v ∧ x.cell? ⟨b, 0, none⟩ = some (.int .i64 i) ∧ W.grownBy x v.ownBlock

theorem OutS.grown {bo b : Nat} {v : Value} {i : Int} {W x y : World} {row : Option Nat} (h : OutS bo b v i W x) (hg : x.grownBy y row) (h1 : row ≠ some bo) (h2 : row ≠ some b) (h3 : ∀ k, row = some k → v.ownBlock = some k) : OutS bo b v i W y := by
  obtain ⟨a1, a2, a3⟩ := h
  refine ⟨(World.cell?_of_block (w := x) (a := ⟨bo, 0, none⟩) (hg.block bo (lt_of_cell a1) (fun e => h1 e.symm))).trans a1, (World.cell?_of_block (w := x) (a := ⟨b, 0, none⟩) (hg.block b (lt_of_cell a2) (fun e => h2 e.symm))).trans a2, ?_⟩
  exact ⟨hg.os.trans a3.os, hg.tape.trans a3.tape, hg.output.trans a3.output, Nat.le_trans a3.size hg.size, fun k hk hr => (hg.block k (Nat.lt_of_lt_of_le hk a3.size) (fun e => hr (h3 k e.symm).symm)).trans (a3.block k hk hr)⟩

theorem OutS.alloc {bo b : Nat} {v : Value} {i : Int} {W x : World} (h : OutS bo b v i W x) (o : Obj) : OutS bo b v i W (x.alloc o) := h.grown (World.grownBy_alloc x o none) (by simp) (by simp) (by simp)

/-- What the closure tells. -/
def Met (base bs bv bo : Nat) (lo hi : Int) (zs : List Int) (T : Tr) (w : World) (e : Ending) (w' : World) : Prop :=
  e = .returned (.tuple #[]) ∧ (∃ v, GathI w' base bs bv bo lo hi v (zs ++ metX lo hi T.items)) ∧ Below base w w'

set_option maxRecDepth 100000 in
set_option maxHeartbeats 4000000 in
theorem visit_met (base bs bv bo : Nat) (lo hi : Int) (hlh : lo < hi) (_hs : base ≤ bs) (_hv : base ≤ bv) (ho : base ≤ bo) : ∀ (T : Tr) (w : World) (v : Value) (zs : List Int), T.Lies w → T.Fine → (∀ x, x ∈ T.items → x.1 < base) → base ≤ w.heap.size → GathI w base bs bv bo lo hi v zs → zs.length + T.items.length ≤ 100000 →
    Calls Try.prog 50 #[T.ptr, .pointer (some ⟨bs, 0, none⟩), .pointer (some ⟨bv, 0, none⟩), .pointer (some ⟨bo, 0, none⟩)] w (Met base bs bv bo lo hi zs T w) := by
  intro T
  induction T using Tr.ind with
  | nil =>
    intro w v zs _ _ _ _ hG _
    have HG := hide hG
    clear hG
    rw [ptr_nil]
    go_enter Try.func50, Try.ntmps50
    go_wp2
    go_quiet (fail)
    go_wp2
    (try simp only [Exit.inBlock, Exit.then])
    refine bodyPost_ret (results_none rfl _ _ _) rfl ?_
    exact ⟨rfl, ⟨v, by rw [items_nil, show metX lo hi [] = [] from rfl, List.append_nil]; exact (unhide HG).below (below_drewN w _)⟩, ⟨rfl, rfl, rfl, Nat.le_refl _, fun _ _ => rfl⟩⟩
  | node b e last l r ihl ihr =>
    intro w v zs hT hF hx hw hG hn
    rw [lies_node] at hT
    obtain ⟨hN, hl, hr⟩ := hT
    have HF := hide hF
    have hb : b < base := hx (b, e) (by simp [items_node])
    have c0 := hN.c0
    have c1 := hN.c1
    have c2 := hN.c2
    have c3 := hN.c3
    have c4 := hN.c4
    have c5 := hN.c5
    have hg := hG.cells
    have g0 := hg.1
    have g1 := hg.2
    have HG := hide hG
    by_cases h1 : last ≤ lo
    · have E := hide (met_pruned lo hi b e last l r hF h1)
      clear ihl ihr hN hl hr hF hx hG hg c0 c1 c2 c4 c5
      show Calls _ _ #[.pointer (some ⟨b, 0, none⟩), _, _, _] _ _
      go_enter Try.func50, Try.ntmps50
      go_wp2
      go_quiet (fail)
      go_wp2
      (try simp only [Exit.inBlock, Exit.then])
      refine bodyPost_ret (results_none rfl _ _ _) rfl ?_
      exact ⟨rfl, ⟨v, by rw [unhide E, List.append_nil]; exact (unhide HG).below (below_drewN w _)⟩, ⟨rfl, rfl, rfl, Nat.le_refl _, fun _ _ => rfl⟩⟩
    · have hF' := hF
      rw [fine_node] at hF'
      rw [items_node, List.length_append, List.length_cons] at hn
      have HL := hide (fun W (hW : Below base w W) (hG' : GathI W base bs bv bo lo hi v zs) => ihl W v zs (hl.keeps (F := fun i => base ≤ i) ⟨hW.os, hW.tape, hW.output, hW.size, fun k _ hk => hW.block k (by omega)⟩ (fun x h => by have := hx x (by simp [items_node, h]); omega)) hF'.2.2.2.1 (fun x h => hx x (by simp [items_node, h])) (Nat.le_trans hw hW.size) hG' (by omega))
      have HR := hide (fun W (hW : Below base w W) v' zs' (hG' : GathI W base bs bv bo lo hi v' zs') (hn' : zs'.length + r.items.length ≤ 100000) => ihr W v' zs' (hr.keeps (F := fun i => base ≤ i) ⟨hW.os, hW.tape, hW.output, hW.size, fun k _ hk => hW.block k (by omega)⟩ (fun x h => by have := hx x (by simp [items_node, h]); omega)) hF'.2.2.2.2 (fun x h => hx x (by simp [items_node, h])) (Nat.le_trans hw hW.size) hG' hn')
      have hml : (metX lo hi l.items).length ≤ l.items.length := by unfold metX; rw [List.length_map]; exact List.length_filter_le _ _
      clear ihl ihr hN hl hr hx hG hg
      show Calls _ _ #[.pointer (some ⟨b, 0, none⟩), _, _, _] _ _
      go_enter Try.func50, Try.ntmps50
      go_wp2
      go_quiet (fail)
      generalize hW0 : w.drewN nq = W0
      have HB0 : Hid (Below base w W0) := by unfold Hid; rw [← hW0]; exact (below_drewN w nq).mono hw
      have HG0 : Hid (GathI W0 base bs bv bo lo hi v zs) := by unfold Hid; rw [← hW0]; exact (unhide HG).below (below_drewN w nq)
      clear hW0 HG
      go_wp2
      have cc := ((unhide HB0).cell (p := ⟨b, 4, none⟩) hb).trans c4
      have HC := hide (unhide HL W0.drew ((unhide HB0).trans ((below_drew W0).mono (Nat.le_trans hw (unhide HB0).size))) ((unhide HG0).below (below_drew W0)))
      have cv := cell_of_one (unhide HG0).fn
      go_region_held3 (fun x => x.cell? ⟨bv, 0, none⟩ = some (.func (.func 50) #[] #[.pointer (some ⟨bs, 0, none⟩), .pointer (some ⟨bv, 0, none⟩), .pointer (some ⟨bo, 0, none⟩)]) ∧ x.cell? ⟨b, 4, none⟩ = some l.ptr)
        (first | exact ⟨cv, cc⟩ | exact ⟨cell_of_one (GathI.fn (by assumption)), (Below.cell (w := W0.drew) (by assumption) hb).trans cc⟩)
        (first | (go_at_call 50; refine (unhide HC).mono ?_; rintro e W1 ⟨rfl, ⟨vW1, hGW1⟩, hBW1⟩))
      rename_i hh
      clear hh cv cc
      have HB1 := hide (((unhide HB0).trans ((below_drew W0).mono (Nat.le_trans hw (unhide HB0).size))).trans hBW1)
      have HG1 := hide hGW1
      have g1' := hGW1.cells.2
      have g0' := hGW1.cells.1
      have d1 := ((unhide HB1).cell (p := ⟨b, 1, none⟩) hb).trans c1
      have d2 := ((unhide HB1).cell (p := ⟨b, 2, none⟩) hb).trans c2
      clear HL HC HB0 HG0 hGW1 hBW1 g0 g1 c3 c4
      by_cases h2 : hi ≤ e.lo
      · have E := hide (met_left lo hi b e last l r hF h2)
        clear HR hF
        go_wp2
        go_quiet (fail)
        go_wp2
        (try simp only [Exit.inBlock, Exit.then])
        refine bodyPost_ret (results_none rfl _ _ _) rfl ?_
        exact ⟨rfl, ⟨vW1, by rw [unhide E]; exact (unhide HG1).below (below_drewN _ _)⟩, (unhide HB1).trans ((below_drewN _ _).mono (Nat.le_trans hw (unhide HB1).size))⟩
      · go_wp2
        go_quiet (fail)
        generalize hW2 : W1.drewN nq = W2
        have HB2 : Hid (Below base w W2) := by unfold Hid; rw [← hW2]; exact (unhide HB1).trans ((below_drewN _ _).mono (Nat.le_trans hw (unhide HB1).size))
        have HG2 : Hid (GathI W2 base bs bv bo lo hi vW1 (zs ++ metX lo hi l.items)) := by unfold Hid; rw [← hW2]; exact (unhide HG1).below (below_drewN _ _)
        have e0 := (unhide HG2).cells.1
        have e2 := ((unhide HB2).cell (p := ⟨b, 2, none⟩) hb).trans c2
        clear hW2 HG1 HB1 d1 d2 g0' g1'
        by_cases h3 : lo < e.hi
        · have E := hide (met_in lo hi b e last l r hF hlh (by omega) h3)
          clear hF
          go_wp2
          go_quiet (fail)
          generalize hW3 : W2.drewN nq = W3
          have HB3 : Hid (Below base w W3) := by unfold Hid; rw [← hW3]; exact (unhide HB2).trans ((below_drewN _ _).mono (Nat.le_trans hw (unhide HB2).size))
          have HG3 : Hid (GathI W3 base bs bv bo lo hi vW1 (zs ++ metX lo hi l.items)) := by unfold Hid; rw [← hW3]; exact (unhide HG2).below (below_drewN _ _)
          have e1 := ((unhide HB3).cell (p := ⟨b, 0, none⟩) hb).trans c0
          have eo := cell_of_one (unhide HG3).o
          have fo := free_of_one (unhide HG3).o
          clear hW3 HG2 HB2 e0 e2
          obtain ⟨zz, hzz⟩ : ∃ zz, zz = zs ++ metX lo hi l.items := ⟨_, rfl⟩
          have hzl : zz.length + 1 + r.items.length ≤ 100000 := by rw [hzz, List.length_append]; omega
          have HZ := hide hzz
          have HZ2 : Hid (zs ++ (metX lo hi l.items ++ [e.id] ++ metX lo hi r.items) = zz ++ [e.id] ++ metX lo hi r.items) := by unfold Hid; rw [hzz]; simp
          rw [← hzz] at HG3
          clear hzz
          have hbW : base ≤ W3.heap.size := Nat.le_trans hw (unhide HB3).size
          have S0 : Hid (OutS bo b vW1 e.id W3 W3.drew) := ⟨eo, e1, ⟨rfl, rfl, rfl, Nat.le_refl _, fun _ _ _ => rfl⟩⟩
          obtain ⟨_, _, _, _, _, a6⟩ := (unhide HG3).apart
          have a7 : vW1.ownBlock ≠ some b := fun q => by have := ((unhide HG3).row.lt b q).1; omega
          go_wp2
          refine wp_region_tail (fun x => x.cell? ⟨bo, 0, none⟩ = some vW1 ∧ x.cell? ⟨b, 0, none⟩ = some (.int .i64 e.id) ∧ W3.grownBy x vW1.ownBlock) 7 (by kernel_rfl) (by kernel_rfl) (unhide S0) (fun hHeld => ?_)
          refine wpAnyH_take (i := 0) (oi := ?to0_1) (v := ?tv0_1) ?th0_1 (by kernel_rfl) (by kernel_rfl) (by kernel_rfl) ?tq0_1 (Or.inl ⟨?tw0_1, ?ty0_1⟩) (by assumption) ?tr0_1
          case th0_1 => (simp only [List.getElem?_toArray, List.getElem?_cons_zero]; rfl)
          case tq0_1 => exact fun _ _ _ h => h
          case tw0_1 => rfl
          case ty0_1 => (intro w' hSw; (try dsimp only at hSw); go_simp <;> with_reducible rfl)
          try simp only [Act.put, List.setIfInBounds_toArray, List.set_cons_zero, List.set_cons_succ]
          refine wpAnyH_take (i := 1) (oi := ?to1_1) (v := ?tv1_1) ?th1_1 (by kernel_rfl) (by kernel_rfl) (by kernel_rfl) ?tq1_1 (Or.inl ⟨?tw1_1, ?ty1_1⟩) (by assumption) ?tr1_1
          case th1_1 => (simp only [List.getElem?_toArray, List.getElem?_cons_zero, List.getElem?_cons_succ]; rfl)
          case tq1_1 => exact fun _ _ _ h => h
          case tw1_1 => rfl
          case ty1_1 => (intro w' hSw; (try dsimp only at hSw); go_simp <;> with_reducible rfl)
          try simp only [Act.put, List.setIfInBounds_toArray, List.set_cons_zero, List.set_cons_succ]
          refine wpAnyH_take (i := 2) (oi := ?to2_1) (v := ?tv2_1) ?th2_1 (by kernel_rfl) (by kernel_rfl) (by kernel_rfl) ?tq2_1 (Or.inl ⟨?tw2_1, ?ty2_1⟩) (by assumption) ?tr2_1
          case th2_1 => (simp only [List.getElem?_toArray, List.getElem?_cons_zero, List.getElem?_cons_succ]; rfl)
          case tq2_1 => exact fun _ _ _ h => h
          case tw2_1 => rfl
          case ty2_1 => (intro w' hSw; (try dsimp only at hSw); go_simp <;> with_reducible rfl)
          try simp only [Act.put, List.setIfInBounds_toArray, List.set_cons_zero, List.set_cons_succ]
          refine wpAnyH_take (i := 3) (oi := ?to3_1) (v := ?tv3_1) ?th3_1 (by kernel_rfl) (by kernel_rfl) (by kernel_rfl) ?tq3_1 (Or.inl ⟨?tw3_1, ?ty3_1⟩) (by assumption) ?tr3_1
          case th3_1 => (simp only [List.getElem?_toArray, List.getElem?_cons_zero, List.getElem?_cons_succ]; rfl)
          case tq3_1 => exact fun _ _ _ h => h
          case tw3_1 => rfl
          case ty3_1 => (intro w' hSw; (try dsimp only at hSw); go_simp <;> with_reducible rfl)
          try simp only [Act.put, List.setIfInBounds_toArray, List.set_cons_zero, List.set_cons_succ]
          refine wpAnyH_take (i := 4) (oi := ?to4_1) (v := ?tv4_1) ?th4_1 (by kernel_rfl) (by kernel_rfl) (by kernel_rfl) ?tq4_1 (Or.inl ⟨?tw4_1, ?ty4_1⟩) (by assumption) ?tr4_1
          case th4_1 => (simp only [List.getElem?_toArray, List.getElem?_cons_zero, List.getElem?_cons_succ]; rfl)
          case tq4_1 => exact fun _ _ _ h => h
          case tw4_1 => rfl
          case ty4_1 => (intro w' hSw; (try dsimp only at hSw); go_simp <;> with_reducible rfl)
          try simp only [Act.put, List.setIfInBounds_toArray, List.set_cons_zero, List.set_cons_succ]
          refine wpAnyH_ready (rs := [5]) (by kernel_rfl) (by simp) ?_
          refine AllReadyH.cons (o := ?bo1_1) ?bh1_1 (fun K hK => ?bs1_1) ?bm1_1
          case bh1_1 => (simp only [List.getElem?_toArray, List.getElem?_cons_zero, List.getElem?_cons_succ]; rfl)
          case bs1_1 =>
            go_simp
            refine hK.out _ _ (OutS.alloc (unhide S0) _) (fun hHeld2 => ?_)
            clear hK K
            try simp only [Act.put, List.setIfInBounds_toArray, List.set_cons_zero, List.set_cons_succ]
            refine wpAnyH_ready (rs := [6]) (by kernel_rfl) (by simp) ?_
            refine AllReadyH.cons (o := ?bo2_1) ?bh2_1 (fun K hK => ?bs2_1) ?bm2_1
            case bh2_1 => (simp only [List.getElem?_toArray, List.getElem?_cons_zero, List.getElem?_cons_succ]; rfl)
            case bs2_1 =>
              refine step_appI _ (by rfl) (.tmp 39) (.tmp 44) (by rfl) base _ _ zz [e.id] (by rfl) ((ownsRow_carry (unhide HG3).row (below_drew W3)).alloc _) (by rfl) (.inr ⟨W3.heap.size, 0, 1, rfl, fun t ht => ?st⟩) (by simp; omega) (by simp; omega) ?_
              case st =>
                obtain rfl : t = 0 := by simp at ht; omega
                simp
              intro v' n1 k1 k2
              refine hK.out _ _ (OutS.grown (OutS.alloc (unhide S0) _) k2 a6 a7 (fun k q => q)) (fun hHeld3 => ?_)
              clear hK K
              try simp only [Act.put, List.setIfInBounds_toArray, List.set_cons_zero, List.set_cons_succ]
              refine wpAnyH_done (by kernel_rfl) ?_ _
              show wpList _ _ _ _ _ _
              have hgr := hHeld3.2.2
              have ob := (hgr.block bo (lt_of_cell eo) (fun q => a6 q.symm)).trans (unhide HG3).o
              have HG4 := hide ((unhide HG3).more k1 hgr (own_apart k1 ob))
              have oc := cell_of_one ob
              have of := free_of_one ob
              have HB4 : Hid (Below base w (n1.setCell ⟨bo, 0, none⟩ v')) := ((unhide HB3).trans (Below.grown (Below.refl base W3) hgr hbW (fun k q => ((unhide HG3).row.lt k q).1))).setCell ho _
              obtain ⟨ad, cp, rfl⟩ := row_slice k1
              clear k1 k2 hgr ob hHeld hHeld2 hHeld3 S0 HB3 HG3 eo fo e1 a6 a7
              generalize hX : n1.setCell ⟨bo, 0, none⟩ (.slice ad (zz ++ [e.id]).length cp) = W5 at HG4 HB4
              have HX := hide hX
              clear hX
              generalize (zz ++ [e.id]).length = ln at HX ⊢
              go_wp2
              rw [unhide HX]
              have cc := ((unhide HB4).cell (p := ⟨b, 5, none⟩) hb).trans c5
              have HC := hide (unhide HR W5.drew ((unhide HB4).trans ((below_drew W5).mono (Nat.le_trans hw (unhide HB4).size))) _ _ ((unhide HG4).below (below_drew W5)) (by simp; omega))
              have cv := cell_of_one (unhide HG4).fn
              go_region_held3 (fun x => x.cell? ⟨bv, 0, none⟩ = some (.func (.func 50) #[] #[.pointer (some ⟨bs, 0, none⟩), .pointer (some ⟨bv, 0, none⟩), .pointer (some ⟨bo, 0, none⟩)]) ∧ x.cell? ⟨b, 5, none⟩ = some r.ptr)
                (first | exact ⟨cv, cc⟩ | exact ⟨cell_of_one (GathI.fn (by assumption)), (Below.cell (w := W5.drew) (by assumption) hb).trans cc⟩)
                (first | (go_at_call 50; refine (unhide HC).mono ?_; rintro e Y ⟨rfl, ⟨vY, hGY⟩, hBY⟩))
              rename_i hh
              clear hh cv cc
              go_wp2
              (try simp only [Exit.inBlock, Exit.then])
              refine bodyPost_end (results_none rfl _ _ _) rfl ?_
              exact ⟨rfl, ⟨vY, by rw [unhide E, unhide HZ2]; simpa using hGY⟩, ((unhide HB4).trans ((below_drew W5).mono (Nat.le_trans hw (unhide HB4).size))).trans hBY⟩
            exact AllReadyH.nil
          exact AllReadyH.nil
        · have E := hide (met_out lo hi b e last l r (by omega))
          clear hF
          go_wp2
          go_quiet (fail)
          generalize hW3 : W2.drewN nq = W3
          have HB3 : Hid (Below base w W3) := by unfold Hid; rw [← hW3]; exact (unhide HB2).trans ((below_drewN _ _).mono (Nat.le_trans hw (unhide HB2).size))
          have HG3 : Hid (GathI W3 base bs bv bo lo hi vW1 (zs ++ metX lo hi l.items)) := by unfold Hid; rw [← hW3]; exact (unhide HG2).below (below_drewN _ _)
          clear hW3 HG2 HB2 e0 e2
          go_wp2
          have cc := ((unhide HB3).cell (p := ⟨b, 5, none⟩) hb).trans c5
          have HC := hide (unhide HR W3.drew ((unhide HB3).trans ((below_drew W3).mono (Nat.le_trans hw (unhide HB3).size))) _ _ ((unhide HG3).below (below_drew W3)) (by simp; omega))
          have cv := cell_of_one (unhide HG3).fn
          go_region_held3 (fun x => x.cell? ⟨bv, 0, none⟩ = some (.func (.func 50) #[] #[.pointer (some ⟨bs, 0, none⟩), .pointer (some ⟨bv, 0, none⟩), .pointer (some ⟨bo, 0, none⟩)]) ∧ x.cell? ⟨b, 5, none⟩ = some r.ptr)
            (first | exact ⟨cv, cc⟩ | exact ⟨cell_of_one (GathI.fn (by assumption)), (Below.cell (w := W3.drew) (by assumption) hb).trans cc⟩)
            (first | (go_at_call 50; refine (unhide HC).mono ?_; rintro e Y ⟨rfl, ⟨vY, hGY⟩, hBY⟩))
          rename_i hh
          clear hh cv cc
          go_wp2
          (try simp only [Exit.inBlock, Exit.then])
          refine bodyPost_end (results_none rfl _ _ _) rfl ?_
          exact ⟨rfl, ⟨vY, by rw [unhide E]; simpa using hGY⟩, ((unhide HB3).trans ((below_drew W3).mono (Nat.le_trans hw (unhide HB3).size))).trans hBY⟩

end Go.Proofs.Ytfcmkaiocnelgaa
