/- Texts of one proof, one behind the other. -/
import Derived.Test.YtbloahcmakjchabGreatDoorBu
import Derived.Test.YtbloahcmakjchabGreatDoorBl
import Derived.Test.YtbloahcmakjchabGreatDoorBm
import Derived.Deep.AppendLies
import Derived.Deep.DeepCutAuto

/- A node comes to have an edge, or something by a word: walked. -/
namespace Go.Proofs.YtbloahcmakjchabGreatDoor
open Go.RowKit Go.Maps

theorem infoR : (Tryz.prog.info? 215).map (fun i => (i.zero, i.size, i.bytes)) = some (some (.agg #[.string ⟨#[]⟩, .string ⟨#[]⟩]), 2, 32) := by kernel_rfl

/-- append of one key, laid in a block of its own, at a step of a region that draws its order. -/
theorem step_appY (w : World) (t : TypeId) (k : Ky) {ops : Array Oper} {o : Oper} {a : Act} {K : Act → World → Prop} {Q : Exit → Act → World → Prop} {E : Prop} (hgd : o.guard = none) (s x : Operand)
    (ho : o.op = .call { callee := .builtin .append, args := #[s, x], argTypes := #[40, 40] })
    (v : Value) (L : List Ky) (hs : a.eval s = v) (hown : RowY w 0 v L)
    (hx : a.eval x = .slice (some ⟨w.heap.size, 0, none⟩) 1 1) (hlen : L.length ≤ 100000)
    (h : ∀ g cap w', RowY w' 0 (.slice (some ⟨g, 0, none⟩) (L.length + 1) cap) (L ++ [k]) → (w.alloc (.cells #[.int .i64 k.kind, .int .i64 k.a, .string k.word, .int .i64 k.b] t)).grownBy w' v.ownBlock → (v.ownBlock = some g ∨ g = w.heap.size + 1) → g < w'.heap.size → K (a.put o.dst (.slice (some ⟨g, 0, none⟩) (L.length + 1) cap)) w') :
    if Region.wanted o (yielded ops a.tmps) = true then Oper.wp Tryz.prog o a (w.alloc (.cells #[.int .i64 k.kind, .int .i64 k.a, .string k.word, .int .i64 k.b] t)) K Q else E := by
  obtain ⟨i0, hi0, hz0, hz1, hz2⟩ := info_parts infoY
  refine step_append_lies _ hgd s x 40 ho 0 43 i0 (.agg #[.int .i64 0, .int .i64 0, .string ⟨#[]⟩, .int .i64 0]) 4 40 Tryz.underlying40 hi0 hz0 hz1 hz2 rfl (by decide) v L.length (encYs L) hs (World.ownsRow.alloc hown _) ⟨w.heap.size, 0, none⟩ 1 1 (encY k) hx rfl ?_ ?_ (by decide) ?_ ?_ (Nat.zero_le _) (w.heap.size + 1) (by simp) ?_
  · exact World.news_of_block (heap_alloc_new w _)
  · intro u hu
    simp [encY] at hu
    rcases hu with rfl | rfl | rfl | rfl <;> rfl
  · unfold maxLen; omega
  · omega
  · intro g cap w' k1 k2 k3 k4
    refine h g cap w' ?_ k2 k3 k4
    unfold RowY
    rw [encYs_snoc]
    simpa using k1

theorem step_appR (w : World) (t : TypeId) (p : ByteArray × ByteArray) {ops : Array Oper} {o : Oper} {a : Act} {K : Act → World → Prop} {Q : Exit → Act → World → Prop} {E : Prop} (hgd : o.guard = none) (s x : Operand)
    (ho : o.op = .call { callee := .builtin .append, args := #[s, x], argTypes := #[117, 117] })
    (v : Value) (L : List (ByteArray × ByteArray)) (hs : a.eval s = v) (hown : RowR w 0 v L)
    (hx : a.eval x = .slice (some ⟨w.heap.size, 0, none⟩) 1 1) (hlen : L.length ≤ 100000)
    (h : ∀ g cap w', RowR w' 0 (.slice (some ⟨g, 0, none⟩) (L.length + 1) cap) (L ++ [p]) → (w.alloc (.cells #[.string p.1, .string p.2] t)).grownBy w' v.ownBlock → (v.ownBlock = some g ∨ g = w.heap.size + 1) → g < w'.heap.size → K (a.put o.dst (.slice (some ⟨g, 0, none⟩) (L.length + 1) cap)) w') :
    if Region.wanted o (yielded ops a.tmps) = true then Oper.wp Tryz.prog o a (w.alloc (.cells #[.string p.1, .string p.2] t)) K Q else E := by
  obtain ⟨i0, hi0, hz0, hz1, hz2⟩ := info_parts infoR
  refine step_append_lies _ hgd s x 117 ho 0 215 i0 (.agg #[.string ⟨#[]⟩, .string ⟨#[]⟩]) 2 32 Tryz.underlying117 hi0 hz0 hz1 hz2 rfl (by decide) v L.length (encRs L) hs (World.ownsRow.alloc hown _) ⟨w.heap.size, 0, none⟩ 1 1 (encR p) hx rfl ?_ ?_ (by decide) ?_ ?_ (Nat.zero_le _) (w.heap.size + 1) (by simp) ?_
  · exact World.news_of_block (heap_alloc_new w _)
  · intro u hu
    simp [encR] at hu
    rcases hu with rfl | rfl <;> rfl
  · unfold maxLen; omega
  · omega
  · intro g cap w' k1 k2 k3 k4
    refine h g cap w' ?_ k2 k3 k4
    unfold RowR
    rw [encRs_snoc]
    simpa using k1

/-- The edges' row has another value: it is stored. -/
theorem GnX.edged {w W : World} {b g cap : Nat} {d : Gn} {ev pv : Value} {k : Ky} (h : GnX w b d ev pv) (hk : Keeps (fun i => ev.ownBlock = some i) w W) (hr : RowY W 0 (.slice (some ⟨g, 0, none⟩) (d.edges.length + 1) cap) (d.edges ++ [k])) (hg : ev.ownBlock = some g ∨ w.heap.size ≤ g) :
    GnW (W.setCell ⟨b, 1, none⟩ (.slice (some ⟨g, 0, none⟩) (d.edges.length + 1) cap)) b { d with edges := d.edges ++ [k] } (gnF b (.slice (some ⟨g, 0, none⟩) (d.edges.length + 1) cap) pv) ∧ Grew w (gnF b ev pv) (gnF b (.slice (some ⟨g, 0, none⟩) (d.edges.length + 1) cap) pv) (W.setCell ⟨b, 1, none⟩ (.slice (some ⟨g, 0, none⟩) (d.edges.length + 1) cap)) := by
  have hb : b < w.heap.size := lt_of_cell h.c0
  have hk2 := keeps_set W b 1 (.slice (some ⟨g, 0, none⟩) (d.edges.length + 1) cap)
  have k0 := (hk.cell (p := ⟨b, 0, none⟩) hb h.nb1).trans h.c0
  have k1 := (hk.cell (p := ⟨b, 1, none⟩) hb h.nb1).trans h.c1
  have k2 := (hk.cell (p := ⟨b, 2, none⟩) hb h.nb1).trans h.c2
  have gb : g ≠ b := by
    rcases hg with e | e
    · exact fun q => h.nb1 (by rw [e, q])
    · omega
  have gp : pv.ownBlock ≠ some g := by
    rcases hg with e | e
    · exact h.ne g e
    · intro q
      have := (World.ownsRow.lt h.rp g q).2
      omega
  have hp1 := ownsRow_keeps h.rp hk (fun i e q => h.ne i q e)
  have obs : ∀ n c, (Value.slice (some ⟨g, 0, none⟩) n c).ownBlock = some g := fun _ _ => rfl
  refine ⟨⟨_, pv, ⟨?_, World.cell?_setCell_same _ _ _ k1, ?_, fun i => ?_, ?_, ownsRow_keeps hp1 hk2 (fun i e q => h.nb2 (by rw [e, q])), ?_, h.nb2, ?_⟩, rfl⟩, fun i hi => ?_, (hk.mono (fun i _ e => .inr (.inl e))).then hk2 (fun i _ e => .inl e)⟩
  · rw [World.cell?_setCell_other _ _ _ _ (by simp)]; exact k0
  · rw [World.cell?_setCell_other _ _ _ _ (by simp)]; exact k2
  · rw [World.frozen?_setCell]
    exact (hk.frozen (p := ⟨b, i, none⟩) hb h.nb1).trans (h.f i)
  · have := ownsRow_keeps hr hk2 (fun i e q => gb (by rw [obs] at e; cases e; exact q))
    unfold RowY
    simpa using this
  · rw [obs]; intro e; cases e; exact gb rfl
  · intro i e; rw [obs] at e; cases e; exact gp
  · rcases hi with e | e | e
    · exact .inl (.inl e)
    · rw [obs] at e
      cases e
      rcases hg with q | q
      · exact .inl (.inr (.inl q))
      · exact .inr q
    · exact .inl (.inr (.inr e))

theorem GnX.proped {w W : World} {b g cap : Nat} {d : Gn} {ev pv : Value} {p : ByteArray × ByteArray} (h : GnX w b d ev pv) (hk : Keeps (fun i => pv.ownBlock = some i) w W) (hr : RowR W 0 (.slice (some ⟨g, 0, none⟩) (d.props.length + 1) cap) (d.props ++ [p])) (hg : pv.ownBlock = some g ∨ w.heap.size ≤ g) :
    GnW (W.setCell ⟨b, 2, none⟩ (.slice (some ⟨g, 0, none⟩) (d.props.length + 1) cap)) b { d with props := d.props ++ [p] } (gnF b ev (.slice (some ⟨g, 0, none⟩) (d.props.length + 1) cap)) ∧ Grew w (gnF b ev pv) (gnF b ev (.slice (some ⟨g, 0, none⟩) (d.props.length + 1) cap)) (W.setCell ⟨b, 2, none⟩ (.slice (some ⟨g, 0, none⟩) (d.props.length + 1) cap)) := by
  have hb : b < w.heap.size := lt_of_cell h.c0
  have hk2 := keeps_set W b 2 (.slice (some ⟨g, 0, none⟩) (d.props.length + 1) cap)
  have k0 := (hk.cell (p := ⟨b, 0, none⟩) hb h.nb2).trans h.c0
  have k1 := (hk.cell (p := ⟨b, 1, none⟩) hb h.nb2).trans h.c1
  have k2 := (hk.cell (p := ⟨b, 2, none⟩) hb h.nb2).trans h.c2
  have gb : g ≠ b := by
    rcases hg with e | e
    · exact fun q => h.nb2 (by rw [e, q])
    · omega
  have gp : ev.ownBlock ≠ some g := by
    rcases hg with e | e
    · exact fun q => h.ne g q e
    · intro q
      have := (World.ownsRow.lt h.re g q).2
      omega
  have hp1 := ownsRow_keeps h.re hk (fun i e q => h.ne i e q)
  have obs : ∀ n c, (Value.slice (some ⟨g, 0, none⟩) n c).ownBlock = some g := fun _ _ => rfl
  refine ⟨⟨ev, _, ⟨?_, ?_, World.cell?_setCell_same _ _ _ k2, fun i => ?_, ownsRow_keeps hp1 hk2 (fun i e q => h.nb1 (by rw [e, q])), ?_, h.nb1, ?_, ?_⟩, rfl⟩, fun i hi => ?_, (hk.mono (fun i _ e => .inr (.inr e))).then hk2 (fun i _ e => .inl e)⟩
  · rw [World.cell?_setCell_other _ _ _ _ (by simp)]; exact k0
  · rw [World.cell?_setCell_other _ _ _ _ (by simp)]; exact k1
  · rw [World.frozen?_setCell]
    exact (hk.frozen (p := ⟨b, i, none⟩) hb h.nb2).trans (h.f i)
  · have := ownsRow_keeps hr hk2 (fun i e q => gb (by rw [obs] at e; cases e; exact q))
    unfold RowR
    simpa using this
  · rw [obs]; intro e; cases e; exact gb rfl
  · intro i e q
    rw [obs] at q
    cases q
    exact gp e
  · rcases hi with e | e | e
    · exact .inl (.inl e)
    · exact .inl (.inr (.inl e))
    · rw [obs] at e
      cases e
      rcases hg with q | q
      · exact .inl (.inr (.inr q))
      · exact .inr q

theorem there_yet' {w w' : World} {b i : Nat} {v : Value} (h : w.cell? ⟨b, i, none⟩ = some v) (hb : Below w.heap.size w w') : w'.cell? ⟨b, i, none⟩ = some v := (hb.cell (p := ⟨b, i, none⟩) (lt_of_cell h)).trans h

def PutS (b kx : Nat) (k : Ky) (ev : Value) (y : World) : Prop := y.cell? ⟨b, 1, none⟩ = some ev ∧ y.cell? ⟨kx, 0, none⟩ = some (.int .i64 k.kind) ∧ y.cell? ⟨kx, 1, none⟩ = some (.int .i64 k.a) ∧ y.cell? ⟨kx, 2, none⟩ = some (.string k.word) ∧ y.cell? ⟨kx, 3, none⟩ = some (.int .i64 k.b)
theorem PutS.carry {b kx : Nat} {k : Ky} {ev : Value} {x y : World} (h : PutS b kx k ev x) (hb : Below x.heap.size x y) : PutS b kx k ev y :=
  ⟨there_yet' h.1 hb, there_yet' h.2.1 hb, there_yet' h.2.2.1 hb, there_yet' h.2.2.2.1 hb, there_yet' h.2.2.2.2 hb⟩
theorem PutS.keeps {b kx : Nat} {k : Ky} {ev : Value} {x y : World} {H : Nat → Prop} (h : PutS b kx k ev x) (hk : Keeps H x y) (h1 : ¬ H b) (h2 : ¬ H kx) : PutS b kx k ev y :=
  ⟨(hk.cell (p := ⟨b, 1, none⟩) (lt_of_cell h.1) h1).trans h.1, (hk.cell (p := ⟨kx, 0, none⟩) (lt_of_cell h.2.1) h2).trans h.2.1, (hk.cell (p := ⟨kx, 1, none⟩) (lt_of_cell h.2.2.1) h2).trans h.2.2.1, (hk.cell (p := ⟨kx, 2, none⟩) (lt_of_cell h.2.2.2.1) h2).trans h.2.2.2.1, (hk.cell (p := ⟨kx, 3, none⟩) (lt_of_cell h.2.2.2.2) h2).trans h.2.2.2.2⟩

set_option maxRecDepth 100000 in
set_option maxHeartbeats 2000000 in
theorem gn_put_edge {w : World} {b : Nat} {d : Gn} {F : Nat → Prop} (h : GnW w b d F) (ka : Int) (kw : ByteArray) (kb : Int) (val : ByteArray) (hl : d.edges.length ≤ 100000) :
    Calls Tryz.prog 48 #[.pointer (some ⟨b, 0, none⟩), .agg #[.int .i64 2, .int .i64 ka, .string kw, .int .i64 kb], .string val] w fun e w' => e = .returned (.tuple #[]) ∧ ∃ F', GnW w' b { d with edges := d.edges ++ [⟨2, ka, kw, kb⟩] } F' ∧ Grew w F F' w' := by
  obtain ⟨ev, pv, hX, rfl⟩ := h
  have HB0 := hide (below_box w (.cells #[.int .i64 2, .int .i64 ka, .string kw, .int .i64 kb] 43))
  have HK0 := hide (boxK_new w ⟨2, ka, kw, kb⟩)
  have HX0 := hide (hX.keeps (Keeps.of_below (fun _ => False) (unhide HB0) (Nat.le_refl _)) (fun _ _ f => f))
  have hbw : b < w.heap.size := lt_of_cell hX.c0
  have c1 := (unhide HX0).c1
  have f1 := (unhide HX0).f 1
  have k0 := (unhide HK0).c0
  have k1 := (unhide HK0).c1
  have k2 := (unhide HK0).c2
  have k3 := (unhide HK0).c3
  obtain ⟨ead, ecap, rfl⟩ := row_slice hX.re
  have hnk : (Value.slice ead d.edges.length ecap).ownBlock ≠ some w.heap.size := fun e => Nat.lt_irrefl _ (World.ownsRow.lt hX.re _ e).2
  clear hX
  go_enter Tryz.func48, Tryz.ntmps48
  go_wp2
  generalize w.alloc (.cells #[.int .i64 2, .int .i64 ka, .string kw, .int .i64 kb] 43) = W0 at *
  have HS : Hid (PutS b w.heap.size ⟨2, ka, kw, kb⟩ (.slice ead d.edges.length ecap) W0.drew) := ⟨c1, k0, k1, k2, k3⟩
  refine wp_region_tail (fun x => x.cell? ⟨b, 1, none⟩ = some (.slice ead d.edges.length ecap) ∧ x.cell? ⟨w.heap.size, 0, none⟩ = some (.int .i64 2) ∧ x.cell? ⟨w.heap.size, 1, none⟩ = some (.int .i64 ka) ∧ x.cell? ⟨w.heap.size, 2, none⟩ = some (.string kw) ∧ x.cell? ⟨w.heap.size, 3, none⟩ = some (.int .i64 kb)) 8 (by kernel_rfl) (by kernel_rfl) (unhide HS) (fun hHeld => ?_)
  refine wpAnyH_take (i := 0) (oi := ?to0_1) (v := ?tv0_1) ?th0_1 (by kernel_rfl) (by kernel_rfl) (by kernel_rfl) ?tq0_1 (Or.inl ⟨?tw0_1, ?ty0_1⟩) (by assumption) ?tr0_1
  case th0_1 => (simp only [List.getElem?_toArray, List.getElem?_cons_zero]; rfl)
  case tq0_1 => exact fun _ _ _ h => h
  case tw0_1 => rfl
  case ty0_1 => (intro w' hSw; (try dsimp only at hSw); go_simp <;> with_reducible rfl)
  try simp only [Act.put, List.setIfInBounds_toArray, List.set_cons_zero, List.set_cons_succ]
  refine wpAnyH_take (i := 1) (oi := ?to1_1) (v := ?tv1_1) ?th1_1 (by kernel_rfl) (by kernel_rfl) (by kernel_rfl) ?tq1_1 (Or.inl ⟨?tw1_1, ?ty1_1⟩) (by assumption) ?tr1_1
  case th1_1 => (simp only [List.getElem?_toArray, List.getElem?_cons_zero, List.getElem?_cons_succ]; rfl)
  case tq1_1 => exact fun _ _ _ h => h
  case tw1_1 => rfl
  case ty1_1 => (intro w' hSw; (try dsimp only at hSw); go_simp <;> with_reducible rfl)
  try simp only [Act.put, List.setIfInBounds_toArray, List.set_cons_zero, List.set_cons_succ]
  refine wpAnyH_take (i := 2) (oi := ?to2_1) (v := ?tv2_1) ?th2_1 (by kernel_rfl) (by kernel_rfl) (by kernel_rfl) ?tq2_1 (Or.inl ⟨?tw2_1, ?ty2_1⟩) (by assumption) ?tr2_1
  case th2_1 => (simp only [List.getElem?_toArray, List.getElem?_cons_zero, List.getElem?_cons_succ]; rfl)
  case tq2_1 => exact fun _ _ _ h => h
  case tw2_1 => rfl
  case ty2_1 => (intro w' hSw; (try dsimp only at hSw); go_simp <;> with_reducible rfl)
  try simp only [Act.put, List.setIfInBounds_toArray, List.set_cons_zero, List.set_cons_succ]
  refine wpAnyH_take (i := 3) (oi := ?to3_1) (v := ?tv3_1) ?th3_1 (by kernel_rfl) (by kernel_rfl) (by kernel_rfl) ?tq3_1 (Or.inl ⟨?tw3_1, ?ty3_1⟩) (by assumption) ?tr3_1
  case th3_1 => (simp only [List.getElem?_toArray, List.getElem?_cons_zero, List.getElem?_cons_succ]; rfl)
  case tq3_1 => exact fun _ _ _ h => h
  case tw3_1 => rfl
  case ty3_1 => (intro w' hSw; (try dsimp only at hSw); go_simp <;> with_reducible rfl)
  try simp only [Act.put, List.setIfInBounds_toArray, List.set_cons_zero, List.set_cons_succ]
  refine wpAnyH_take (i := 4) (oi := ?to4_1) (v := ?tv4_1) ?th4_1 (by kernel_rfl) (by kernel_rfl) (by kernel_rfl) ?tq4_1 (Or.inl ⟨?tw4_1, ?ty4_1⟩) (by assumption) ?tr4_1
  case th4_1 => (simp only [List.getElem?_toArray, List.getElem?_cons_zero, List.getElem?_cons_succ]; rfl)
  case tq4_1 => exact fun _ _ _ h => h
  case tw4_1 => rfl
  case ty4_1 => (intro w' hSw; (try dsimp only at hSw); go_simp <;> with_reducible rfl)
  try simp only [Act.put, List.setIfInBounds_toArray, List.set_cons_zero, List.set_cons_succ]
  refine wpAnyH_take (i := 5) (oi := ?to5_1) (v := ?tv5_1) ?th5_1 (by kernel_rfl) (by kernel_rfl) (by kernel_rfl) ?tq5_1 (Or.inl ⟨?tw5_1, ?ty5_1⟩) (by assumption) ?tr5_1
  case th5_1 => (simp only [List.getElem?_toArray, List.getElem?_cons_zero, List.getElem?_cons_succ]; rfl)
  case tq5_1 => exact fun _ _ _ h => h
  case tw5_1 => rfl
  case ty5_1 => (intro w' hSw; (try dsimp only at hSw); go_simp <;> with_reducible rfl)
  try simp only [Act.put, List.setIfInBounds_toArray, List.set_cons_zero, List.set_cons_succ]
  refine wpAnyH_ready (rs := [6]) (by kernel_rfl) (by simp) ?_
  refine AllReadyH.cons (o := ?bo6_1) ?bh6_1 (fun K hK => ?bs6_1) ?bm6_1
  case bh6_1 => (simp only [List.getElem?_toArray, List.getElem?_cons_zero, List.getElem?_cons_succ]; rfl)
  case bm6_1 => exact AllReadyH.nil
  case bs6_1 =>
    go_simp
    refine hK.out _ _ (show PutS b w.heap.size ⟨2, ka, kw, kb⟩ (.slice ead d.edges.length ecap) (W0.drew.alloc (.cells #[.int .i64 2, .int .i64 ka, .string kw, .int .i64 kb] 43)) from (unhide HS).carry (below_box _ _)) (fun hHeld => ?_)
    clear hK K
    try simp only [Act.put, List.setIfInBounds_toArray, List.set_cons_zero, List.set_cons_succ]
    refine wpAnyH_ready (rs := [7]) (by kernel_rfl) (by simp) ?_
    refine AllReadyH.cons (o := ?bo7_1) ?bh7_1 (fun K hK => ?bs7_1) ?bm7_1
    case bh7_1 => (simp only [List.getElem?_toArray, List.getElem?_cons_zero, List.getElem?_cons_succ]; rfl)
    case bm7_1 => exact AllReadyH.nil
    case bs7_1 =>
      refine step_appY W0.drew 43 ⟨2, ka, kw, kb⟩ rfl _ _ rfl (.slice ead d.edges.length ecap) d.edges rfl ((unhide HX0).re.carry (below_drew W0)) rfl hl ?_
      intro g cap W2 r1 r2 r3 r4
      have HKD : Hid (Keeps (fun i => (Value.slice ead d.edges.length ecap).ownBlock = some i) W0.drew W2) := (Keeps.of_below _ (below_box W0.drew (.cells #[.int .i64 2, .int .i64 ka, .string kw, .int .i64 kb] 43)) (Nat.le_refl _)).then ((keeps_grown r2).mono (fun i _ e => e.symm)) (fun _ _ h => h)
      have HKW : Hid (Keeps (fun i => (Value.slice ead d.edges.length ecap).ownBlock = some i) W0 W2) := (Keeps.of_below _ (below_drew W0) (Nat.le_refl _)).then (unhide HKD) (fun _ _ h => h)
      have HSn := hide ((unhide HS).keeps (unhide HKD) (unhide HX0).nb1 hnk)
      refine hK.out _ _ (unhide HSn) (fun hHeld => ?_)
      clear hK K
      try simp only [Act.put, List.setIfInBounds_toArray, List.set_cons_zero, List.set_cons_succ]
      refine wpAnyH_done (by kernel_rfl) ?_ _
      show wpList _ _ _ _ _ _
      clear hHeld
      have fz : W2.frozen? ⟨b, 1, none⟩ = false := ((unhide HKW).frozen (p := ⟨b, 1, none⟩) (lt_of_cell (unhide HX0).c1) (unhide HX0).nb1).trans f1
      have c1' := (unhide HSn).1
      obtain ⟨q1, q2⟩ := (unhide HX0).edged (unhide HKW) r1 (r3.imp id (fun e => by rw [e]; show W0.heap.size ≤ W0.heap.size + 1; omega))
      have HQ1 := hide q1
      have HQ2 := hide (Grew.below (unhide HB0) q2)
      clear q1 q2 r1 r2 r3 HX0 HK0 c1 f1 k0 k1 k2 k3 HKW HKD HS
      go_wp2
      refine bodyPost_ret (v := .tuple #[]) (results_none rfl _ _ _) rfl ?_
      exact ⟨rfl, _, unhide HQ1, unhide HQ2⟩

def PutR (b kx : Nat) (kw : ByteArray) (pv : Value) (y : World) : Prop := y.cell? ⟨b, 2, none⟩ = some pv ∧ y.cell? ⟨kx, 2, none⟩ = some (.string kw)
theorem PutR.carry {b kx : Nat} {kw : ByteArray} {pv : Value} {x y : World} (h : PutR b kx kw pv x) (hb : Below x.heap.size x y) : PutR b kx kw pv y := ⟨there_yet' h.1 hb, there_yet' h.2 hb⟩
theorem PutR.keeps {b kx : Nat} {kw : ByteArray} {pv : Value} {x y : World} {H : Nat → Prop} (h : PutR b kx kw pv x) (hk : Keeps H x y) (h1 : ¬ H b) (h2 : ¬ H kx) : PutR b kx kw pv y :=
  ⟨(hk.cell (p := ⟨b, 2, none⟩) (lt_of_cell h.1) h1).trans h.1, (hk.cell (p := ⟨kx, 2, none⟩) (lt_of_cell h.2) h2).trans h.2⟩

set_option maxRecDepth 100000 in
set_option maxHeartbeats 2000000 in
theorem gn_put_prop {w : World} {b : Nat} {d : Gn} {F : Nat → Prop} (h : GnW w b d F) (ka : Int) (kw : ByteArray) (kb : Int) (val : ByteArray) (hl : d.props.length ≤ 100000) :
    Calls Tryz.prog 48 #[.pointer (some ⟨b, 0, none⟩), .agg #[.int .i64 3, .int .i64 ka, .string kw, .int .i64 kb], .string val] w fun e w' => e = .returned (.tuple #[]) ∧ ∃ F', GnW w' b { d with props := d.props ++ [(kw, val)] } F' ∧ Grew w F F' w' := by
  obtain ⟨ev, pv, hX, rfl⟩ := h
  have HB0 := hide (below_box w (.cells #[.int .i64 3, .int .i64 ka, .string kw, .int .i64 kb] 43))
  have HK0 := hide (boxK_new w ⟨3, ka, kw, kb⟩)
  have HX0 := hide (hX.keeps (Keeps.of_below (fun _ => False) (unhide HB0) (Nat.le_refl _)) (fun _ _ f => f))
  have hbw : b < w.heap.size := lt_of_cell hX.c0
  have c1 := (unhide HX0).c2
  have f1 := (unhide HX0).f 2
  have k0 := (unhide HK0).c0
  have k1 := (unhide HK0).c1
  have k2 := (unhide HK0).c2
  have k3 := (unhide HK0).c3
  obtain ⟨ead, ecap, rfl⟩ := row_slice hX.rp
  have hnk : (Value.slice ead d.props.length ecap).ownBlock ≠ some w.heap.size := fun e => Nat.lt_irrefl _ (World.ownsRow.lt hX.rp _ e).2
  clear hX
  go_enter Tryz.func48, Tryz.ntmps48
  go_wp2
  generalize w.alloc (.cells #[.int .i64 3, .int .i64 ka, .string kw, .int .i64 kb] 43) = W0 at *
  have HS : Hid (PutR b w.heap.size kw (.slice ead d.props.length ecap) W0.drew) := ⟨c1, k2⟩
  refine wp_region_tail (fun x => x.cell? ⟨b, 2, none⟩ = some (.slice ead d.props.length ecap) ∧ x.cell? ⟨w.heap.size, 2, none⟩ = some (.string kw)) 11 (by kernel_rfl) (by kernel_rfl) (unhide HS) (fun hHeld => ?_)
  refine wpAnyH_take (i := 0) (oi := ?to0_2) (v := ?tv0_2) ?th0_2 (by kernel_rfl) (by kernel_rfl) (by kernel_rfl) ?tq0_2 (Or.inl ⟨?tw0_2, ?ty0_2⟩) (by assumption) ?tr0_2
  case th0_2 => (simp only [List.getElem?_toArray, List.getElem?_cons_zero]; rfl)
  case tq0_2 => exact fun _ _ _ h => h
  case tw0_2 => rfl
  case ty0_2 => (intro w' hSw; (try dsimp only at hSw); go_simp <;> with_reducible rfl)
  try simp only [Act.put, List.setIfInBounds_toArray, List.set_cons_zero, List.set_cons_succ]
  refine wpAnyH_take (i := 1) (oi := ?to1_2) (v := ?tv1_2) ?th1_2 (by kernel_rfl) (by kernel_rfl) (by kernel_rfl) ?tq1_2 (Or.inl ⟨?tw1_2, ?ty1_2⟩) (by assumption) ?tr1_2
  case th1_2 => (simp only [List.getElem?_toArray, List.getElem?_cons_zero, List.getElem?_cons_succ]; rfl)
  case tq1_2 => exact fun _ _ _ h => h
  case tw1_2 => rfl
  case ty1_2 => (intro w' hSw; (try dsimp only at hSw); go_simp <;> with_reducible rfl)
  try simp only [Act.put, List.setIfInBounds_toArray, List.set_cons_zero, List.set_cons_succ]
  refine wpAnyH_take (i := 2) (oi := ?to2_2) (v := ?tv2_2) ?th2_2 (by kernel_rfl) (by kernel_rfl) (by kernel_rfl) ?tq2_2 (Or.inl ⟨?tw2_2, ?ty2_2⟩) (by assumption) ?tr2_2
  case th2_2 => (simp only [List.getElem?_toArray, List.getElem?_cons_zero, List.getElem?_cons_succ]; rfl)
  case tq2_2 => exact fun _ _ _ h => h
  case tw2_2 => rfl
  case ty2_2 => (intro w' hSw; (try dsimp only at hSw); go_simp <;> with_reducible rfl)
  try simp only [Act.put, List.setIfInBounds_toArray, List.set_cons_zero, List.set_cons_succ]
  refine wpAnyH_take (i := 3) (oi := ?to3_2) (v := ?tv3_2) ?th3_2 (by kernel_rfl) (by kernel_rfl) (by kernel_rfl) ?tq3_2 (Or.inl ⟨?tw3_2, ?ty3_2⟩) (by assumption) ?tr3_2
  case th3_2 => (simp only [List.getElem?_toArray, List.getElem?_cons_zero, List.getElem?_cons_succ]; rfl)
  case tq3_2 => exact fun _ _ _ h => h
  case tw3_2 => rfl
  case ty3_2 => (intro w' hSw; (try dsimp only at hSw); go_simp <;> with_reducible rfl)
  try simp only [Act.put, List.setIfInBounds_toArray, List.set_cons_zero, List.set_cons_succ]
  refine wpAnyH_take (i := 4) (oi := ?to4_2) (v := ?tv4_2) ?th4_2 (by kernel_rfl) (by kernel_rfl) (by kernel_rfl) ?tq4_2 (Or.inl ⟨?tw4_2, ?ty4_2⟩) (by assumption) ?tr4_2
  case th4_2 => (simp only [List.getElem?_toArray, List.getElem?_cons_zero, List.getElem?_cons_succ]; rfl)
  case tq4_2 => exact fun _ _ _ h => h
  case tw4_2 => rfl
  case ty4_2 => (intro w' hSw; (try dsimp only at hSw); go_simp <;> with_reducible rfl)
  try simp only [Act.put, List.setIfInBounds_toArray, List.set_cons_zero, List.set_cons_succ]
  refine wpAnyH_take (i := 5) (oi := ?to5_2) (v := ?tv5_2) ?th5_2 (by kernel_rfl) (by kernel_rfl) (by kernel_rfl) ?tq5_2 (Or.inl ⟨?tw5_2, ?ty5_2⟩) (by assumption) ?tr5_2
  case th5_2 => (simp only [List.getElem?_toArray, List.getElem?_cons_zero, List.getElem?_cons_succ]; rfl)
  case tq5_2 => exact fun _ _ _ h => h
  case tw5_2 => rfl
  case ty5_2 => (intro w' hSw; (try dsimp only at hSw); go_simp <;> with_reducible rfl)
  try simp only [Act.put, List.setIfInBounds_toArray, List.set_cons_zero, List.set_cons_succ]
  refine wpAnyH_take (i := 6) (oi := ?to6_2) (v := ?tv6_2) ?th6_2 (by kernel_rfl) (by kernel_rfl) (by kernel_rfl) ?tq6_2 (Or.inl ⟨?tw6_2, ?ty6_2⟩) (by assumption) ?tr6_2
  case th6_2 => (simp only [List.getElem?_toArray, List.getElem?_cons_zero, List.getElem?_cons_succ]; rfl)
  case tq6_2 => exact fun _ _ _ h => h
  case tw6_2 => rfl
  case ty6_2 => (intro w' hSw; (try dsimp only at hSw); go_simp <;> with_reducible rfl)
  try simp only [Act.put, List.setIfInBounds_toArray, List.set_cons_zero, List.set_cons_succ]
  refine wpAnyH_take (i := 7) (oi := ?to7_2) (v := ?tv7_2) ?th7_2 (by kernel_rfl) (by kernel_rfl) (by kernel_rfl) ?tq7_2 (Or.inl ⟨?tw7_2, ?ty7_2⟩) (by assumption) ?tr7_2
  case th7_2 => (simp only [List.getElem?_toArray, List.getElem?_cons_zero, List.getElem?_cons_succ]; rfl)
  case tq7_2 => exact fun _ _ _ h => h
  case tw7_2 => rfl
  case ty7_2 => (intro w' hSw; (try dsimp only at hSw); go_simp <;> with_reducible rfl)
  try simp only [Act.put, List.setIfInBounds_toArray, List.set_cons_zero, List.set_cons_succ]
  refine wpAnyH_take (i := 8) (oi := ?to8_2) (v := ?tv8_2) ?th8_2 (by kernel_rfl) (by kernel_rfl) (by kernel_rfl) ?tq8_2 (Or.inl ⟨?tw8_2, ?ty8_2⟩) (by assumption) ?tr8_2
  case th8_2 => (simp only [List.getElem?_toArray, List.getElem?_cons_zero, List.getElem?_cons_succ]; rfl)
  case tq8_2 => exact fun _ _ _ h => h
  case tw8_2 => rfl
  case ty8_2 => (intro w' hSw; (try dsimp only at hSw); go_simp <;> with_reducible rfl)
  try simp only [Act.put, List.setIfInBounds_toArray, List.set_cons_zero, List.set_cons_succ]
  refine wpAnyH_ready (rs := [9]) (by kernel_rfl) (by simp) ?_
  refine AllReadyH.cons (o := ?bo6_1) ?bh6_1 (fun K hK => ?bs6_1) ?bm6_1
  case bh6_1 => (simp only [List.getElem?_toArray, List.getElem?_cons_zero, List.getElem?_cons_succ]; rfl)
  case bm6_1 => exact AllReadyH.nil
  case bs6_1 =>
    go_simp
    refine hK.out _ _ (show PutR b w.heap.size kw (.slice ead d.props.length ecap) (W0.drew.alloc (.cells #[.string kw, .string val] 215)) from (unhide HS).carry (below_box _ _)) (fun hHeld => ?_)
    clear hK K
    try simp only [Act.put, List.setIfInBounds_toArray, List.set_cons_zero, List.set_cons_succ]
    refine wpAnyH_ready (rs := [10]) (by kernel_rfl) (by simp) ?_
    refine AllReadyH.cons (o := ?bo7_1) ?bh7_1 (fun K hK => ?bs7_1) ?bm7_1
    case bh7_1 => (simp only [List.getElem?_toArray, List.getElem?_cons_zero, List.getElem?_cons_succ]; rfl)
    case bm7_1 => exact AllReadyH.nil
    case bs7_1 =>
      refine step_appR W0.drew 215 (kw, val) rfl _ _ rfl (.slice ead d.props.length ecap) d.props rfl (ownsRow_carry (unhide HX0).rp (below_drew W0)) rfl hl ?_
      intro g cap W2 r1 r2 r3 r4
      have HKD : Hid (Keeps (fun i => (Value.slice ead d.props.length ecap).ownBlock = some i) W0.drew W2) := (Keeps.of_below _ (below_box W0.drew (.cells #[.string kw, .string val] 215)) (Nat.le_refl _)).then ((keeps_grown r2).mono (fun i _ e => e.symm)) (fun _ _ h => h)
      have HKW : Hid (Keeps (fun i => (Value.slice ead d.props.length ecap).ownBlock = some i) W0 W2) := (Keeps.of_below _ (below_drew W0) (Nat.le_refl _)).then (unhide HKD) (fun _ _ h => h)
      have HSn := hide ((unhide HS).keeps (unhide HKD) (unhide HX0).nb2 hnk)
      refine hK.out _ _ (unhide HSn) (fun hHeld => ?_)
      clear hK K
      try simp only [Act.put, List.setIfInBounds_toArray, List.set_cons_zero, List.set_cons_succ]
      refine wpAnyH_done (by kernel_rfl) ?_ _
      show wpList _ _ _ _ _ _
      clear hHeld
      have fz : W2.frozen? ⟨b, 2, none⟩ = false := ((unhide HKW).frozen (p := ⟨b, 2, none⟩) (lt_of_cell (unhide HX0).c2) (unhide HX0).nb2).trans f1
      have c1' := (unhide HSn).1
      obtain ⟨q1, q2⟩ := (unhide HX0).proped (unhide HKW) r1 (r3.imp id (fun e => by rw [e]; show W0.heap.size ≤ W0.heap.size + 1; omega))
      have HQ1 := hide q1
      have HQ2 := hide (Grew.below (unhide HB0) q2)
      clear q1 q2 r1 r2 r3 HX0 HK0 c1 f1 k0 k1 k2 k3 HKW HKD HS
      go_wp2
      (try simp only [Exit.inBlock, Exit.then])
      refine bodyPost_end (results_none rfl _ _ _) rfl ?_
      exact ⟨rfl, _, unhide HQ1, unhide HQ2⟩

end Go.Proofs.YtbloahcmakjchabGreatDoor

/- Does an edge lead nowhere? walked. -/
namespace Go.Proofs.YtbloahcmakjchabGreatDoor
open Go.RowKit Go.Maps

theorem gptr_nil (b : Nat) (w : World) : (binOp .eql 114 (.pointer (some ⟨b, 0, none⟩)) (.pointer none)).run Tryz.prog w = .ok (.bool false) w := by kernel_rfl
theorem gptr_none (w : World) : (binOp .eql 114 (.pointer none) (.pointer none)).run Tryz.prog w = .ok (.bool true) w := by kernel_rfl

/-- Is there a node of this number? -/
def hasG (X : List (Int × Nat)) (n : Int) : Prop := ∃ x, x ∈ X ∧ x.1 = n

theorem MapG.below {w w' : World} {m : Nat} {X : List (Int × Nat)} (h : MapG w m X) (hb : Below w.heap.size w w') : MapG w' m X := h.keeps (Keeps.of_below (fun _ => False) hb (Nat.le_refl _)) (fun f => f)

theorem lookG_dnone {w : World} {m : Nat} {X : List (Int × Nat)} (h : MapG w m X) (n : Int) (hw : (Lit.int .i64 n).wf = true) (hn : ¬ hasG X n) : ∀ q, (Instr.lookup 111 (.map (some m)) (.int .i64 n) false).run Tryz.prog (w.drewN q) = .ok (.pointer none) (w.drewN q) := fun q =>
  lookG_none (w := w.drewN q) (h.below (below_drewN w q)) n hw (fun x hx e => hn ⟨x, hx, e⟩)
theorem lookG_dat {w : World} {m : Nat} {X : List (Int × Nat)} (h : MapG w m X) (n : Int) (b : Nat) (hw : (Lit.int .i64 n).wf = true) (hx : (n, b) ∈ X) : ∀ q, (Instr.lookup 111 (.map (some m)) (.int .i64 n) false).run Tryz.prog (w.drewN q) = .ok (.pointer (some ⟨b, 0, none⟩)) (w.drewN q) := fun q =>
  lookG_at (w := w.drewN q) (h.below (below_drewN w q)) (n, b) hw hx

set_option maxRecDepth 100000 in
set_option maxHeartbeats 2000000 in
theorem nowhere_a {w : World} {g m gb : Nat} {X : List (Int × Nat)} {Nd : Nat → Gn} {Fs : Nat → Nat → Prop} (h : GraphX w g m X Nd Fs) (hb : w.cell? ⟨gb, 0, none⟩ = some (.pointer (some ⟨g, 0, none⟩))) (k : Ky) (hk : KyOk k) (hn : ¬ hasG X k.a) :
    Calls Tryz.prog 46 #[.agg #[.int .i64 k.kind, .int .i64 k.a, .string k.word, .int .i64 k.b], .pointer (some ⟨gb, 0, none⟩)] w fun e w' => e = .returned (.bool true) ∧ Below w.heap.size w w' := by
  have HB0 := hide (below_box w (.cells #[.int .i64 k.kind, .int .i64 k.a, .string k.word, .int .i64 k.b] 43))
  have HK0 := boxK_new w k
  have hg := h.below (unhide HB0)
  have c0 := hg.c0
  have cb := (unhide HB0).cell (p := ⟨gb, 0, none⟩) (lt_of_cell hb) |>.trans hb
  have k0 := HK0.c0
  have k1 := HK0.c1
  have k3 := HK0.c3
  have hlk := lookG_dnone hg.map k.a hk.a hn
  have hpn := gptr_none
  clear hn
  clear h hb HK0 hg hk
  go_enter Tryz.func46, Tryz.ntmps46
  go_wp2
  generalize w.alloc (.cells #[.int .i64 k.kind, .int .i64 k.a, .string k.word, .int .i64 k.b] 43) = W0 at *
  go_quiet (fail)
  go_wp2
  go_ret
  exact ⟨rfl, (unhide HB0).trans ((below_drewN _ _).mono (unhide HB0).size)⟩

set_option maxRecDepth 100000 in
set_option maxHeartbeats 2000000 in
theorem nowhere_p {w : World} {g m gb : Nat} {X : List (Int × Nat)} {Nd : Nat → Gn} {Fs : Nat → Nat → Prop} (h : GraphX w g m X Nd Fs) (hb : w.cell? ⟨gb, 0, none⟩ = some (.pointer (some ⟨g, 0, none⟩))) (k : Ky) (hk : KyOk k) (b : Nat) (hx : (k.a, b) ∈ X) (h2 : k.kind = 3) :
    Calls Tryz.prog 46 #[.agg #[.int .i64 k.kind, .int .i64 k.a, .string k.word, .int .i64 k.b], .pointer (some ⟨gb, 0, none⟩)] w fun e w' => e = .returned (.bool false) ∧ Below w.heap.size w w' := by
  obtain ⟨kk, ka, kw, kb⟩ := k
  obtain rfl : kk = 3 := h2
  have HB0 := hide (below_box w (.cells #[.int .i64 3, .int .i64 ka, .string kw, .int .i64 kb] 43))
  have HK0 := boxK_new w ⟨3, ka, kw, kb⟩
  have hg := h.below (unhide HB0)
  have c0 := hg.c0
  have cb := (unhide HB0).cell (p := ⟨gb, 0, none⟩) (lt_of_cell hb) |>.trans hb
  have k0 := HK0.c0
  have k1 := HK0.c1
  have k3 := HK0.c3
  have hlk := lookG_dat hg.map ka b hk.a hx
  have hpn := gptr_nil b
  clear hx
  clear h hb HK0 hg hk
  go_enter Tryz.func46, Tryz.ntmps46
  go_wp2
  generalize w.alloc (.cells #[.int .i64 3, .int .i64 ka, .string kw, .int .i64 kb] 43) = W0 at *
  go_quiet (fail)
  go_wp2
  go_ret
  exact ⟨rfl, (unhide HB0).trans ((below_drewN _ _).mono (unhide HB0).size)⟩

set_option maxRecDepth 100000 in
set_option maxHeartbeats 2000000 in
theorem nowhere_b {w : World} {g m gb : Nat} {X : List (Int × Nat)} {Nd : Nat → Gn} {Fs : Nat → Nat → Prop} (h : GraphX w g m X Nd Fs) (hb : w.cell? ⟨gb, 0, none⟩ = some (.pointer (some ⟨g, 0, none⟩))) (k : Ky) (hk : KyOk k) (b : Nat) (hx : (k.a, b) ∈ X) (h2 : k.kind = 2) (hn : ¬ hasG X k.b) :
    Calls Tryz.prog 46 #[.agg #[.int .i64 k.kind, .int .i64 k.a, .string k.word, .int .i64 k.b], .pointer (some ⟨gb, 0, none⟩)] w fun e w' => e = .returned (.bool true) ∧ Below w.heap.size w w' := by
  obtain ⟨kk, ka, kw, kb⟩ := k
  obtain rfl : kk = 2 := h2
  have HB0 := hide (below_box w (.cells #[.int .i64 2, .int .i64 ka, .string kw, .int .i64 kb] 43))
  have HK0 := boxK_new w ⟨2, ka, kw, kb⟩
  have hg := h.below (unhide HB0)
  have c0 := hg.c0
  have cb := (unhide HB0).cell (p := ⟨gb, 0, none⟩) (lt_of_cell hb) |>.trans hb
  have k0 := HK0.c0
  have k1 := HK0.c1
  have k3 := HK0.c3
  have hlk := lookG_dat hg.map ka b hk.a hx
  have hlb := lookG_dnone hg.map kb hk.b hn
  have hpn := gptr_nil b
  have hpm := gptr_none
  clear hx hn
  clear h hb HK0 hg hk
  go_enter Tryz.func46, Tryz.ntmps46
  go_wp2
  generalize w.alloc (.cells #[.int .i64 2, .int .i64 ka, .string kw, .int .i64 kb] 43) = W0 at *
  go_quiet (fail)
  go_wp2
  go_ret
  exact ⟨rfl, (unhide HB0).trans ((below_drewN _ _).mono (unhide HB0).size)⟩

set_option maxRecDepth 100000 in
set_option maxHeartbeats 2000000 in
theorem nowhere_e {w : World} {g m gb : Nat} {X : List (Int × Nat)} {Nd : Nat → Gn} {Fs : Nat → Nat → Prop} (h : GraphX w g m X Nd Fs) (hb : w.cell? ⟨gb, 0, none⟩ = some (.pointer (some ⟨g, 0, none⟩))) (k : Ky) (hk : KyOk k) (b : Nat) (hx : (k.a, b) ∈ X) (h2 : k.kind = 2) (b' : Nat) (hy : (k.b, b') ∈ X) :
    Calls Tryz.prog 46 #[.agg #[.int .i64 k.kind, .int .i64 k.a, .string k.word, .int .i64 k.b], .pointer (some ⟨gb, 0, none⟩)] w fun e w' => e = .returned (.bool false) ∧ Below w.heap.size w w' := by
  obtain ⟨kk, ka, kw, kb⟩ := k
  obtain rfl : kk = 2 := h2
  have HB0 := hide (below_box w (.cells #[.int .i64 2, .int .i64 ka, .string kw, .int .i64 kb] 43))
  have HK0 := boxK_new w ⟨2, ka, kw, kb⟩
  have hg := h.below (unhide HB0)
  have c0 := hg.c0
  have cb := (unhide HB0).cell (p := ⟨gb, 0, none⟩) (lt_of_cell hb) |>.trans hb
  have k0 := HK0.c0
  have k1 := HK0.c1
  have k3 := HK0.c3
  have hlk := lookG_dat hg.map ka b hk.a hx
  have hlb := lookG_dat hg.map kb b' hk.b hy
  have hpn := gptr_nil b
  have hpm := gptr_nil b'
  clear hx hy
  clear h hb HK0 hg hk
  go_enter Tryz.func46, Tryz.ntmps46
  go_wp2
  generalize w.alloc (.cells #[.int .i64 2, .int .i64 ka, .string kw, .int .i64 kb] 43) = W0 at *
  go_quiet (fail)
  go_wp2
  go_ret
  exact ⟨rfl, (unhide HB0).trans ((below_drewN _ _).mono (unhide HB0).size)⟩

end Go.Proofs.YtbloahcmakjchabGreatDoor

/- The graph that keys tell: plain. -/
namespace Go.Proofs.YtbloahcmakjchabGreatDoor
open Go.RowKit Go.Maps

def nodesG (L : List Ky) : List Int := (L.filter (fun k => decide (k.kind = 1))).map (·.a)
def edgesG (L : List Ky) (a : Int) : List Ky := L.filter (fun k => decide (k.kind = 2 ∧ k.a = a ∧ k.b ∈ nodesG L))
def propsG (V : Ky → ByteArray) (L : List Ky) (a : Int) : List (ByteArray × ByteArray) := (L.filter (fun k => decide (k.kind = 3 ∧ k.a = a))).map (fun k => (k.word, V k))
def gnOf (V : Ky → ByteArray) (L : List Ky) (a : Int) : Gn := ⟨V ⟨1, a, ⟨#[]⟩, 0⟩, edgesG L a, propsG V L a⟩

theorem nodesG_node {L : List Ky} {k : Ky} (h : k.kind = 1) : nodesG (L ++ [k]) = nodesG L ++ [k.a] := by simp [nodesG, h]
theorem nodesG_else {L : List Ky} {k : Ky} (h : k.kind ≠ 1) : nodesG (L ++ [k]) = nodesG L := by simp [nodesG, h]

theorem edgesG_only {L : List Ky} (h : ∀ k, k ∈ L → k.kind = 1) (a : Int) : edgesG L a = [] := by
  unfold edgesG
  rw [List.filter_eq_nil_iff]
  intro k hk q
  have := of_decide_eq_true q
  have := h k hk
  omega
theorem propsG_only {V : Ky → ByteArray} {L : List Ky} (h : ∀ k, k ∈ L → k.kind = 1) (a : Int) : propsG V L a = [] := by
  unfold propsG
  rw [List.filter_eq_nil_iff.2]
  · rfl
  · intro k hk q
    have := of_decide_eq_true q
    have := h k hk
    omega

theorem gnOf_node {V : Ky → ByteArray} {L : List Ky} {k : Ky} (h : ∀ k, k ∈ L → k.kind = 1) (hk : k.kind = 1) (a : Int) : gnOf V (L ++ [k]) a = ⟨V ⟨1, a, ⟨#[]⟩, 0⟩, [], []⟩ ∧ gnOf V L a = ⟨V ⟨1, a, ⟨#[]⟩, 0⟩, [], []⟩ := by
  have h2 : ∀ x, x ∈ L ++ [k] → x.kind = 1 := fun x hx => by
    rcases List.mem_append.1 hx with q | q
    · exact h x q
    · obtain rfl := List.mem_singleton.1 q
      exact hk
  unfold gnOf
  rw [edgesG_only h2, propsG_only h2, edgesG_only h, propsG_only h]
  exact ⟨rfl, rfl⟩

theorem edgesG_snoc {L : List Ky} {k : Ky} (h : k.kind ≠ 1) (a : Int) : edgesG (L ++ [k]) a = edgesG L a ++ (if k.kind = 2 ∧ k.a = a ∧ k.b ∈ nodesG L then [k] else []) := by
  unfold edgesG
  rw [nodesG_else h, List.filter_append]
  congr 1
  by_cases q : k.kind = 2 ∧ k.a = a ∧ k.b ∈ nodesG L
  · rw [if_pos q]
    simp [q]
  · rw [if_neg q]
    simp only [List.filter_cons, List.filter_nil, decide_eq_false q]
    rfl
theorem propsG_snoc {V : Ky → ByteArray} {L : List Ky} {k : Ky} (a : Int) : propsG V (L ++ [k]) a = propsG V L a ++ (if k.kind = 3 ∧ k.a = a then [(k.word, V k)] else []) := by
  unfold propsG
  rw [List.filter_append, List.map_append]
  congr 1
  by_cases q : k.kind = 3 ∧ k.a = a
  · rw [if_pos q]
    simp [q]
  · rw [if_neg q]
    simp only [List.filter_cons, List.filter_nil, decide_eq_false q]
    rfl

/-- A graph in memory that these keys tell. -/
structure GrI (W : World) (g m : Nat) (V : Ky → ByteArray) (L : List Ky) (X : List (Int × Nat)) (Nd : Nat → Gn) (Fs : Nat → Nat → Prop) : Prop where
  gx : GraphX W g m X Nd Fs
  ids : X.map (·.1) = nodesG L
  nd : ∀ x, x ∈ X → Nd x.2 = gnOf V L x.1

theorem GrI.below {W W' : World} {g m : Nat} {V : Ky → ByteArray} {L : List Ky} {X : List (Int × Nat)} {Nd : Nat → Gn} {Fs : Nat → Nat → Prop} (h : GrI W g m V L X Nd Fs) (hb : Below W.heap.size W W') : GrI W' g m V L X Nd Fs := ⟨h.gx.below hb, h.ids, h.nd⟩

theorem GrI.has {W : World} {g m : Nat} {V : Ky → ByteArray} {L : List Ky} {X : List (Int × Nat)} {Nd : Nat → Gn} {Fs : Nat → Nat → Prop} (h : GrI W g m V L X Nd Fs) (n : Int) : hasG X n ↔ n ∈ nodesG L := by
  rw [← h.ids, List.mem_map]
  rfl

/-- Nothing comes of a key. -/
theorem GrI.skip {W : World} {g m : Nat} {V : Ky → ByteArray} {L : List Ky} {X : List (Int × Nat)} {Nd : Nat → Gn} {Fs : Nat → Nat → Prop} (h : GrI W g m V L X Nd Fs) {k : Ky} (h1 : k.kind ≠ 1) (hs : k.a ∉ nodesG L ∨ (k.kind = 2 ∧ k.b ∉ nodesG L)) : GrI W g m V (L ++ [k]) X Nd Fs := by
  refine ⟨h.gx, by rw [nodesG_else h1]; exact h.ids, fun x hx => ?_⟩
  rw [h.nd x hx]
  unfold gnOf
  have hxa : x.1 ∈ nodesG L := by rw [← h.ids]; exact List.mem_map.2 ⟨x, hx, rfl⟩
  rw [edgesG_snoc h1, propsG_snoc, if_neg, if_neg, List.append_nil, List.append_nil]
  · rintro ⟨q1, q2⟩
    rcases hs with s | ⟨s, _⟩
    · exact s (by rw [q2]; exact hxa)
    · omega
  · rintro ⟨q1, q2, q3⟩
    rcases hs with s | ⟨_, s⟩
    · exact s (by rw [q2]; exact hxa)
    · exact s q3

theorem GrI.same {W : World} {g m : Nat} {V : Ky → ByteArray} {L : List Ky} {X : List (Int × Nat)} {Nd : Nat → Gn} {Fs : Nat → Nat → Prop} (h : GrI W g m V L X Nd Fs) {x y : Int × Nat} (hx : x ∈ X) (hy : y ∈ X) : (x.1 = y.1 → x = y) ∧ (x.2 = y.2 → x = y) := by
  obtain ⟨i, hi, rfl⟩ := List.getElem_of_mem hx
  obtain ⟨j, hj, rfl⟩ := List.getElem_of_mem hy
  have p1 := List.pairwise_iff_getElem.1 h.gx.ids
  have p2 := List.pairwise_iff_getElem.1 h.gx.blocks
  constructor
  · intro e
    rcases Nat.lt_trichotomy i j with k | k | k
    · exact absurd e (p1 i j hi hj k)
    · subst k; rfl
    · exact absurd e.symm (p1 j i hj hi k)
  · intro e
    rcases Nat.lt_trichotomy i j with k | k | k
    · exact absurd e (p2 i j hi hj k)
    · subst k; rfl
    · exact absurd e.symm (p2 j i hj hi k)

/-- A node has turned as a key says. -/
theorem GrI.put {W W' : World} {g m : Nat} {V : Ky → ByteArray} {L : List Ky} {X : List (Int × Nat)} {Nd : Nat → Gn} {Fs : Nat → Nat → Prop} (h : GrI W g m V L X Nd Fs) {k : Ky} (h1 : k.kind ≠ 1) {x : Int × Nat} (hx : x ∈ X) (hxa : x.1 = k.a) {F' : Nat → Prop} (hl : GnW W' x.2 (gnOf V (L ++ [k]) x.1) F') (hg : Grew W (Fs x.2) F' W') :
    GrI W' g m V (L ++ [k]) X (upd Nd x.2 (gnOf V (L ++ [k]) x.1)) (upd Fs x.2 F') ∧ Grew W (graphF g m X Fs) (graphF g m X (upd Fs x.2 F')) W' := by
  obtain ⟨g1, g2⟩ := h.gx.turn hx hl hg
  refine ⟨⟨g1, by rw [nodesG_else h1]; exact h.ids, fun y hy => ?_⟩, g2⟩
  by_cases e : y.2 = x.2
  · obtain rfl := (h.same hy hx).2 e
    rw [upd_same]
  · have hne : y.1 ≠ k.a := fun q => e (by rw [(h.same hy hx).1 (q.trans hxa.symm)])
    rw [upd_other _ _ e, h.nd y hy]
    unfold gnOf
    rw [edgesG_snoc h1, propsG_snoc, if_neg (fun q => hne q.2.1.symm), if_neg (fun q => hne q.2.symm), List.append_nil, List.append_nil]

end Go.Proofs.YtbloahcmakjchabGreatDoor

/- Where rows lie: what the laws read. -/
namespace Go.Proofs.YtbloahcmakjchabGreatDoor
open Go.RowKit Go.Maps

def NumsAt (w : World) (ad : Option Addr) (l : List Int) : Prop := ∀ j, (hj : j < l.length) → ∃ b o, ad = some ⟨b, o, none⟩ ∧ w.cell? ⟨b, o + j, none⟩ = some (.int .i64 l[j])

theorem own1_at {w : World} {base : Nat} {e : TypeId} {v : Value} {n : Nat} {xs : List Value} (h : w.ownsRow base e 1 v n xs) : ∃ g ad c, v = .slice ad n c ∧ ∀ j, j < n → ad = some ⟨g, 0, none⟩ ∧ w.cell? ⟨g, j, none⟩ = xs[j]? := by
  rcases h.2 with ⟨rfl, rfl⟩ | ⟨g, cap, cur, rfl, hg, hh, h3, h4, h5, h6⟩
  · exact ⟨0, none, 0, rfl, fun j hj => by omega⟩
  · refine ⟨g, _, cap, rfl, fun j hj => ⟨rfl, ?_⟩⟩
    unfold World.cell?
    simp only [hh]
    rw [← Array.getElem?_toList, ← h6, List.getElem?_take_of_lt (by omega)]
    rfl

theorem row_most {w : World} {base : Nat} {e : TypeId} {size : Nat} {v : Value} {n : Nat} {xs : List Value} (h : w.ownsRow base e size v n xs) : n ≤ 9223372036854775807 := by
  rcases h.2 with ⟨_, h0⟩ | ⟨_, cap, _, _, _, _, h1, h2, _⟩
  · omega
  · unfold maxLen at h2
    omega

theorem there_at {w w' : World} {p : Addr} {v : Value} (h : w.cell? p = some v) (hb : Below w.heap.size w w') : w'.cell? p = some v := (hb.cell (lt_of_cell h)).trans h

end Go.Proofs.YtbloahcmakjchabGreatDoor

/- The graph of a time: walked. -/
namespace Go.Proofs.YtbloahcmakjchabGreatDoor
open Go.RowKit Go.Maps

/-- Where a row of keys lies. -/
theorem RowY.cells {W : World} {base : Nat} {v : Value} {L : List Ky} (h : RowY W base v L) : ∃ g ad c, v = .slice ad L.length c ∧ ∀ j, (hj : j < L.length) → ad = some ⟨g, 0, none⟩ ∧ W.cell? ⟨g, j * 4, none⟩ = some (.int .i64 L[j].kind) ∧ W.cell? ⟨g, j * 4 + 1, none⟩ = some (.int .i64 L[j].a) ∧ W.cell? ⟨g, j * 4 + 2, none⟩ = some (.string L[j].word) ∧ W.cell? ⟨g, j * 4 + 3, none⟩ = some (.int .i64 L[j].b) := by
  rcases (show World.ownsRow _ _ _ _ _ _ _ from h).2 with ⟨h1, h2⟩ | ⟨g, cap, cur, hv, _, hh, _, _, _, h6⟩
  · exact ⟨0, none, 0, by rw [h1, h2], fun j hj => by omega⟩
  · refine ⟨g, _, cap, hv, fun j hj => ⟨rfl, ?_⟩⟩
    have key : ∀ i, i < 4 → W.cell? ⟨g, j * 4 + i, none⟩ = some ((encY L[j])[i]!) := fun i hi => by
      have e := encYs_get L (j * 4 + i) (by omega)
      rw [show (j * 4 + i) / 4 = j by omega, show (j * 4 + i) % 4 = i by omega] at e
      unfold World.cell?
      simp only [hh]
      have q : cur.toList[j * 4 + i]? = (encYs L)[j * 4 + i]? := by rw [← h6, List.getElem?_take_of_lt (by omega)]
      rw [e] at q
      simp [hj] at q
      simpa using q
    exact ⟨key 0 (by omega), key 1 (by omega), key 2 (by omega), key 3 (by omega)⟩

/-- A node has come. -/
theorem GrI.add {W W3 : World} {g m : Nat} {V : Ky → ByteArray} {L : List Ky} {X : List (Int × Nat)} {Nd : Nat → Gn} {Fs : Nat → Nat → Prop} (h : GrI W g m V L X Nd Fs) (hL : ∀ k, k ∈ L → k.kind = 1) (n : Int) (hn : n ∉ nodesG L)
    {q : Nat} {D : DataW Unit} (hKD : KeysG D X) (ht : Tidy D) (hturn : World.mapTurned (W.alloc (.cells #[.string (V ⟨1, n, ⟨#[]⟩, 0⟩), .slice none 0 0, .slice none 0 0] 119)) W3 m)
    (hown : W3.ownsMap Tryz.prog 3 ptrElem m q (D.put (.int .i64 n) (.lit (.int .i64 ((W.heap.size : Int) + 1))))) :
    GrI W3 g m V (L ++ [⟨1, n, ⟨#[]⟩, 0⟩]) (X ++ [(n, W.heap.size)]) (upd Nd W.heap.size ⟨V ⟨1, n, ⟨#[]⟩, 0⟩, [], []⟩) (upd Fs W.heap.size (· = W.heap.size)) ∧ Grew W (graphF g m X Fs) (graphF g m (X ++ [(n, W.heap.size)]) (upd Fs W.heap.size (· = W.heap.size))) W3 := by
  have hnx : ∀ x, x ∈ X → x.1 ≠ n := fun x hx e => hn (by rw [← h.ids]; exact List.mem_map.2 ⟨x, hx, e⟩)
  obtain ⟨g1, g2⟩ := h.gx.add n (V ⟨1, n, ⟨#[]⟩, 0⟩) hnx hKD ht hturn hown
  refine ⟨⟨g1, ?_, fun x hx => ?_⟩, g2⟩
  · rw [List.map_append, h.ids, nodesG_node rfl]
    rfl
  · obtain ⟨e1, e2⟩ := gnOf_node (V := V) (L := L) (k := ⟨1, n, ⟨#[]⟩, 0⟩) hL rfl x.1
    rw [e1]
    rcases List.mem_append.1 hx with q | q
    · have hne : x.2 ≠ W.heap.size := fun e => by
        have := (h.gx.node x q).lt _ (h.gx.node x q).fb
        omega
      rw [upd_other _ _ hne, h.nd x q, e2]
    · obtain rfl := List.mem_singleton.1 q
      rw [upd_same]

/-- What At gives. -/
def AtSays (w : World) (V : Ky → ByteArray) (e : Ending) (w' : World) : Prop :=
  ∃ g m L X Nd Fs, e = .returned (.tuple #[.pointer (some ⟨g, 0, none⟩), .nilIface]) ∧ GrI w' g m V L X Nd Fs ∧ L.Pairwise (fun a b => cfY a b < 0) ∧ (∀ k, k ∈ L ↔ V k ≠ ByteArray.empty) ∧ L.length ≤ 4000 ∧ (∀ i, graphF g m X Fs i → w.heap.size ≤ i) ∧ Below w.heap.size w w'

/-- What holds while keys are gone through. -/
structure AtI (W1 : World) (n g gb : Nat) (V : Ky → ByteArray) (L : List Ky) (X : List (Int × Nat)) (Nd : Nat → Gn) (Fs : Nat → Nat → Prop) (y : World) : Prop where
  gr : GrI y g n V L X Nd Fs
  box : y.cell? ⟨gb, 0, none⟩ = some (.pointer (some ⟨g, 0, none⟩))
  low : Below n W1 y
  own : ∀ i, graphF g n X Fs i → n ≤ i ∧ i ≠ gb
  two : gb < y.heap.size
  ngb : n < gb

theorem AtI.below {W1 : World} {n g gb : Nat} {V : Ky → ByteArray} {L : List Ky} {X : List (Int × Nat)} {Nd : Nat → Gn} {Fs : Nat → Nat → Prop} {y y' : World} (h : AtI W1 n g gb V L X Nd Fs y) (hb : Below y.heap.size y y') : AtI W1 n g gb V L X Nd Fs y' :=
  ⟨h.gr.below hb, (hb.cell (p := ⟨gb, 0, none⟩) (lt_of_cell h.box)).trans h.box, h.low.trans (hb.mono (by have := h.two; have := h.ngb; omega)), h.own, Nat.lt_of_lt_of_le h.two hb.size, h.ngb⟩

theorem AtI.turn {W1 : World} {n g gb : Nat} {V : Ky → ByteArray} {L L' : List Ky} {X X' : List (Int × Nat)} {Nd Nd' : Nat → Gn} {Fs Fs' : Nat → Nat → Prop} {y y' : World} (h : AtI W1 n g gb V L X Nd Fs y) (hg : GrI y' g n V L' X' Nd' Fs') (hw : Grew y (graphF g n X Fs) (graphF g n X' Fs') y') : AtI W1 n g gb V L' X' Nd' Fs' y' := by
  have ht := h.two
  have hn := h.ngb
  refine ⟨hg, (hw.2.cell (p := ⟨gb, 0, none⟩) ht (fun q => (h.own _ q).2 rfl)).trans h.box, h.low.trans (keeps_below hw.2 (fun i q => (h.own i q).1) (by omega)), fun i hi => ?_, Nat.lt_of_lt_of_le ht hw.2.size, hn⟩
  rcases hw.1 i hi with q | q
  · exact h.own i q
  · exact ⟨by omega, by omega⟩

theorem cell_new (w : World) (v : Value) (t : TypeId) : (w.alloc (.cells #[v] t)).cell? ⟨w.heap.size, 0, none⟩ = some v := by simp

theorem at_begin (W1 : World) (V : Ky → ByteArray) : AtI W1 W1.heap.size (W1.heap.size + 1) (W1.heap.size + 1 + 1) V [] [] (fun _ => ⟨ByteArray.empty, [], []⟩) (fun _ _ => False) (((W1.alloc (.map #[] 0)).alloc (.cells #[.map (some W1.heap.size)] 113)).alloc (.cells #[.pointer (some ⟨W1.heap.size + 1, 0, none⟩)] 33)) := by
  have b1 := below_box W1 (.map #[] 0)
  have b2 := below_box (W1.alloc (.map #[] 0)) (.cells #[.map (some W1.heap.size)] 113)
  have b3 := below_box ((W1.alloc (.map #[] 0)).alloc (.cells #[.map (some W1.heap.size)] 113)) (.cells #[.pointer (some ⟨W1.heap.size + 1, 0, none⟩)] 33)
  have e1 : (W1.alloc (.map #[] 0)).heap.size = W1.heap.size + 1 := by simp
  have e2 : ((W1.alloc (.map #[] 0)).alloc (.cells #[.map (some W1.heap.size)] 113)).heap.size = W1.heap.size + 1 + 1 := by simp
  have c12 := b1.trans (b2.mono b1.size)
  refine ⟨⟨⟨?_, ⟨.map [], ?_, keysG_none⟩, List.Pairwise.nil, List.Pairwise.nil, by simp, by simp, by simp, by simp, by omega⟩, rfl, by simp⟩, ?_, c12.trans (b3.mono c12.size), fun i hi => ?_, by simp, by omega⟩
  · have q := cell_new (W1.alloc (.map #[] 0)) (.map (some W1.heap.size)) 113
    rw [e1] at q
    exact (b3.cell (p := ⟨W1.heap.size + 1, 0, none⟩) (by show W1.heap.size + 1 < _; rw [e2]; omega)).trans q
  · exact ((World.ownsMap_made W1 Tryz.prog 3 ptrElem).alloc _).alloc _
  · have q := cell_new ((W1.alloc (.map #[] 0)).alloc (.cells #[.map (some W1.heap.size)] 113)) (.pointer (some ⟨W1.heap.size + 1, 0, none⟩)) 33
    rw [e2] at q
    exact q
  · rcases hi with q | q | ⟨x, hx, _⟩
    · exact ⟨by omega, by omega⟩
    · exact ⟨by omega, by omega⟩
    · cases hx

theorem kind_le {a b : Ky} (h : cfY a b < 0) : a.kind ≤ b.kind := by
  rcases Int.lt_or_le b.kind a.kind with q | q
  · exfalso
    unfold cfY keyCmp orL at h
    have e : Lib.compareInt a.kind b.kind = 1 := by
      unfold Lib.compareInt
      split
      · omega
      · first | rfl | (split <;> omega)
    simp [e] at h
  · exact q

theorem key_kinds {k : Ky} (h : keyB k.kind k.a k.word k.b = true) : (k = ⟨1, k.a, ⟨#[]⟩, 0⟩) ∨ k.kind = 2 ∨ k.kind = 3 := by
  obtain ⟨kk, ka, kw, kb⟩ := k
  dsimp only at h ⊢
  unfold keyB at h
  by_cases e1 : kk = 1
  · rw [if_pos e1] at h
    obtain ⟨a, b⟩ := Bool.and_eq_true_iff.1 h
    obtain ⟨_, a2⟩ := Bool.and_eq_true_iff.1 a
    have hb := of_decide_eq_true b
    have hw := empty_data kw a2
    have : kw = ⟨#[]⟩ := by
      cases kw with
      | mk d =>
        have : d = #[] := by simpa using hw
        rw [this]
    left
    rw [e1, this, hb]
  · rw [if_neg e1] at h
    by_cases e2 : kk = 2
    · exact .inr (.inl e2)
    · rw [if_neg e2] at h
      by_cases e3 : kk = 3
      · exact .inr (.inr e3)
      · rw [if_neg e3] at h
        cases h

theorem gnOf_edge {V : Ky → ByteArray} {L : List Ky} {k : Ky} (hk : k.kind = 2) (hb : k.b ∈ nodesG L) : gnOf V (L ++ [k]) k.a = { gnOf V L k.a with edges := (gnOf V L k.a).edges ++ [k] } := by
  unfold gnOf
  dsimp only
  rw [edgesG_snoc (by omega), propsG_snoc, if_pos ⟨hk, rfl, hb⟩, if_neg (fun q => by omega), List.append_nil]
theorem gnOf_prop {V : Ky → ByteArray} {L : List Ky} {k : Ky} (hk : k.kind = 3) : gnOf V (L ++ [k]) k.a = { gnOf V L k.a with props := (gnOf V L k.a).props ++ [(k.word, V k)] } := by
  unfold gnOf
  dsimp only
  rw [edgesG_snoc (by omega), propsG_snoc, if_neg (fun q => by omega), if_pos ⟨hk, rfl⟩, List.append_nil]
theorem edgesG_le (L : List Ky) (a : Int) : (edgesG L a).length ≤ L.length := List.length_filter_le _ _
theorem propsG_le (V : Ky → ByteArray) (L : List Ky) (a : Int) : (propsG V L a).length ≤ L.length := by
  unfold propsG
  rw [List.length_map]
  exact List.length_filter_le _ _

def NdS (g m gb kx : Nat) (a : Int) (y : World) : Prop := y.cell? ⟨gb, 0, none⟩ = some (.pointer (some ⟨g, 0, none⟩)) ∧ y.cell? ⟨g, 0, none⟩ = some (.map (some m)) ∧ y.cell? ⟨kx, 1, none⟩ = some (.int .i64 a)
theorem NdS.carry {g m gb kx : Nat} {a : Int} {x y : World} (h : NdS g m gb kx a x) (hb : Below x.heap.size x y) : NdS g m gb kx a y := ⟨there_yet' h.1 hb, there_yet' h.2.1 hb, there_yet' h.2.2 hb⟩

theorem at_put {W1 : World} {n g gb kx : Nat} {V : Ky → ByteArray} {L L' : List Ky} {X : List (Int × Nat)} {Nd Nd' : Nat → Gn} {Fs Fs' : Nat → Nat → Prop} {y y' : World} {k : Ky} {b : Nat} (h : AtI W1 n g gb V L X Nd Fs y) (hx : BoxK kx k y) (hkx : ¬ graphF g n X Fs kx) (hg : GrI y' g n V L' X Nd' Fs') (hw : Grew y (graphF g n X Fs) (graphF g n X Fs') y') (hm : (k.a, b) ∈ X) (ha : (Lit.int .i64 k.a).wf = true) :
    y'.cell? ⟨gb, 0, none⟩ = some (.pointer (some ⟨g, 0, none⟩)) ∧ y'.cell? ⟨g, 0, none⟩ = some (.map (some n)) ∧ y'.cell? ⟨kx, 0, none⟩ = some (.int .i64 k.kind) ∧ y'.cell? ⟨kx, 1, none⟩ = some (.int .i64 k.a) ∧ y'.cell? ⟨kx, 2, none⟩ = some (.string k.word) ∧ y'.cell? ⟨kx, 3, none⟩ = some (.int .i64 k.b) ∧ (Instr.lookup 111 (.map (some n)) (.int .i64 k.a) false).run Tryz.prog y' = .ok (.pointer (some ⟨b, 0, none⟩)) y' := by
  have h' := h.turn hg hw
  have hx' := hx.keeps hw.2 hkx
  exact ⟨h'.box, hg.gx.c0, hx'.c0, hx'.c1, hx'.c2, hx'.c3, lookG_at hg.gx.map (k.a, b) ha hm⟩

set_option maxRecDepth 100000 in
set_option maxHeartbeats 8000000 in
theorem walk_At {w : World} {P : Pl} {now known bd : Int} {S : Ky → Int → Int → ByteArray} {F : Nat → Prop} (h : PastW w P now known bd S F) (hb1 : bd ≤ 4000) (at_ t : Int) (h0 : 0 ≤ at_) (h1 : known ≤ at_) (h2 : at_ ≤ now) (t0 : -1099511627776 ≤ t) (t1 : t < 1099511627776)
    (hv : ∀ k, S k at_ t ≠ ByteArray.empty → KyOk k ∧ keyB k.kind k.a k.word k.b = true) :
    Calls Tryz.prog 13 #[.pointer (some ⟨P.b, P.o, none⟩), .int .i64 at_, .int .i64 t] w (AtSays w (fun k => S k at_ t)) := by
  have HKs := hide (keys_ok h hb1 at_ t h0 h1 h2 t0 t1)
  have HVl := hide (fun W (hW : Below w.heap.size w W) k hk hkb => value_ok (h.below hW) hb1 k hk hkb at_ t h0 h1 h2 t0 t1)
  have HV := hide hv
  have hmm := @run_makeMap Tryz.prog
  clear h hb1 h0 h1 h2 t0 t1 hv
  go_enter Tryz.func13, Tryz.ntmps13
  go_wp2_with fail
  refine (unhide HKs).mono ?_
  rintro e W1 ⟨v8, L, rfl, hr, hpw, hme, hlen, b1⟩
  obtain ⟨g8, ad8, c8, rfl, hf8⟩ := hr.cells
  have HR := hide hf8
  have HPw := hide hpw
  have HMe := hide hme
  have HB1 := hide b1
  clear HKs hr hpw hme b1 hf8
  have HI0 := hide (at_begin W1 (fun k => S k at_ t))
  go_wp2
  generalize ((W1.alloc (.map #[] 0)).alloc (.cells #[.map (some W1.heap.size)] 113)).alloc (.cells #[.pointer (some ⟨W1.heap.size + 1, 0, none⟩)] 33) = W2 at *
  have hs1 := (unhide HB1).size
  generalize W1.heap.size + 1 + 1 = gb at *
  generalize W1.heap.size + 1 = g at *
  generalize hn : W1.heap.size = n at *
  go_loopw [35] (fun i y => ∃ (j : Nat) (X : List (Int × Nat)) (Nd : Nat → Gn) (Fs : Nat → Nat → Prop), j ≤ L.length ∧ i = .int .i64 j ∧ AtI W1 n g gb (fun k => S k at_ t) (L.take j) X Nd Fs y) (fun i _ => L.length - (intOf i).toNat)
  case atStart => exact ⟨0, [], _, _, Nat.zero_le _, rfl, unhide HI0⟩
  case round =>
    clear HI0
    obtain ⟨j, X, Nd, Fs, hj, rfl, hI⟩ := hrel
    have HI := hide hI
    clear hI
    by_cases hlt : j < L.length
    · have hlt' : (j : Int) < (L.length : Int) := by omega
      have hj0 : (0 : Int) ≤ (j : Int) := by omega
      obtain ⟨rfl, a0, a1, a2, a3⟩ := unhide HR j hlt
      have hkm : L[j] ∈ L := List.getElem_mem hlt
      obtain ⟨hko, hkb⟩ := unhide HV L[j] ((unhide HMe L[j]).1 hkm)
      have HTk : Hid (L.take (j + 1) = L.take j ++ [L[j]]) := List.take_succ_eq_append_getElem hlt
      have HEar : Hid (∀ x, x ∈ L.take j → x.kind ≤ L[j].kind ∧ x ≠ L[j] ∧ S x at_ t ≠ ByteArray.empty) := fun x hx => by
        obtain ⟨i, hi, rfl⟩ := List.getElem_of_mem hx
        have hij : i < j := by simp at hi; omega
        rw [List.getElem_take]
        have q := List.pairwise_iff_getElem.1 (unhide HPw) i j (by omega) hlt hij
        refine ⟨kind_le q, fun e => ?_, (unhide HMe _).1 (List.getElem_mem _)⟩
        rw [e] at q
        have := cfY_zero.2 (rfl : L[j] = L[j])
        omega
      obtain ⟨k, hkk⟩ : ∃ k, k = L[j] := ⟨_, rfl⟩
      rw [← hkk] at a0 a1 a2 a3 hko hkb HTk HEar
      have z0 := there_at a0 (by rw [hn]; exact (unhide HI).low)
      have z1 := there_at a1 (by rw [hn]; exact (unhide HI).low)
      have z2 := there_at a2 (by rw [hn]; exact (unhide HI).low)
      have z3 := there_at a3 (by rw [hn]; exact (unhide HI).low)
      have HKo := hide hko
      have HKb := hide hkb
      have HBk := hide (below_box wr (.cells #[.int .i64 k.kind, .int .i64 k.a, .string k.word, .int .i64 k.b] 43))
      have HBx := hide (boxK_new wr k)
      have HI1 := hide ((unhide HI).below (unhide HBk))
      have hbw : Below w.heap.size w (wr.alloc (.cells #[.int .i64 k.kind, .int .i64 k.a, .string k.word, .int .i64 k.b] 43)) := (unhide HB1).trans ((unhide HI1).low.mono hs1)
      have HVk := hide (unhide HVl _ hbw k hko hkb)
      have x0 := (unhide HBx).c0
      have x1 := (unhide HBx).c1
      have x2 := (unhide HBx).c2
      have x3 := (unhide HBx).c3
      have HKx : Hid (¬ graphF g n X Fs wr.heap.size) := fun q => Nat.lt_irrefl _ ((unhide HI).gr.gx.lt _ q)
      clear a0 a1 a2 a3 hko hkb hkm hkk hbw HI
      go_wp2_with fail
      generalize wr.alloc (.cells #[.int .i64 k.kind, .int .i64 k.a, .string k.word, .int .i64 k.b] 43) = V1 at *
      refine (unhide HVk).mono ?_
      rintro e V2 ⟨rfl, b2⟩
      have HI2 := hide ((unhide HI1).below b2)
      have HBx2 := hide ((unhide HBx).below b2)
      clear b2 HVk HI1 HBx x0 x1 x2 x3 z0 z1 z2 z3 HBk
      generalize wr.heap.size = kx at *
      rcases key_kinds (unhide HKb) with hk1 | hk23
      · have hnn : k.a ∉ nodesG (L.take j) := fun q => by
          obtain ⟨x, hx, e⟩ := List.mem_map.1 q
          obtain ⟨hx1, hx2⟩ := List.mem_filter.1 hx
          have hx2' := of_decide_eq_true hx2
          obtain ⟨_, q2, q3⟩ := unhide HEar x hx1
          rcases key_kinds (unhide HV x q3).2 with r | r
          · exact q2 (by rw [r, hk1, e])
          · omega
        have hall : ∀ x, x ∈ L.take j → x.kind = 1 := fun x hx => by
          obtain ⟨q1, _, q3⟩ := unhide HEar x hx
          have hk0 : k.kind = 1 := by rw [hk1]
          rcases key_kinds (unhide HV x q3).2 with r | r
          · rw [r]
          · omega
        have HNn := hide hnn
        have HAl := hide hall
        have HKa := hide (unhide HKo).a
        have HKe := hide hk1
        have x0 : V2.cell? ⟨kx, 0, none⟩ = some (.int .i64 1) := by rw [(unhide HBx2).c0, hk1]
        have x1 := (unhide HBx2).c1
        have hSk : S k at_ t = S ⟨1, k.a, ⟨#[]⟩, 0⟩ at_ t := by rw [← hk1]
        rw [hSk]
        clear hnn hall hk1 HKo HKb hSk
        generalize k.a = ka at *
        go_wp2
        have HS : Hid (NdS g n gb kx ka V2.drew) := ⟨(unhide HI2).box, (unhide HI2).gr.gx.c0, x1⟩
        have HI3 := hide ((unhide HI2).below (below_drew V2))
        clear x0 x1
        refine wp_region_tail (fun x => x.cell? ⟨gb, 0, none⟩ = some (.pointer (some ⟨g, 0, none⟩)) ∧ x.cell? ⟨g, 0, none⟩ = some (.map (some n)) ∧ x.cell? ⟨kx, 1, none⟩ = some (.int .i64 ka)) 9 (by kernel_rfl) (by kernel_rfl) (unhide HS) (fun hHeld => ?_)
        refine wpAnyH_take (i := 0) (oi := ?to0_1) (v := ?tv0_1) ?th0_1 (by kernel_rfl) (by kernel_rfl) (by kernel_rfl) ?tq0_1 (Or.inl ⟨?tw0_1, ?ty0_1⟩) (by assumption) ?tr0_1
        case th0_1 => (simp only [List.getElem?_toArray, List.getElem?_cons_zero]; rfl)
        case tq0_1 => exact fun _ _ _ h => h
        case tw0_1 => rfl
        case ty0_1 => (intro w' hSw; (try dsimp only at hSw); go_simp <;> with_reducible rfl)
        try simp only [Act.put, List.setIfInBounds_toArray, List.set_cons_zero, List.set_cons_succ]
        refine wpAnyH_take (i := 1) (oi := ?to1_1) (v := ?tv1_1) ?th1_1 (by kernel_rfl) (by kernel_rfl) (by kernel_rfl) ?tq1_1 (Or.inl ⟨?tw1_1, ?ty1_1⟩) (by assumption) ?tr1_1
        case th1_1 => (simp only [List.getElem?_toArray, List.getElem?_cons_zero, List.getElem?_cons_succ]; rfl)
        case tq1_1 => exact fun _ _ _ h => h
        case tw1_1 => rfl
        case ty1_1 => (intro w' hSw; (try dsimp only at hSw); go_simp <;> with_reducible rfl)
        try simp only [Act.put, List.setIfInBounds_toArray, List.set_cons_zero, List.set_cons_succ]
        refine wpAnyH_take (i := 2) (oi := ?to2_1) (v := ?tv2_1) ?th2_1 (by kernel_rfl) (by kernel_rfl) (by kernel_rfl) ?tq2_1 (Or.inl ⟨?tw2_1, ?ty2_1⟩) (by assumption) ?tr2_1
        case th2_1 => (simp only [List.getElem?_toArray, List.getElem?_cons_zero, List.getElem?_cons_succ]; rfl)
        case tq2_1 => exact fun _ _ _ h => h
        case tw2_1 => rfl
        case ty2_1 => (intro w' hSw; (try dsimp only at hSw); go_simp <;> with_reducible rfl)
        try simp only [Act.put, List.setIfInBounds_toArray, List.set_cons_zero, List.set_cons_succ]
        refine wpAnyH_take (i := 3) (oi := ?to3_1) (v := ?tv3_1) ?th3_1 (by kernel_rfl) (by kernel_rfl) (by kernel_rfl) ?tq3_1 (Or.inl ⟨?tw3_1, ?ty3_1⟩) (by assumption) ?tr3_1
        case th3_1 => (simp only [List.getElem?_toArray, List.getElem?_cons_zero, List.getElem?_cons_succ]; rfl)
        case tq3_1 => exact fun _ _ _ h => h
        case tw3_1 => rfl
        case ty3_1 => (intro w' hSw; (try dsimp only at hSw); go_simp <;> with_reducible rfl)
        try simp only [Act.put, List.setIfInBounds_toArray, List.set_cons_zero, List.set_cons_succ]
        refine wpAnyH_take (i := 4) (oi := ?to4_1) (v := ?tv4_1) ?th4_1 (by kernel_rfl) (by kernel_rfl) (by kernel_rfl) ?tq4_1 (Or.inl ⟨?tw4_1, ?ty4_1⟩) (by assumption) ?tr4_1
        case th4_1 => (simp only [List.getElem?_toArray, List.getElem?_cons_zero, List.getElem?_cons_succ]; rfl)
        case tq4_1 => exact fun _ _ _ h => h
        case tw4_1 => rfl
        case ty4_1 => (intro w' hSw; (try dsimp only at hSw); go_simp <;> with_reducible rfl)
        try simp only [Act.put, List.setIfInBounds_toArray, List.set_cons_zero, List.set_cons_succ]
        refine wpAnyH_take (i := 5) (oi := ?to5_1) (v := ?tv5_1) ?th5_1 (by kernel_rfl) (by kernel_rfl) (by kernel_rfl) ?tq5_1 (Or.inl ⟨?tw5_1, ?ty5_1⟩) (by assumption) ?tr5_1
        case th5_1 => (simp only [List.getElem?_toArray, List.getElem?_cons_zero, List.getElem?_cons_succ]; rfl)
        case tq5_1 => exact fun _ _ _ h => h
        case tw5_1 => rfl
        case ty5_1 => (intro w' hSw; (try dsimp only at hSw); go_simp <;> with_reducible rfl)
        try simp only [Act.put, List.setIfInBounds_toArray, List.set_cons_zero, List.set_cons_succ]
        refine wpAnyH_take (i := 6) (oi := ?to6_1) (v := ?tv6_1) ?th6_1 (by kernel_rfl) (by kernel_rfl) (by kernel_rfl) ?tq6_1 (Or.inl ⟨?tw6_1, ?ty6_1⟩) (by assumption) ?tr6_1
        case th6_1 => (simp only [List.getElem?_toArray, List.getElem?_cons_zero, List.getElem?_cons_succ]; rfl)
        case tq6_1 => exact fun _ _ _ h => h
        case tw6_1 => rfl
        case ty6_1 => (intro w' hSw; (try dsimp only at hSw); go_simp <;> with_reducible rfl)
        try simp only [Act.put, List.setIfInBounds_toArray, List.set_cons_zero, List.set_cons_succ]
        refine wpAnyH_take (i := 7) (oi := ?to7_1) (v := ?tv7_1) ?th7_1 (by kernel_rfl) (by kernel_rfl) (by kernel_rfl) ?tq7_1 (Or.inl ⟨?tw7_1, ?ty7_1⟩) (by assumption) ?tr7_1
        case th7_1 => (simp only [List.getElem?_toArray, List.getElem?_cons_zero, List.getElem?_cons_succ]; rfl)
        case tq7_1 => exact fun _ _ _ h => h
        case tw7_1 => rfl
        case ty7_1 => (intro w' hSw; (try dsimp only at hSw); go_simp <;> with_reducible rfl)
        try simp only [Act.put, List.setIfInBounds_toArray, List.set_cons_zero, List.set_cons_succ]
        refine wpAnyH_ready (rs := [8]) (by kernel_rfl) (by simp) ?_
        refine AllReadyH.cons (o := ?bo8_1) ?bh8_1 (fun K hK => ?bs8_1) ?bm8_1
        case bh8_1 => (simp only [List.getElem?_toArray, List.getElem?_cons_zero, List.getElem?_cons_succ]; rfl)
        case bm8_1 => exact AllReadyH.nil
        case bs8_1 =>
          go_simp
          refine hK.out _ _ (show NdS g n gb kx ka (V2.drew.alloc _) from (unhide HS).carry (below_box _ _)) (fun hHeld => ?_)
          clear hK K
          try simp only [Act.put, List.setIfInBounds_toArray, List.set_cons_zero, List.set_cons_succ]
          refine wpAnyH_done (by kernel_rfl) ?_ _
          show wpList _ _ _ _ _ _
          clear hHeld
          obtain ⟨D, hownD, hKD⟩ := (unhide HI3).gr.gx.map
          have hXl : X.length ≤ 4000 := by
            have e := congrArg List.length (unhide HI3).gr.ids
            rw [List.length_map] at e
            rw [e]
            unfold nodesG
            rw [List.length_map]
            exact Nat.le_trans (List.length_filter_le _ _) (by rw [List.length_take]; omega)
          refine wpList_mapUpdate_in _ rfl _ _ _ 111 rfl 3 114 keyedV Tryz.underlying111 ptrElem n _ D rfl (hownD.alloc _) (by unfold maxLen; omega) _ _ _ rfl rfl (keyOf_int_mk Tryz.underlying3 (unhide HKa)) (.lit (.int .i64 ((V2.heap.size : Int) + 1))) [] rfl ?_
          intro V3 own3 turn3
          obtain ⟨gr3, gw3⟩ := GrI.add (W := V2.drew) (unhide HI3).gr (unhide HAl) ka (unhide HNn) hKD (hownD.tidy keyedV) turn3 own3
          have HI4 := hide ((unhide HI3).turn gr3 gw3)
          have HI5 : Hid (∃ X Nd Fs, AtI W1 n g gb (fun k => S k at_ t) (L.take (j + 1)) X Nd Fs V3) := by
            unfold Hid
            rw [unhide HTk, unhide HKe]
            exact ⟨_, _, _, unhide HI4⟩
          clear own3 turn3 gr3 gw3 HI4 hownD hKD
          go_wp2
          go_roundw
          case rel =>
            obtain ⟨X', Nd', Fs', q⟩ := unhide HI5
            exact ⟨j + 1, X', Nd', Fs', by omega, by go_num, q⟩
          case measure => simp [intOf]; omega
      · have hk1 : k.kind ≠ 1 := by omega
        have HK1 := hide hk1
        obtain ⟨kk, ka, kw, kb⟩ := k
        dsimp only at hk23 hk1 HTk HK1
        have x0 := (unhide HBx2).c0
        have x1 := (unhide HBx2).c1
        have x2 := (unhide HBx2).c2
        have x3 := (unhide HBx2).c3
        dsimp only at x0 x1 x2 x3
        by_cases hha : hasG X ka
        · obtain ⟨⟨ka', b⟩, hxm, e⟩ := hha
          obtain rfl : ka' = ka := e
          have HMx := hide hxm
          clear hxm
          rcases hk23 with rfl | rfl
          · by_cases hhb : hasG X kb
            · obtain ⟨⟨kb', b'⟩, hym, e⟩ := hhb
              obtain rfl : kb' = kb := e
              have HMb : Hid (kb' ∈ nodesG (L.take j)) := ((unhide HI2).gr.has kb').1 ⟨(kb', b'), hym, rfl⟩
              have HNw := hide (nowhere_e (unhide HI2).gr.gx (unhide HI2).box ⟨2, ka', kw, kb'⟩ (unhide HKo) b (unhide HMx) rfl b' hym)
              clear hym hk1
              dsimp only at HNw
              go_wp2_with fail
              refine (unhide HNw).mono ?_
              rintro e V3 ⟨rfl, b3⟩
              have HI4 := hide (((unhide HI2).below b3).below (below_drew V3))
              have HBx3 := hide (((unhide HBx2).below b3).below (below_drew V3))
              have HGn : Hid (GnW V3.drew b (gnOf (fun k => S k at_ t) (L.take j) ka') (Fs b)) := by
                have q := (unhide HI4).gr.gx.node (ka', b) (unhide HMx)
                rw [(unhide HI4).gr.nd (ka', b) (unhide HMx)] at q
                exact q
              have HPt := hide (gn_put_edge (unhide HGn) ka' kw kb' (S ⟨2, ka', kw, kb'⟩ at_ t) (by show (edgesG (L.take j) ka').length ≤ 100000; have := edgesG_le (L.take j) ka'; rw [List.length_take] at this; omega))
              have hlk := lookG_at (unhide HI4).gr.gx.map (ka', b) (unhide HKo).a (unhide HMx)
              have hs0 : V3.drew.cell? ⟨gb, 0, none⟩ = some (.pointer (some ⟨g, 0, none⟩)) ∧ V3.drew.cell? ⟨g, 0, none⟩ = some (.map (some n)) ∧ V3.drew.cell? ⟨kx, 0, none⟩ = some (.int .i64 2) ∧ V3.drew.cell? ⟨kx, 1, none⟩ = some (.int .i64 ka') ∧ V3.drew.cell? ⟨kx, 2, none⟩ = some (.string kw) ∧ V3.drew.cell? ⟨kx, 3, none⟩ = some (.int .i64 kb') ∧ (Instr.lookup 111 (.map (some n)) (.int .i64 ka') false).run Tryz.prog V3.drew = .ok (.pointer (some ⟨b, 0, none⟩)) V3.drew := ⟨(unhide HI4).box, (unhide HI4).gr.gx.c0, (unhide HBx3).c0, (unhide HBx3).c1, (unhide HBx3).c2, (unhide HBx3).c3, hlk⟩
              have HS0 := hide hs0
              clear b3 HNw HI2 HBx2 x0 x1 x2 x3 hlk hs0
              go_upto_region 17 with fail
              go_region_held3 (fun y => y.cell? ⟨gb, 0, none⟩ = some (.pointer (some ⟨g, 0, none⟩)) ∧ y.cell? ⟨g, 0, none⟩ = some (.map (some n)) ∧ y.cell? ⟨kx, 0, none⟩ = some (.int .i64 2) ∧ y.cell? ⟨kx, 1, none⟩ = some (.int .i64 ka') ∧ y.cell? ⟨kx, 2, none⟩ = some (.string kw) ∧ y.cell? ⟨kx, 3, none⟩ = some (.int .i64 kb') ∧ (Instr.lookup 111 (.map (some n)) (.int .i64 ka') false).run Tryz.prog y = .ok (.pointer (some ⟨b, 0, none⟩)) y)
                (first | exact hs1 | exact unhide HS0)
                (first
                  | (go_at_call 48; refine (unhide HPt).mono ?_; rintro e V4 ⟨rfl, F4, gn4, gw4⟩; have hq := (unhide HI4).gr.put (k := ⟨2, ka', kw, kb'⟩) (show (2 : Int) ≠ 1 by decide) (unhide HMx) rfl (F' := F4) (by rw [gnOf_edge rfl (unhide HMb)]; exact gn4) gw4; have hs1 : V4.cell? ⟨gb, 0, none⟩ = some (.pointer (some ⟨g, 0, none⟩)) ∧ V4.cell? ⟨g, 0, none⟩ = some (.map (some n)) ∧ V4.cell? ⟨kx, 0, none⟩ = some (.int .i64 2) ∧ V4.cell? ⟨kx, 1, none⟩ = some (.int .i64 ka') ∧ V4.cell? ⟨kx, 2, none⟩ = some (.string kw) ∧ V4.cell? ⟨kx, 3, none⟩ = some (.int .i64 kb') ∧ (Instr.lookup 111 (.map (some n)) (.int .i64 ka') false).run Tryz.prog V4 = .ok (.pointer (some ⟨b, 0, none⟩)) V4 := at_put (unhide HI4) (unhide HBx3) (unhide HKx) hq.1 hq.2 (unhide HMx) (unhide HKo).a))
              rename_i hh
              have HI5 : Hid (∃ Nd' Fs', AtI W1 n g gb (fun k => S k at_ t) (L.take (j + 1)) X Nd' Fs' V4) := by
                unfold Hid
                rw [unhide HTk]
                exact ⟨_, _, (unhide HI4).turn hq.1 hq.2⟩
              clear hh hq hs1 gn4 gw4 HPt HGn HI4 HBx3 HS0
              go_wp2
              go_roundw
              case rel =>
                obtain ⟨Nd', Fs', q⟩ := unhide HI5
                exact ⟨j + 1, X, Nd', Fs', by omega, by go_num, q⟩
              case measure => simp [intOf]; omega
            · have HNw := hide (nowhere_b (unhide HI2).gr.gx (unhide HI2).box ⟨2, ka', kw, kb⟩ (unhide HKo) b (unhide HMx) rfl hhb)
              have HNb : Hid (kb ∉ nodesG (L.take j)) := fun q => hhb (((unhide HI2).gr.has kb).2 q)
              clear hhb hk1
              dsimp only at HNw
              go_wp2_with fail
              refine (unhide HNw).mono ?_
              rintro e V3 ⟨rfl, b3⟩
              have HI4 := hide ((unhide HI2).below b3)
              have HI5 : Hid (AtI W1 n g gb (fun k => S k at_ t) (L.take (j + 1)) X Nd Fs V3) := by
                unfold Hid
                rw [unhide HTk]
                exact ⟨(unhide HI4).gr.skip (unhide HK1) (.inr ⟨rfl, unhide HNb⟩), (unhide HI4).box, (unhide HI4).low, (unhide HI4).own, (unhide HI4).two, (unhide HI4).ngb⟩
              clear b3 HNw HI2 HI4 HBx2 x0 x1 x2 x3
              go_wp2
              go_roundw
              case rel => exact ⟨j + 1, X, Nd, Fs, by omega, by go_num, unhide HI5⟩
              case measure => simp [intOf]; omega
          · have HNw := hide (nowhere_p (unhide HI2).gr.gx (unhide HI2).box ⟨3, ka', kw, kb⟩ (unhide HKo) b (unhide HMx) rfl)
            clear hk1
            dsimp only at HNw
            go_wp2_with fail
            refine (unhide HNw).mono ?_
            rintro e V3 ⟨rfl, b3⟩
            have HI4 := hide (((unhide HI2).below b3).below (below_drew V3))
            have HBx3 := hide (((unhide HBx2).below b3).below (below_drew V3))
            have HGn : Hid (GnW V3.drew b (gnOf (fun k => S k at_ t) (L.take j) ka') (Fs b)) := by
              have q := (unhide HI4).gr.gx.node (ka', b) (unhide HMx)
              rw [(unhide HI4).gr.nd (ka', b) (unhide HMx)] at q
              exact q
            have HPt := hide (gn_put_prop (unhide HGn) ka' kw kb (S ⟨3, ka', kw, kb⟩ at_ t) (by show (propsG (fun k => S k at_ t) (L.take j) ka').length ≤ 100000; have := propsG_le (fun k => S k at_ t) (L.take j) ka'; rw [List.length_take] at this; omega))
            have hlk := lookG_at (unhide HI4).gr.gx.map (ka', b) (unhide HKo).a (unhide HMx)
            have hs0 : V3.drew.cell? ⟨gb, 0, none⟩ = some (.pointer (some ⟨g, 0, none⟩)) ∧ V3.drew.cell? ⟨g, 0, none⟩ = some (.map (some n)) ∧ V3.drew.cell? ⟨kx, 0, none⟩ = some (.int .i64 3) ∧ V3.drew.cell? ⟨kx, 1, none⟩ = some (.int .i64 ka') ∧ V3.drew.cell? ⟨kx, 2, none⟩ = some (.string kw) ∧ V3.drew.cell? ⟨kx, 3, none⟩ = some (.int .i64 kb) ∧ (Instr.lookup 111 (.map (some n)) (.int .i64 ka') false).run Tryz.prog V3.drew = .ok (.pointer (some ⟨b, 0, none⟩)) V3.drew := ⟨(unhide HI4).box, (unhide HI4).gr.gx.c0, (unhide HBx3).c0, (unhide HBx3).c1, (unhide HBx3).c2, (unhide HBx3).c3, hlk⟩
            have HS0 := hide hs0
            clear b3 HNw HI2 HBx2 x0 x1 x2 x3 hlk hs0
            go_upto_region 17 with fail
            go_region_held3 (fun y => y.cell? ⟨gb, 0, none⟩ = some (.pointer (some ⟨g, 0, none⟩)) ∧ y.cell? ⟨g, 0, none⟩ = some (.map (some n)) ∧ y.cell? ⟨kx, 0, none⟩ = some (.int .i64 3) ∧ y.cell? ⟨kx, 1, none⟩ = some (.int .i64 ka') ∧ y.cell? ⟨kx, 2, none⟩ = some (.string kw) ∧ y.cell? ⟨kx, 3, none⟩ = some (.int .i64 kb) ∧ (Instr.lookup 111 (.map (some n)) (.int .i64 ka') false).run Tryz.prog y = .ok (.pointer (some ⟨b, 0, none⟩)) y)
              (first | exact hs1 | exact unhide HS0)
              (first
                | (go_at_call 48; refine (unhide HPt).mono ?_; rintro e V4 ⟨rfl, F4, gn4, gw4⟩; have hq := (unhide HI4).gr.put (k := ⟨3, ka', kw, kb⟩) (show (3 : Int) ≠ 1 by decide) (unhide HMx) rfl (F' := F4) (by rw [gnOf_prop rfl]; exact gn4) gw4; have hs1 : V4.cell? ⟨gb, 0, none⟩ = some (.pointer (some ⟨g, 0, none⟩)) ∧ V4.cell? ⟨g, 0, none⟩ = some (.map (some n)) ∧ V4.cell? ⟨kx, 0, none⟩ = some (.int .i64 3) ∧ V4.cell? ⟨kx, 1, none⟩ = some (.int .i64 ka') ∧ V4.cell? ⟨kx, 2, none⟩ = some (.string kw) ∧ V4.cell? ⟨kx, 3, none⟩ = some (.int .i64 kb) ∧ (Instr.lookup 111 (.map (some n)) (.int .i64 ka') false).run Tryz.prog V4 = .ok (.pointer (some ⟨b, 0, none⟩)) V4 := at_put (unhide HI4) (unhide HBx3) (unhide HKx) hq.1 hq.2 (unhide HMx) (unhide HKo).a))
            rename_i hh
            have HI5 : Hid (∃ Nd' Fs', AtI W1 n g gb (fun k => S k at_ t) (L.take (j + 1)) X Nd' Fs' V4) := by
              unfold Hid
              rw [unhide HTk]
              exact ⟨_, _, (unhide HI4).turn hq.1 hq.2⟩
            clear hh hq hs1 gn4 gw4 HPt HGn HI4 HBx3 HS0
            go_wp2
            go_roundw
            case rel =>
              obtain ⟨Nd', Fs', q⟩ := unhide HI5
              exact ⟨j + 1, X, Nd', Fs', by omega, by go_num, q⟩
            case measure => simp [intOf]; omega
        · have HNw := hide (nowhere_a (unhide HI2).gr.gx (unhide HI2).box ⟨kk, ka, kw, kb⟩ (unhide HKo) hha)
          have HNa : Hid (ka ∉ nodesG (L.take j)) := fun q => hha (((unhide HI2).gr.has ka).2 q)
          have hk1e : ¬ kk = 1 := hk1
          clear hha hk1 hk23
          dsimp only at HNw
          go_wp2_with fail
          refine (unhide HNw).mono ?_
          rintro e V3 ⟨rfl, b3⟩
          have HI4 := hide ((unhide HI2).below b3)
          have HI5 : Hid (AtI W1 n g gb (fun k => S k at_ t) (L.take (j + 1)) X Nd Fs V3) := by
            unfold Hid
            rw [unhide HTk]
            exact ⟨(unhide HI4).gr.skip (unhide HK1) (.inl (unhide HNa)), (unhide HI4).box, (unhide HI4).low, (unhide HI4).own, (unhide HI4).two, (unhide HI4).ngb⟩
          clear b3 HNw HI2 HI4 HBx2 x0 x1 x2 x3
          go_wp2
          go_roundw
          case rel => exact ⟨j + 1, X, Nd, Fs, by omega, by go_num, unhide HI5⟩
          case measure => simp [intOf]; omega
    · obtain rfl : j = L.length := by omega
      have hlt' : ¬ (L.length : Int) < (L.length : Int) := by omega
      have cb := (unhide HI).box
      have HF : Hid (AtSays w (fun k => S k at_ t) (.returned (.tuple #[.pointer (some ⟨g, 0, none⟩), .nilIface])) wr) := by
        have hg := (unhide HI).gr
        rw [List.take_length] at hg
        exact ⟨g, n, L, X, Nd, Fs, rfl, hg, unhide HPw, unhide HMe, hlen, fun i hi => by
          have := ((unhide HI).own i hi).1
          omega, (unhide HB1).trans ((unhide HI).low.mono hs1)⟩
      clear HI
      go_wp2
      go_ret2
      exact unhide HF

end Go.Proofs.YtbloahcmakjchabGreatDoor
