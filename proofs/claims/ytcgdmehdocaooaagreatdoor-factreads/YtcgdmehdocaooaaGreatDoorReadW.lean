/- Reading changes: the program's Read, walked. -/
import Derived.Test.YtcgdmehdocaooaaGreatDoorReadB
namespace Go.Proofs.YtcgdmehdocaooaaGreatDoor
open Go.RowKit Go.Shelf

attribute [local go_sem] Oper.semAt_some

/-- What writing gives. -/
def WroteAny (L : List Fop) (w : World) (e : Ending) (w' : World) : Prop :=
  ∃ t u, e = .returned (.tuple #[.string t, u]) ∧ ((okL L ∧ t = ⟨(opsL L).toArray⟩ ∧ u = .nilIface) ∨ (¬ okL L ∧ (u = .iface 23 (.int .i64 4) ∨ ∃ b, u = .iface 75 (.pointer (some ⟨b, 0, none⟩))))) ∧ Below w.heap.size w w'

theorem write_any (L : List Fop) (v : Value) (w : World) (hn : L.length ≤ 1000) (hs : ∀ x, x ∈ L → Small x) (h : ReadsOps w v L) (ht : Tab w) : Calls Tryz.prog 15 #[v] w (WroteAny L w) := by
  by_cases hl : 1 ≤ L.length ∧ L.length ≤ 8
  · rcases first_bad L with hok | ⟨i, hi⟩
    · refine (write_ok L v w hs h ⟨hl.1, hl.2, hok⟩ ht).mono ?_
      rintro e w' ⟨rfl, hb⟩
      exact ⟨_, _, rfl, .inl ⟨⟨hl.1, hl.2, hok⟩, rfl, rfl⟩, hb⟩
    · refine (write_bad L i v w hs h hl hi).mono ?_
      rintro e w' ⟨u, rfl, ⟨b, rfl, _⟩, hb⟩
      refine ⟨_, _, rfl, .inr ⟨fun k => ?_, .inr ⟨b, rfl⟩⟩, hb⟩
      obtain ⟨h1, h2, _⟩ := hi
      rw [k.2.2 _ (List.getElem_mem h1)] at h2
      cases h2
  · refine (write_limit L v w (by omega) h hl).mono ?_
    rintro e w' ⟨rfl, rfl⟩
    exact ⟨_, _, rfl, .inr ⟨fun k => hl ⟨k.1, k.2.1⟩, .inl rfl⟩, Below.refl _ _⟩

theorem read_fails {pre : List Txt} (s : ByteArray) (w W : World) (D : Nat) (hD : w.heap.size ≤ D) (hI : RdI w pre W) (hK : W.heap[D]? = some (.deferred (some []))) (hn : ∀ q, okL q → s.data.toList ≠ opsL q) (a : Act) (ha2 : a.tmps[2]? = some (.pointer (some ⟨w.heap.size, 0, none⟩))) (ha3 : a.tmps[3]? = some (.pointer (some ⟨w.heap.size + 1, 0, none⟩))) :
    bodyPostM Fence.wide 6 Tryz.prog Tryz.f5 (ReadSays s w) .ret { tmps := a.tmps, defers := [{ target := .collected D, args := #[] }] } ((W.setCell ⟨w.heap.size, 0, none⟩ (.slice none 0 0)).setCell ⟨w.heap.size + 1, 0, none⟩ (.iface 23 (.int .i64 3))) := by
  obtain ⟨⟨h0, h1, _⟩, hB⟩ := hI
  have hB2 := (hB.setCell (p := ⟨w.heap.size, 0, none⟩) (Nat.le_refl _) (.slice none 0 0)).setCell (p := ⟨w.heap.size + 1, 0, none⟩) (by simp) (.iface 23 (.int .i64 3))
  have k0 : Boxed ((W.setCell ⟨w.heap.size, 0, none⟩ (.slice none 0 0)).setCell ⟨w.heap.size + 1, 0, none⟩ (.iface 23 (.int .i64 3))) w.heap.size 22 (.slice none 0 0) := (Boxed.set _ h0).kept (grownBy_setCell' _ _ _) (by simp)
  have k1 : Boxed ((W.setCell ⟨w.heap.size, 0, none⟩ (.slice none 0 0)).setCell ⟨w.heap.size + 1, 0, none⟩ (.iface 23 (.int .i64 3))) (w.heap.size + 1) 27 (.iface 23 (.int .i64 3)) := Boxed.set _ (h1.kept (grownBy_setCell' _ _ _) (by simp))
  have hK2 := ((KeepsOthers.setCell W ⟨w.heap.size, 0, none⟩ (.slice none 0 0)).trans (KeepsOthers.setCell _ ⟨w.heap.size + 1, 0, none⟩ (.iface 23 (.int .i64 3)))).same D _ hK rfl
  generalize ((W.setCell ⟨w.heap.size, 0, none⟩ (.slice none 0 0)).setCell ⟨w.heap.size + 1, 0, none⟩ (.iface 23 (.int .i64 3))) = W2 at k0 k1 hK2 hB2 ⊢
  have hc0 := cell_kept k0.cell (grownBy_putObj' _ D (.deferred none)) (fun r e => by cases e; exact ⟨_, hK2, rfl⟩)
  have hc1 := cell_kept k1.cell (grownBy_putObj' _ D (.deferred none)) (fun r e => by cases e; exact ⟨_, hK2, rfl⟩)
  refine ⟨by simp, .inl ⟨_, _, rfl, run_takeDeferred hK2, ?_⟩⟩
  refine ⟨.tuple #[.slice none 0 0, .iface 23 (.int .i64 3)], ?_, .inr ⟨hn, rfl⟩, hB2.trans (belowK_b (w := w) (Nat.le_refl _) W2 D _ _ hD hK2 rfl rfl)⟩
  simp [results, Tryz.f5, go_sem, hc0, hc1, ha2, ha3]

theorem read_good {pre : List Txt} (s : ByteArray) (w W : World) (D : Nat) (hD : w.heap.size ≤ D) (hI : RdI w pre W) (hK : W.heap[D]? = some (.deferred (some []))) (L : List Fop) (v : Value) (hv : ∃ ad cap, v = .slice ad L.length cap) (hL : okL L) (hs : s.data.toList = opsL L) (hR : W.ownsRow w.heap.size 44 7 v L.length (cellsL L)) (a : Act) (ha2 : a.tmps[2]? = some (.pointer (some ⟨w.heap.size, 0, none⟩))) (ha3 : a.tmps[3]? = some (.pointer (some ⟨w.heap.size + 1, 0, none⟩))) :
    bodyPostM Fence.wide 6 Tryz.prog Tryz.f5 (ReadSays s w) .ret { tmps := a.tmps, defers := [{ target := .collected D, args := #[] }] } ((W.setCell ⟨w.heap.size, 0, none⟩ v).setCell ⟨w.heap.size + 1, 0, none⟩ .nilIface) := by
  obtain ⟨⟨h0, h1, _⟩, hB⟩ := hI
  have hB2 := (hB.setCell (p := ⟨w.heap.size, 0, none⟩) (Nat.le_refl _) v).setCell (p := ⟨w.heap.size + 1, 0, none⟩) (by simp) .nilIface
  have k0 : Boxed ((W.setCell ⟨w.heap.size, 0, none⟩ v).setCell ⟨w.heap.size + 1, 0, none⟩ .nilIface) w.heap.size 22 v := (Boxed.set _ h0).kept (grownBy_setCell' _ _ _) (by simp)
  have k1 : Boxed ((W.setCell ⟨w.heap.size, 0, none⟩ v).setCell ⟨w.heap.size + 1, 0, none⟩ .nilIface) (w.heap.size + 1) 27 .nilIface := Boxed.set _ (h1.kept (grownBy_setCell' _ _ _) (by simp))
  have hK2 := ((KeepsOthers.setCell W ⟨w.heap.size, 0, none⟩ v).trans (KeepsOthers.setCell _ ⟨w.heap.size + 1, 0, none⟩ .nilIface)).same D _ hK rfl
  have r1 := hR.kept (grownBy_setCell' W w.heap.size v) (.inr (h0.not_row (by decide) hR).symm)
  have r2 := r1.kept (grownBy_setCell' _ (w.heap.size + 1) .nilIface) (.inr ((h1.kept (grownBy_setCell' W w.heap.size v) (by simp)).not_row (by decide) r1).symm)
  generalize ((W.setCell ⟨w.heap.size, 0, none⟩ v).setCell ⟨w.heap.size + 1, 0, none⟩ .nilIface) = W2 at k0 k1 hK2 hB2 r2 ⊢
  have hc0 := cell_kept k0.cell (grownBy_putObj' _ D (.deferred none)) (fun r e => by cases e; exact ⟨_, hK2, rfl⟩)
  have hc1 := cell_kept k1.cell (grownBy_putObj' _ D (.deferred none)) (fun r e => by cases e; exact ⟨_, hK2, rfl⟩)
  refine ⟨by simp, .inl ⟨_, _, rfl, run_takeDeferred hK2, ?_⟩⟩
  refine ⟨.tuple #[v, .nilIface], ?_, .inl ⟨L, v, hL, hs, rfl, row_ops (ownsRow_putObj r2 _ hK2 rfl)⟩, hB2.trans (belowK_b (w := w) (Nat.le_refl _) W2 D _ _ hD hK2 rfl rfl)⟩
  obtain ⟨ad, cap, rfl⟩ := hv
  simp [results, Tryz.f5, go_sem, hc0, hc1, ha2, ha3]

theorem alloc_op (w : World) (o : Fop) (j : Nat) (u : Value) (h : (opCells o)[j]? = some u) : (w.alloc (.cells #[.int .i64 o.kind, .int .i64 o.a, .string o.word, .int .i64 o.b, .int .i64 o.lo, .int .i64 o.hi, .string o.value] 44)).cell? ⟨w.heap.size, j, none⟩ = some u := by
  rcases j with _ | _ | _ | _ | _ | _ | _ | j
  all_goals (simp [opCells] at h)
  all_goals (subst h; simp [go_sem])

set_option maxRecDepth 100000 in
set_option maxHeartbeats 2000000 in
theorem fact_Read (s : ByteArray) (w : World) (hs : s.size ≤ 100000) (hl : Libs w) (ht : Tab w) :
    Calls Tryz.prog 5 #[.string s] w (ReadSays s w) := by
  have HC := hide (fun W => fact_changes s W)
  refine (callsIn_wide (n := 6)).1 ?_
  have hfC : Fence.wide.fn 13 := trivial
  obtain ⟨⟨mx, hmx⟩, _⟩ := id hl
  refine callsIn_of_wp_marks Tryz.func5 rfl trivial ?_ rfl
  simp only [Tryz.ntmps5, List.size_toArray, List.length_cons, List.length_nil, Nat.reduceAdd, Nat.reduceSub, Array.replicate_succ, Array.replicate_zero, List.push_toArray, List.append_toArray, List.nil_append, List.cons_append]
  gi_wp2_with (gi_at_call 13; refine (callsIn_wide.2 (unhide HC _)).mono ?_; rintro e w2 ⟨rfl, rfl⟩)
  have b0 := Boxed.new w 22 (.slice none 0 0)
  have b1 := Boxed.new (w.alloc (.cells #[.slice none 0 0] 22)) 27 .nilIface
  have b2 := Boxed.new ((w.alloc (.cells #[.slice none 0 0] 22)).alloc (.cells #[.nilIface] 27)) 22 (.slice none 0 0)
  have b3 := Boxed.new (((w.alloc (.cells #[.slice none 0 0] 22)).alloc (.cells #[.nilIface] 27)).alloc (.cells #[.slice none 0 0] 22)) 9 (.string s)
  simp only [World.size_alloc] at b1 b2 b3
  have hB0 : Below w.heap.size w ((((w.alloc (.cells #[.slice none 0 0] 22)).alloc (.cells #[.nilIface] 27)).alloc (.cells #[.slice none 0 0] 22)).alloc (.cells #[.string s] 9)) := ((((Below.refl _ w).alloc (Nat.le_refl _) _).alloc (by simp) _).alloc (by simp; omega) _).alloc (by simp; omega) _
  have hI0 : RdI w [] ((((w.alloc (.cells #[.slice none 0 0] 22)).alloc (.cells #[.nilIface] 27)).alloc (.cells #[.slice none 0 0] 22)).alloc (.cells #[.string s] 9)) :=
    ⟨⟨((b0.alloc _).alloc _).alloc _, (b1.alloc _).alloc _, [], .slice none 0 0, b2.alloc _, ⟨rfl, .inl ⟨rfl, rfl⟩⟩, rfl, by simp, by simp, Told.nil⟩, hB0⟩
  have hsz : ((((w.alloc (.cells #[.slice none 0 0] 22)).alloc (.cells #[.nilIface] 27)).alloc (.cells #[.slice none 0 0] 22)).alloc (.cells #[.string s] 9)).heap.size = w.heap.size + 1 + 1 + 1 + 1 := by simp
  have hb3c := b3.cell
  clear b0 b1 b2 b3
  have HI0 := hide hI0
  have HB0 := hide hB0
  clear hI0 hB0
  generalize hW4 : ((((w.alloc (.cells #[.slice none 0 0] 22)).alloc (.cells #[.nilIface] 27)).alloc (.cells #[.slice none 0 0] 22)).alloc (.cells #[.string s] 9)) = w4 at HI0 HB0 hsz hb3c ⊢
  have hgl : 0 < w.heap.size := lt_of_cell hmx
  refine wpIn_rangeFunc_ownF rfl (by decide) (gf := 26) (lb := #[.pointer (some ⟨w.heap.size + 1 + 1 + 1, 0, none⟩)]) rfl trivial (enters_of Tryz.func26 (by kernel_rfl) rfl)
    (changes_stops s 5 (w.heap.size + 1 + 1 + 1) w.heap.size mx w4 (by decide) hs hb3c (((unhide HB0).cell (p := ⟨0, 0, none⟩) hgl).trans hmx) hgl) belowK_t (belowK_b (by omega)) (Below.refl _ _) (fun _ => rfl)
    (RdI w) (RdX w) (rdI_own w _ (by omega)) (fun c => rdX_own w _ (by omega) c) (unhide HI0)
    (fun x => { tmps := #[.string s, undef, .pointer (some ⟨w.heap.size, 0, none⟩), .pointer (some ⟨w.heap.size + 1, 0, none⟩), .pointer (some ⟨w.heap.size + 1 + 1, 0, none⟩), .string x.1, undef, undef, undef, undef, .string s, .func (.func 26) #[] #[.pointer (some ⟨w.heap.size + 1 + 1 + 1, 0, none⟩)], .string x.1, undef, undef, undef, undef, undef, undef, undef, undef, undef, undef, undef, undef, undef, undef, undef, undef, undef, undef, undef, undef, undef, undef, undef, undef, undef, undef, undef, undef, undef, undef, undef], defers := [] }) ?assign ?body ?done ?stop
  case assign =>
    intro l x W K hK
    gi_wp2
    exact hK
  case body =>
    rintro l pre x W hI _
    have HI := hide hI
    have hlW := hl.carry hI.2
    have HR := hide (fact_read x.1 W x.2 hlW)
    clear hI HI0 HB0 hW4 hb3c hlW HC hl ht
    have hfR : Fence.wide.fn 14 := trivial
    gi_wp2_with (gi_at_call 14; refine (CallsIn.inRound l (callsIn_wide.2 (unhide HR))).mono ?_; rintro e w2 ⟨o, ok, rfl, hsm, hq, hb⟩; refine Hid.out ?_)
    refine hide ?_
    have hI2 := (unhide HI).carry hb
    have hK2 : KeepsOthers W w2 := KeepsOthers.of_grownBy (row := none) ⟨hb.os, hb.tape, hb.output, hb.size, fun k hk _ => hb.block k hk⟩ (fun j o ej _ => by cases ej)
    have HQ := hide hq
    have HSO : Hid (Small o) := hide ⟨by unfold maxLen; have := hsm.1; have := x.2; omega, by unfold maxLen; have := hsm.2; have := x.2; omega⟩
    have hWs : w.heap.size ≤ W.heap.size := (unhide HI).2.size
    have HB := hide hb
    clear HR HI hq hb hsm
    rename_i K1 hK1 K0 hK0
    have HK1 := hide hK1
    clear hK1
    unfold opV opCells
    gi_wp2
    have hcs := alloc_op w2 o
    have c0 := hcs 0 _ rfl
    have c1 := hcs 1 _ rfl
    have c2 := hcs 2 _ rfl
    have c3 := hcs 3 _ rfl
    have c4 := hcs 4 _ rfl
    have c5 := hcs 5 _ rfl
    have c6 := hcs 6 _ rfl
    have hb3 := (Below.refl w2.heap.size w2).alloc (Nat.le_refl _) (.cells #[.int .i64 o.kind, .int .i64 o.a, .string o.word, .int .i64 o.b, .int .i64 o.lo, .int .i64 o.hi, .string o.value] 44)
    have hk3 := hK2.trans (KeepsOthers.alloc w2 (.cells #[.int .i64 o.kind, .int .i64 o.a, .string o.word, .int .i64 o.b, .int .i64 o.lo, .int .i64 o.hi, .string o.value] 44))
    generalize w2.alloc (.cells #[.int .i64 o.kind, .int .i64 o.a, .string o.word, .int .i64 o.b, .int .i64 o.lo, .int .i64 o.hi, .string o.value] 44) = w3 at c0 c1 c2 c3 c4 c5 c6 hb3 hk3 ⊢
    have hI3 := hI2.carry hb3
    have HBW := hide ((unhide HB).trans (hb3.mono (unhide HB).size) : Below W.heap.size W w3)
    have HK3 := hide hk3
    clear hI2 hK2 HB hb3 hk3 hcs
    generalize w2.heap.size = B at c0 c1 c2 c3 c4 c5 c6 ⊢
    have HI3 := hide hI3
    obtain ⟨⟨h0, h1, L, v, hv, hrow, hLp, hL8, hLs, hT⟩, hBw⟩ := hI3
    obtain ⟨ad, cap, rfl⟩ := row_slice hrow
    have d0 := h0.cell
    have d0f := h0.frozen
    have d1 := h1.cell
    have d1f := h1.frozen
    have d2 := hv.cell
    cases ok with
    | false =>
      have hn : NoneOf (pre ++ [x]) := none_bad (fun q hq e => by cases (unhide HQ q hq e).1)
      have HN := hide hn
      clear hn hrow hLs hT hv h0 h1 hBw c0 c1 c2 c3 c4 c5 c6 d2
      refine unhide HK1 _ _ ?_
      clear HK1
      gi_wp2
      exact ⟨(unhide HK3).trans ((KeepsOthers.setCell _ _ _).trans (KeepsOthers.setCell _ _ _)), (unhide HI3).stop (unhide HN)⟩
    | true =>
      by_cases h8 : L.length = 8
      · have hn : NoneOf (pre ++ [x]) := none_long (by omega)
        have HN := hide hn
        rw [h8] at d2
        clear hn hrow hLs hT hv h0 h1 hBw c0 c1 c2 c3 c4 c5 c6 hLp hL8 h8
        refine unhide HK1 _ _ ?_
        clear HK1
        gi_wp2
        exact ⟨(unhide HK3).trans ((KeepsOthers.setCell _ _ _).trans (KeepsOthers.setCell _ _ _)), (unhide HI3).stop (unhide HN)⟩
      · have hq : ∀ q, opB q = true → x.1.data.toList = opL q → o = q := fun q h e => (unhide HQ q h e).2
        have HT := hide (hT.snoc hq)
        have HLS := hide hLs
        have HSZ := hide (hBw.size)
        have HR := hide hrow
        have HV := hide hv
        have H0 := hide h0
        have H1 := hide h1
        have HBw := hide hBw
        have h8' : ((L.length : Int) == 8) = false := by simp; omega
        have HLP := hide hLp
        clear hrow hLs hT hv h0 h1 hBw hq hLp
        refine unhide HK1 _ _ ?_
        clear HK1
        gi_wp2_with (refine wpListIn_appO _ rfl _ _ rfl w.heap.size (.slice ad L.length cap) L rfl ((unhide HR).alloc _) w3.heap.size o rfl (alloc_op w3 o) (by omega) (by have := unhide HSZ; simp; omega) ?_; intro v' w5 hown' hgrow; refine Hid.out ?_)
        refine hide ?_
        have hszw := unhide HSZ
        obtain ⟨e1, e2, e3, e4, e5⟩ := (unhide HV).appended (by decide) (unhide HR) hszw (by omega) hown' hgrow
        have k0 : Boxed (w5.setCell ⟨w.heap.size + 1 + 1, 0, none⟩ v') w.heap.size 22 (.slice none 0 0) := (((unhide H0).alloc _).kept hgrow ((unhide H0).not_row (by decide) (unhide HR))).kept (grownBy_setCell' _ _ _) (by simp; omega)
        have k1 : Boxed (w5.setCell ⟨w.heap.size + 1 + 1, 0, none⟩ v') (w.heap.size + 1) 27 .nilIface := (((unhide H1).alloc _).kept hgrow ((unhide H1).not_row (by decide) (unhide HR))).kept (grownBy_setCell' _ _ _) (by simp)
        obtain ⟨g, cap', hv'⟩ := ownsRow_succ (k := L.length) (by simpa using hown')
        have hfin : ownPostK (Below w.heap.size) (RdI w) (RdX w) (pre ++ [x]) W .normal ⟨#[], []⟩ (w5.setCell ⟨w.heap.size + 1 + 1, 0, none⟩ v') :=
          ⟨(unhide HK3).trans e4, ((unhide HBW).mono hWs).trans e5, ⟨k0, k1, L ++ [o], v', e2, e3, by have := unhide HLP; simp; omega, by simp; omega, fun y hy => (List.mem_append.1 hy).elim (unhide HLS y) (fun e => by simp at e; subst e; exact unhide HSO), unhide HT⟩, (unhide HBw).trans e5⟩
        have HF := hide hfin
        have r1 := e1.cell
        have r2 := e1.frozen
        subst hv'
        clear hfin k0 k1 e1 e2 e3 e4 e5 hown' hgrow HBw H0 H1 HV HR HT HLS HI3 HK3
        gi_wp2
        exact unhide HF
  case done =>
    rintro D ys W hD hys hI hK
    have hDlt : D < W.heap.size := (Array.getElem?_eq_some_iff.1 hK).1
    have htW := ht.carry hI.2
    have HI := hide hI
    obtain ⟨⟨h0, h1, L, v, hv, hrow, hLp, hL8, hLs, hT⟩, hBw⟩ := hI
    have HE := hide (told_end hT hys)
    have d2 := hv.cell
    have HW := hide (write_any L v W (by omega) hLs (row_ops hrow) htW)
    have HR := hide hrow
    have HV := hide hv
    have HK := hide hK
    obtain ⟨ad, cap, rfl⟩ := row_slice hrow
    clear htW h0 h1 hv hrow hLp hL8 hLs hT hBw hK HI0 HB0 hW4 hb3c HC hl ht hys
    have hfW : Fence.wide.fn 15 := trivial
    gi_wp2_with (gi_at_call 15; refine (callsIn_wide.2 (unhide HW)).mono ?_; rintro e w6 ⟨t, u, rfl, hcase, hb⟩; refine Hid.out ?_)
    refine hide ?_
    have hI6 := (unhide HI).carry hb
    have hK6 := (hb.block D hDlt).trans (unhide HK)
    have hR6 := ownsRow_carry (unhide HR) hb
    have hV6 := Boxed.carry (unhide HV) hb
    clear HW HI HK HR HV hb d2
    have hDb : w.heap.size ≤ D := by omega
    have HX := hide (fun hn => read_fails (pre := ys) s w w6 D hDb hI6 hK6 hn)
    have HI6 := hide hI6
    have HK6 := hide hK6
    obtain ⟨⟨h0, h1, _⟩, _⟩ := hI6
    have d0 := h0.cell
    have d0f := h0.frozen
    have d1 := h1.cell
    have d1f := h1.frozen
    have d2 := hV6.cell
    have HR6 := hide hR6
    clear h0 h1 hV6 hR6 hK6
    rcases hcase with ⟨hok, rfl, rfl⟩ | ⟨hno, rfl | ⟨b, rfl⟩⟩
    · by_cases hst : (⟨(opsL L).toArray⟩ : ByteArray) = s
      · have hsd : s.data.toList = opsL L := by rw [← hst]
        have HN := hide (read_good (pre := ys) s w w6 D hDb (unhide HI6) (unhide HK6) L (.slice ad L.length cap) ⟨_, _, rfl⟩ hok hsd (unhide HR6))
        clear HX HE hok hsd
        rw [hst]
        clear hst
        gi_wp2
        exact unhide HN ⟨_, []⟩ rfl rfl
      · have hbe : ((⟨(opsL L).toArray⟩ : ByteArray).toList == s.toList) = false := by
          rw [beq_eq_false_iff_ne, ByteArray.toList_eq, ByteArray.toList_eq]
          exact fun e => hst (by rw [show (opsL L).toArray = s.data from Array.toList_inj.1 e])
        have HN := hide (unhide HX (fun q hq e => hst (by rw [unhide HE q hq e, ← e])))
        clear HX HE hok hst
        generalize (⟨(opsL L).toArray⟩ : ByteArray) = t at hbe ⊢
        gi_wp2
        exact unhide HN ⟨_, []⟩ rfl rfl
    · have HN := hide (unhide HX (fun q hq e => hno (by rw [unhide HE q hq e]; exact hq)))
      clear HX HE hno
      gi_wp2
      exact unhide HN ⟨_, []⟩ rfl rfl
    · have HN := hide (unhide HX (fun q hq e => hno (by rw [unhide HE q hq e]; exact hq)))
      clear HX HE hno
      gi_wp2
      exact unhide HN ⟨_, []⟩ rfl rfl
  case stop =>
    rintro D c pre W hD hpre ⟨⟨rfl, h0, h1, hn⟩, hB⟩ hK
    have c0 := h0.cell
    have c1 := h1.cell
    gi_wp2
    refine ⟨by simp, .inl ⟨_, _, rfl, run_takeDeferred hK, ?_⟩⟩
    have hc0 := cell_kept c0 (grownBy_putObj' _ D (.deferred none)) (fun r e => by cases e; exact ⟨_, hK, rfl⟩)
    have hc1 := cell_kept c1 (grownBy_putObj' _ D (.deferred none)) (fun r e => by cases e; exact ⟨_, hK, rfl⟩)
    refine ⟨.tuple #[.slice none 0 0, .iface 23 (.int .i64 3)], ?_, .inr ⟨none_end hn hpre, rfl⟩, hB.trans (belowK_b (w := w) (Nat.le_refl _) W D _ _ (by omega) hK rfl rfl)⟩
    simp [results, Tryz.f5, go_sem, hc0, hc1]

end Go.Proofs.YtcgdmehdocaooaaGreatDoor
