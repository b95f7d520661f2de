/- Texts of one proof, one behind the other. -/
import Derived.Test.YtfoojmflbifkpaaGreatDoorDd
import Derived.Test.YtfoojmflbifkpaaGreatDoorDb
import Derived.Test.YtfoojmflbifkpaaGreatDoorDc
import Derived.Deep.CutBlock

/- The document's graph: how far others are: walked. -/
namespace Go.Proofs.YtfoojmflbifkpaaGreatDoor
open Go.RowKit Go.Maps
theorem KeysC.set {D : DataW Unit} {C : List (Int × Int)} (h : KeysC D C) (ht : Tidy D) (b a : Int) (hn : b ∈ C.map (·.1)) : KeysC (D.put (.int .i64 b) (.lit (.int .i64 a))) (setC C b a) := by
  refine ⟨fun x hx => ?_, fun n => ?_, ?_⟩
  · rcases mem_setC.1 hx with ⟨hne, hx⟩ | ⟨rfl, _⟩
    · rw [Maps.atKey_put_other (lit_ne hne)]
      exact h.there x hx
    · exact Maps.atKey_put_same (k := .int .i64 b) ht.isMap trivial _ _
  · rw [setC_keys]
    by_cases q : n = b
    · subst q
      rw [Maps.has_put_same (k := .int .i64 n) ht.isMap trivial]
      simp only [hn, decide_true]
    · rw [Maps.has_put_other (lit_ne q), h.has n]
  · rw [Maps.size_put ht, h.has b, h.size, setC_length]
    simp only [hn, decide_true]
    rfl
theorem CameW.put {w : World} {m : Nat} {C : List (Int × Int)} (h : CameW w m C) (b a : Int) (hb : (Lit.int .i64 b).wf = true) (hl : C.length ≤ 1000000) :
    ∃ w', (Instr.mapUpdate 148 (.map (some m)) (.int .i64 b) (.int .i64 a)).run Tryz.prog w = .ok () w' ∧ CameW w' m (putC C b a) ∧ w.mapTurned w' m := by
  unfold putC
  by_cases hn : b ∈ C.map (·.1)
  · rw [if_pos hn]
    obtain ⟨D, h1, h2⟩ := h
    obtain ⟨w', r1, r2, r3⟩ := h1.store keyedV Tryz.underlying148 (by unfold maxLen; omega) (keyOf_int_mk Tryz.underlying3 hb) (val := .int .i64 a) (d := .lit (.int .i64 a)) (ps := []) rfl
    have h3 := h2.set (h1.tidy keyedV) b a hn
    have h4 := ownsMap_size r2
    rw [h3.size] at h4
    exact ⟨w', r1, ⟨_, h4, h3⟩, r3⟩
  · rw [if_neg hn]
    exact h.store b a hb hn hl
theorem wpList_putC (w : World) {ops : Array Oper} {rest : List Oper} {o : Oper} {a : Act} {Q : Exit → Act → World → Prop} (hgd : o.guard = none) (mo ko vo : Operand)
    (ho : o.op = .mapUpdate 148 mo ko vo) (m : Nat) (C : List (Int × Int)) (b x : Int) (hm : a.eval mo = .map (some m)) (hk : a.eval ko = .int .i64 b) (hv : a.eval vo = .int .i64 x)
    (hown : CameW w m C) (hb : (Lit.int .i64 b).wf = true) (hl : C.length ≤ 1000000)
    (h : ∀ w', CameW w' m (putC C b x) → w.mapTurned w' m → wpList Tryz.prog ops Q rest (a.put o.dst undef) w') : wpList Tryz.prog ops Q (o :: rest) a w := by
  refine wpList_plain hgd fun K' hK' => ?_
  obtain ⟨w', hrun, r1, r2⟩ := hown.put b x hb hl
  unfold Oper.wp
  simp [execOp, ho, hm, hk, hv, hrun, Result.andThen]
  exact hK' _ _ (h w' r1 r2)
structure FarW (w : World) (mb : Nat) (C : List (Int × Int)) (y : World) : Prop where
  came : CameW y mb C
  low : Below w.heap.size w y
  far : w.heap.size ≤ mb
theorem FarW.below {w : World} {mb : Nat} {C : List (Int × Int)} {y y' : World} (h : FarW w mb C y) (hb : Below y.heap.size y y') : FarW w mb C y' :=
  ⟨h.came.below hb, h.low.trans (hb.mono h.low.size), h.far⟩
theorem FarW.turn {w : World} {mb : Nat} {C C' : List (Int × Int)} {y y' : World} (h : FarW w mb C y) (hc : CameW y' mb C') (ht : y.mapTurned y' mb) : FarW w mb C' y' :=
  ⟨hc, h.low.trans (keeps_below (turned_keeps ht) (fun i e => by have := h.far; omega) h.low.size), h.far⟩
def FarSays (w : World) (nx : Int → List Int) (n : Int) (e : Ending) (w' : World) : Prop :=
  ∃ mb C, e = .returned (.map (some mb)) ∧ FarW w mb C w' ∧ (C.map (·.1)).Nodup ∧ C.length ≤ 4000 ∧ ∀ b d, (b, d) ∈ C ↔ ∃ i : Nat, d = (i : Int) ∧ b ∈ (rounds nx n i).2
def Okk (word : ByteArray) (C : List (Int × Int)) (k : Ky) : Prop := ofWord word k = true → ∀ d, (k.a, d) ∈ C → ∃ y, (k.b, y) ∈ C ∧ y ≤ d + 1
structure FarT (V : Ky → ByteArray) (L : List Ky) (word : ByteArray) (nx : Int → List Int) (N : List Int) : Prop where
  lead : ∀ k, k ∈ L.filter (edgeB V) → ofWord word k = true → k.b ∈ nx k.a ∧ k.b ∈ N
  led : ∀ a, a ∈ N → ∀ b, b ∈ nx a → ∃ k, k ∈ L.filter (edgeB V) ∧ k.a = a ∧ k.b = b ∧ ofWord word k = true
  wf : ∀ k, k ∈ L → (Lit.int .i64 k.a).wf = true ∧ (Lit.int .i64 k.b).wf = true
  len : N.length ≤ 4000
structure FarJ (w : World) (mb : Nat) (nx : Int → List Int) (n : Int) (N : List Int) (word : ByteArray) (E : List Ky) (C C' : List (Int × Int)) (bb : Bool) (j : Nat) (W1 y : World) : Prop where
  f : FarI nx n N C'
  w : FarW w mb C' y
  less : bb = true → massC N.length C' < massC N.length C
  same : bb = false → C' = C ∧ ∀ i, (hi : i < E.length) → i < j → Okk word C E[i]
  kp : Keeps (· = mb) W1 y
theorem FarJ.skip {w : World} {mb : Nat} {nx : Int → List Int} {n : Int} {N : List Int} {word : ByteArray} {E : List Ky} {C C' : List (Int × Int)} {bb : Bool} {j : Nat} {W1 y y' : World} (h : FarJ w mb nx n N word E C C' bb j W1 y) (hb : Below y.heap.size y y') (hj : j < E.length) (ho : Okk word C' E[j]) : FarJ w mb nx n N word E C C' bb (j + 1) W1 y' :=
  ⟨h.f, h.w.below hb, h.less, fun e => by
    obtain ⟨e1, e2⟩ := h.same e
    refine ⟨e1, fun i hi hij => ?_⟩
    rcases Nat.lt_or_ge i j with q | q
    · exact e2 i hi q
    · obtain rfl : i = j := by omega
      rw [e1] at ho
      exact ho, h.kp.then (Keeps.of_below _ hb (Nat.le_refl _)) (fun _ _ q => q)⟩
set_option maxRecDepth 100000 in
set_option maxHeartbeats 4000000 in
theorem rg_far {B : Nat} {w : World} {g : Nat} {V : Ky → ByteArray} {L : List Ky} (h : RefG B w g V L) {word : ByteArray} {nx : Int → List Int} {N : List Int} (hT : FarT V L word nx N) (n : Int) (hn : n ∈ N) (hwn : (Lit.int .i64 n).wf = true) :
    Calls Tryz.prog 69 #[.pointer (some ⟨g, 0, none⟩), .int .i64 n, .string word] w (FarSays w nx n) := by
  have HT := hide hT
  have HF0 := hide (FarI.start nx n hn)
  have HEd := hide (fun W (hb : Below w.heap.size w W) => rg_Edges (h.below hb))
  have hEl : (L.filter (edgeB V)).length ≤ 4000 := Nat.le_trans (List.length_filter_le _ _) h.len
  have HEm : Hid (∀ k, k ∈ L.filter (edgeB V) → k ∈ L) := fun k hk => (List.mem_filter.1 hk).1
  have hmm := @run_makeMap Tryz.prog
  clear h hT hn
  obtain ⟨E, hE⟩ : ∃ E, E = L.filter (edgeB V) := ⟨_, rfl⟩
  have HEe := hide hE
  rw [← hE] at HEd hEl HEm
  clear hE
  go_enter Tryz.func69, Tryz.ntmps69
  go_wp2_with (first
    | (refine wpList_insC _ rfl (.tmp 15) (.tmp 16) (.const (.int .i64 0)) (.inl rfl) w.heap.size [] n 0 rfl rfl rfl (came_new w) hwn (by simp) (by simp) ?_))
  intro W0 hc ht
  have HW0 : Hid (FarW w w.heap.size [(n, 0)] W0) := ⟨hc, (below_box w (.map #[] 0)).trans (keeps_below (turned_keeps ht) (fun i e => by omega) (by simp)), Nat.le_refl _⟩
  clear hc ht hmm hwn
  generalize hmb : w.heap.size = mb at *
  have HMb := hide hmb
  clear hmb
  go_wp2
  go_loopg [8] (massC N.length [(n, 0)] + 1) (fun gy m y => ∃ C bb, m = .bool bb ∧ FarI nx n N C ∧ FarW w mb C y ∧ massC N.length C + (if bb = true then 1 else 0) ≤ gy ∧ (bb = true ∨ ∀ i, (hi : i < E.length) → Okk word C E[i]))
  case atStart => exact ⟨_, true, rfl, unhide HF0, unhide HW0, by simp, .inl rfl⟩
  case round =>
    revert wr
    intro wo hrel
    obtain ⟨C, bb, rfl, hF, hW, hg, hx⟩ := hrel
    have HF := hide hF
    have HW := hide hW
    have HX := hide hx
    have HG := hide hg
    clear hF hW hx hg HF0 HW0
    cases bb with
    | false =>
      have HFin : Hid (FarSays w nx n (.returned (.map (some mb))) wo) := by
        refine ⟨mb, C, rfl, unhide HW, (unhide HF).nd, Nat.le_trans (unhide HF).le (unhide HT).len, (unhide HF).done (fun a d b hab hb => ?_)⟩
        rcases unhide HX with q | q
        · cases q
        · obtain ⟨k, hk, rfl, rfl, how⟩ := (unhide HT).led a ((unhide HF).inN _ hab) b hb
          rw [← unhide HEe] at hk
          obtain ⟨i, hi, rfl⟩ := List.getElem_of_mem hk
          exact q i hi how d hab
      go_wp2
      go_ret
      exact unhide HFin
    | true =>
      have HEo := hide (unhide HEd wo (by rw [← unhide HMb]; exact (unhide HW).low))
      go_wp2_with fail
      refine (unhide HEo).mono ?_
      rintro e W1 ⟨ev, rfl, hrE, b1⟩
      obtain ⟨ge, ade, ce, rfl, hfe⟩ := RowY.cells hrE
      have HE := hide hfe
      have HGe : Hid (∀ j, j < E.length → ge ≠ mb) := fun j hj e => by
        obtain ⟨e1, _⟩ := hfe j hj
        have h1 := (World.ownsRow.lt (show World.ownsRow _ _ _ _ _ _ _ from hrE) ge (by rw [e1]; rfl)).1
        have h2 := (unhide HW).came.lt
        omega
      have HJ0 : Hid (FarJ w mb nx n N word E C C false 0 W1 W1) := ⟨unhide HF, (unhide HW).below b1, fun e => (by cases e), fun _ => ⟨rfl, fun i _ hi => (by omega)⟩, Keeps.refl _ _⟩
      clear hrE hfe b1 HEo
      go_wp2
      go_loopw [8, 22] (fun m k y => ∃ (j : Nat) (C' : List (Int × Int)) (bb : Bool), j ≤ E.length ∧ k = .int .i64 j ∧ m = .bool bb ∧ FarJ w mb nx n N word E C C' bb j W1 y) (fun _ k _ => E.length - (intOf k).toNat)
      case atStart => exact ⟨0, C, false, Nat.zero_le _, rfl, rfl, unhide HJ0⟩
      case round =>
        obtain ⟨j, C', bb, hj, rfl, rfl, hJ⟩ := hrel
        have HJ := hide hJ
        clear hJ HJ0
        by_cases hlt : j < E.length
        · have hlt' : (j : Int) < (E.length : Int) := by omega
          have hj0 : (0 : Int) ≤ (j : Int) := by omega
          obtain ⟨rfl, a0, a1, a2, a3⟩ := unhide HE j hlt
          have hne := unhide HGe j hlt
          have HJs := hide (fun y' hb ho => (unhide HJ).skip (y' := y') hb hlt ho)
          have HKm : Hid (E[j] ∈ E) := List.getElem_mem hlt
          obtain ⟨k, hkk⟩ : ∃ k, k = E[j] := ⟨_, rfl⟩
          rw [← hkk] at a0 a1 a2 a3 HJs HKm
          have z0 := ((unhide HJ).kp.cell (p := ⟨ge, j * 4, none⟩) (lt_of_cell a0) hne).trans a0
          have z1 := ((unhide HJ).kp.cell (p := ⟨ge, j * 4 + 1, none⟩) (lt_of_cell a1) hne).trans a1
          have z2 := ((unhide HJ).kp.cell (p := ⟨ge, j * 4 + 2, none⟩) (lt_of_cell a2) hne).trans a2
          have z3 := ((unhide HJ).kp.cell (p := ⟨ge, j * 4 + 3, none⟩) (lt_of_cell a3) hne).trans a3
          have HBk := hide (below_box wr (.cells #[.int .i64 k.kind, .int .i64 k.a, .string k.word, .int .i64 k.b] 32))
          have HBx := hide (boxK_new wr k)
          clear a0 a1 a2 a3 hkk hne
          go_upto_region 8 with fail
          have HC1 := hide ((unhide HJ).w.came.below (unhide HBk))
          generalize hV1 : wr.alloc (.cells #[.int .i64 k.kind, .int .i64 k.a, .string k.word, .int .i64 k.b] 32) = V1 at *
          clear z0 z1 z2 z3 hV1
          go_cut [33] (fun s33 wx => s33 = .bool (!ofWord word k) ∧ wx = V1)
          case first =>
            have x2 := (unhide HBx).c2
            by_cases hw : word = ⟨#[]⟩
            · subst hw
              have HO : Hid (ofWord ⟨#[]⟩ k = true) := by simp [Hid, ofWord]
              go_wp2
              go_meet
              case rel => exact ⟨by rw [unhide HO]; rfl, rfl⟩
            · have hnw := list_some word hw
              by_cases hkw : k.word = word
              · have HO : Hid (ofWord word k = true) := by simp [Hid, ofWord, hkw]
                rw [hkw] at x2
                clear hkw hw
                go_wp2
                go_meet
                case rel => exact ⟨by rw [unhide HO]; rfl, rfl⟩
              · have HO : Hid (ofWord word k = false) := by simp [Hid, ofWord, hkw, hw]
                have hbe : (k.word.toList == word.toList) = false := toList_ne hkw
                clear hkw hw
                go_wp2
                go_meet
                case rel => exact ⟨by rw [unhide HO]; rfl, rfl⟩
          case rest =>
            obtain ⟨rfl, hwc⟩ := hcut
            obtain rfl : V1 = wc := hwc.symm
            clear hwc
            cases hof : ofWord word k with
            | false =>
              have HJ2 := hide (unhide HJs _ (unhide HBk) (fun e => by rw [hof] at e; cases e))
              go_wp2
              go_roundw
              case rel => exact ⟨j + 1, C', bb, by omega, by go_num, rfl, unhide HJ2⟩
              case measure => simp [intOf]; omega
            | true =>
              have x1 := (unhide HBx).c1
              have x3 := (unhide HBx).c3
              obtain ⟨wa, wb⟩ := (unhide HT).wf k (unhide HEm k (unhide HKm))
              obtain ⟨d, hrd, hd⟩ := (unhide HC1).look k.a wa
              obtain ⟨c, hrc, hc⟩ := (unhide HC1).look k.b wb
              by_cases ma : k.a ∈ C'.map (·.1)
              · rw [decide_eq_true ma] at hrd
                have had : (k.a, d) ∈ C' := by
                  obtain ⟨x, hx, e⟩ := List.mem_map.1 ma
                  have := hd x hx e
                  obtain ⟨x1, x2⟩ := x
                  dsimp only at e this
                  rw [← e, this]
                  exact hx
                have HAd := hide had
                have hd0 := ((unhide HJ).f.goes _ had).1
                have hd1 : d ≤ 4000 := by
                  have h1 := (unhide HJ).f.small _ had
                  have h2 := (unhide HJ).f.le
                  have h3 := (unhide HT).len
                  dsimp only at h1
                  omega
                dsimp only at hd0
                have HTo := hide ((unhide HT).lead k (by rw [← unhide HEe]; exact unhide HKm) hof)
                have hCl : C'.length ≤ 1000000 := by
                  have h2 := (unhide HJ).f.le
                  have h3 := (unhide HT).len
                  omega
                have relax : Hid ((k.b ∉ C'.map (·.1) ∨ ∃ y, (k.b, y) ∈ C' ∧ d + 1 < y) → ∀ y', CameW y' mb (putC C' k.b (d + 1)) → V1.mapTurned y' mb → FarJ w mb nx n N word E C (putC C' k.b (d + 1)) true (j + 1) W1 y') := fun hr y' hcw htu => by
                  obtain ⟨f1, f2⟩ := (unhide HJ).f.relax (unhide HAd) (unhide HTo).1 (unhide HTo).2 hr
                  refine ⟨f1, ((unhide HJ).w.below (unhide HBk)).turn hcw htu, fun _ => ?_, fun e => (by cases e), ((unhide HJ).kp.then (Keeps.of_below _ (unhide HBk) (Nat.le_refl _)) (fun _ _ q => q)).then (turned_keeps htu) (fun _ _ q => q)⟩
                  cases bb with
                  | true => exact Nat.lt_trans f2 ((unhide HJ).less rfl)
                  | false =>
                    have e1 := ((unhide HJ).same rfl).1
                    rw [e1] at f2 ⊢
                    exact f2
                clear hd had ma wa
                by_cases mb' : k.b ∈ C'.map (·.1)
                · rw [decide_eq_true mb'] at hrc
                  have hbc : (k.b, c) ∈ C' := by
                    obtain ⟨x, hx, e⟩ := List.mem_map.1 mb'
                    have := hc x hx e
                    obtain ⟨x1, x2⟩ := x
                    dsimp only at e this
                    rw [← e, this]
                    exact hx
                  by_cases hdc : d + 1 < c
                  · have HRl := hide (unhide relax (.inr ⟨c, hbc, hdc⟩))
                    clear hc hbc mb'
                    go_wp2_with (first
                      | (refine wpList_putC _ rfl (.tmp 59) (.tmp 61) (.tmp 63) rfl mb C' k.b (d + 1) rfl rfl rfl (unhide HC1) wb hCl ?_))
                    intro y' r1 r2
                    have HJ3 := hide (unhide HRl y' r1 r2)
                    clear r1 r2
                    go_wp2
                    go_roundw
                    case rel => exact ⟨j + 1, _, true, by omega, by go_num, rfl, unhide HJ3⟩
                    case measure => simp [intOf]; omega
                  · have HJ2 := hide (unhide HJs _ (unhide HBk) (fun _ d' hd' => ⟨c, hbc, by have := one_val (unhide HJ).f.nd hd' (unhide HAd); omega⟩))
                    clear hc hbc mb'
                    go_wp2
                    go_roundw
                    case rel => exact ⟨j + 1, C', bb, by omega, by go_num, rfl, unhide HJ2⟩
                    case measure => simp [intOf]; omega
                · rw [decide_eq_false mb'] at hrc
                  have HRl := hide (unhide relax (.inl mb'))
                  clear hc mb'
                  go_wp2_with (first
                    | (refine wpList_putC _ rfl (.tmp 59) (.tmp 61) (.tmp 63) rfl mb C' k.b (d + 1) rfl rfl rfl (unhide HC1) wb hCl ?_))
                  intro y' r1 r2
                  have HJ3 := hide (unhide HRl y' r1 r2)
                  clear r1 r2
                  go_wp2
                  go_roundw
                  case rel => exact ⟨j + 1, _, true, by omega, by go_num, rfl, unhide HJ3⟩
                  case measure => simp [intOf]; omega
              · rw [decide_eq_false ma] at hrd
                have HJ2 := hide (unhide HJs _ (unhide HBk) (fun _ d' hd' => absurd (List.mem_map.2 ⟨_, hd', rfl⟩) ma))
                clear hd hc ma
                generalize decide (k.b ∈ C'.map (·.1)) = bq at *
                go_wp2
                go_roundw
                case rel => exact ⟨j + 1, C', bb, by omega, by go_num, rfl, unhide HJ2⟩
                case measure => simp [intOf]; omega
        · have hlt' : ¬ (j : Int) < (E.length : Int) := by omega
          have hjE : j = E.length := by omega
          have HRel : Hid (∃ C2 b2, (Value.bool bb) = .bool b2 ∧ FarI nx n N C2 ∧ FarW w mb C2 wr ∧ massC N.length C2 + (if b2 = true then 1 else 0) ≤ massC N.length C' + (if bb = true then 1 else 0) ∧ (b2 = true ∨ ∀ i, (hi : i < E.length) → Okk word C2 E[i])) := by
            refine ⟨C', bb, rfl, (unhide HJ).f, (unhide HJ).w, Nat.le_refl _, ?_⟩
            cases bb with
            | true => exact .inl rfl
            | false =>
              obtain ⟨e1, e2⟩ := (unhide HJ).same rfl
              exact .inr (fun i hi => by rw [e1]; exact e2 i hi (by omega))
          have HMs : Hid (massC N.length C' + (if bb = true then 1 else 0) < massC N.length C + 1) := by
            unfold Hid
            cases bb with
            | true =>
              have h1 := (unhide HJ).less rfl
              simp
              omega
            | false =>
              have e1 := ((unhide HJ).same rfl).1
              rw [e1]
              simp
          clear HJ hjE
          go_wp2
          go_roundg (massC N.length C' + (if bb = true then 1 else 0))
          case measure =>
            have h1 := unhide HMs
            have h2 := unhide HG
            rw [if_pos trivial] at h2
            omega
          case rel => exact unhide HRel
end Go.Proofs.YtfoojmflbifkpaaGreatDoor

/- The document's graph: Hops: walked. -/
namespace Go.Proofs.YtfoojmflbifkpaaGreatDoor
open Go.RowKit Go.Maps
theorem KeysC.met {D : DataW Unit} {C : List (Int × Int)} (h : KeysC D C) {n : Int} {u : Value} {y : DataW Unit} {ps : List MemPlace} (hu : numE u = some (y, ps)) (hat : ∀ z, D.atKey (.int .i64 n) z = y) : ∃ d, (n, d) ∈ C ∧ u = .int .i64 d := by
  have hh := has_of_at hat
  rw [h.has n] at hh
  obtain ⟨x, hx, e⟩ := List.mem_map.1 (of_decide_eq_true hh)
  subst e
  have := h.there x hx
  rw [hat] at this
  rw [this] at hu
  exact ⟨x.2, hx, numE_inv hu⟩
structure HpI (w : World) (m r n : Nat) (K : List Int) (D : DataW Unit) (left was : Lit → Bool) (cnt : Nat) (u : Value) (L : List Int) (y : World) : Prop where
  rg : y.ranges Tryz.prog 3 numE m r n D left cnt
  row : RowN y (r + 1) u L
  mem : ∀ a, a ∈ L ↔ a ∈ K ∧ was (.int .i64 a) = false
  nodup : L.Nodup
  low : Below w.heap.size w y
  mr : m < r
  far : w.heap.size ≤ r
  rs : r < y.heap.size
theorem HpI.below {w : World} {m r n : Nat} {K : List Int} {D : DataW Unit} {left was : Lit → Bool} {cnt : Nat} {u : Value} {L : List Int} {y y' : World} (h : HpI w m r n K D left was cnt u L y) (hb : Below y.heap.size y y') : HpI w m r n K D left was cnt u L y' :=
  ⟨ranges_below h.rg hb, h.row.carry hb, h.mem, h.nodup, h.low.trans (hb.mono h.low.size), h.mr, h.far, Nat.lt_of_lt_of_le h.rs hb.size⟩
theorem HpI.came {w : World} {m r n : Nat} {K : List Int} {D : DataW Unit} {left was left' : Lit → Bool} {cnt cnt' : Nat} {u : Value} {L : List Int} {y y' : World} (h : HpI w m r n K D left was cnt u L y) (hg : y.grownBy y' (some r)) (hrg : y'.ranges Tryz.prog 3 numE m r n D left' cnt') : HpI w m r n K D left' was cnt' u L y' := by
  have hk := keeps_grown hg
  refine ⟨hrg, World.ownsRow.kept h.row hg ?_, h.mem, h.nodup, h.low.trans (keeps_below hk (fun i e => by cases e; exact h.far) h.low.size), h.mr, h.far, Nat.lt_of_lt_of_le h.rs hg.size⟩
  rcases e : u.ownBlock with _ | g
  · exact .inl rfl
  · refine .inr (fun q => ?_)
    have := (World.ownsRow.lt h.row g e).1
    cases q
    omega
theorem HpI.skip {w : World} {m r n : Nat} {K : List Int} {D : DataW Unit} {left : Lit → Bool} {cnt : Nat} {u : Value} {L : List Int} {y : World} {a : Int} (h : HpI w m r n K D (fun z => left z && !z.sameKey (.int .i64 a)) left cnt u L y) (hx : a ∉ K) : HpI w m r n K D (fun z => left z && !z.sameKey (.int .i64 a)) (fun z => left z && !z.sameKey (.int .i64 a)) cnt u L y := by
  refine ⟨h.rg, h.row, fun k' => ?_, h.nodup, h.low, h.mr, h.far, h.rs⟩
  rw [h.mem k']
  constructor
  · rintro ⟨p, q⟩
    exact ⟨p, by simp [q]⟩
  · rintro ⟨p, q⟩
    refine ⟨p, ?_⟩
    cases e : left (.int .i64 k') with
    | false => rfl
    | true =>
      simp [e] at q
      have e2 : Lit.int .i64 k' = .int .i64 a := WideAt.sameKey_eq q
      cases e2
      exact absurd p hx
theorem HpI.add {w : World} {m r n : Nat} {K : List Int} {D : DataW Unit} {left : Lit → Bool} {cnt : Nat} {u v' : Value} {L : List Int} {y y' : World} {a : Int} (h : HpI w m r n K D (fun z => left z && !z.sameKey (.int .i64 a)) left cnt u L y) (hw : (Lit.int .i64 a).wf = true) (hx : a ∈ K) (hl : left (.int .i64 a) = true) (hg : y.grownBy y' u.ownBlock) (hr : RowN y' (r + 1) v' (L ++ [a])) : HpI w m r n K D (fun z => left z && !z.sameKey (.int .i64 a)) (fun z => left z && !z.sameKey (.int .i64 a)) cnt v' (L ++ [a]) y' := by
  have hkp := keeps_grown hg
  have hge : ∀ i, some i = u.ownBlock → r + 1 ≤ i := fun i e => (World.ownsRow.lt h.row i e.symm).1
  refine ⟨ranges_keeps h.rg hkp (fun e => by have := hge m e; have := h.mr; omega) (fun e => by have := hge r e; omega), hr, fun k' => ?_, ?_, h.low.trans (keeps_below hkp (fun i e => by have := hge i e; have := h.far; omega) h.low.size), h.mr, h.far, Nat.lt_of_lt_of_le h.rs hg.size⟩
  · rw [List.mem_append, List.mem_singleton, h.mem k']
    constructor
    · rintro (⟨p, q⟩ | rfl)
      · exact ⟨p, by simp [q]⟩
      · exact ⟨hx, by simp [WideAt.sameKey_self (keyedV.key (keyOf_int_mk Tryz.underlying3 hw))]⟩
    · rintro ⟨p, q⟩
      cases e : left (.int .i64 k') with
      | false => exact .inl ⟨p, rfl⟩
      | true =>
        simp [e] at q
        have e2 : Lit.int .i64 k' = .int .i64 a := WideAt.sameKey_eq q
        cases e2
        exact .inr rfl
  · rw [List.nodup_append]
    refine ⟨h.nodup, by simp, fun x hx' b hb => ?_⟩
    rw [List.mem_singleton] at hb
    subst hb
    rintro rfl
    have := ((h.mem x).1 hx').2
    rw [hl] at this
    cases this
def HopsSayR (w : World) (l : List Int) (e : Ending) (w' : World) : Prop := ∃ v, e = .returned (.tuple #[v, .int .i64 0]) ∧ RowN w' w.heap.size v (sortedI l) ∧ Below w.heap.size w w'
set_option maxRecDepth 100000 in
set_option maxHeartbeats 4000000 in
theorem rg_hops_ok {B : Nat} {w : World} {g : Nat} {V : Ky → ByteArray} {L : List Ky} (h : RefG B w g V L) {word : ByteArray} {nx : Int → List Int} {N : List Int} (hT : FarT V L word nx N) (n : Int) (hn : n ∈ N) (hwn : (Lit.int .i64 n).wf = true) (hi : isG V n = true) (H : Nat) (hH : H ≤ 1048576) :
    Calls Tryz.prog 18 #[.pointer (some ⟨g, 0, none⟩), .int .i64 n, .string word, .int .i64 H] w (HopsSayR w (cameK nx n H)) := by
  have HI := hide (rg_Is h n)
  rw [hi] at HI
  have HIn := hide (fun W => ref_in (H : Int) 0 1048576 W)
  have hin : inB (H : Int) 0 1048576 = true := decide_eq_true (by omega)
  rw [hin] at HIn
  have HFa := hide (fun W (hb : Below w.heap.size w W) => rg_far (h.below hb) hT n hn hwn)
  have HNc := hide (came_nodup nx n H)
  clear h hT hn hwn hi hin
  go_enter Tryz.func18, Tryz.ntmps18
  go_wp2_with fail
  refine (unhide HI).mono ?_
  rintro e W1 ⟨rfl, b1⟩
  have HB1 := hide b1
  clear b1 HI
  go_wp2_with fail
  refine (unhide HIn _).mono ?_
  rintro e W2 ⟨rfl, hW2⟩
  obtain rfl : W1 = W2 := hW2.symm
  clear hW2 HIn
  go_wp2_with fail
  refine (unhide HFa _ (unhide HB1)).mono ?_
  rintro e W3 ⟨mb, C, rfl, hW, hnd, hCl, hd⟩
  obtain ⟨D, hoD, hKD⟩ := hW.came
  have HO := hide hoD
  have HK := hide hKD
  have hm := hW.came.lt
  have HB3 : Hid (Below w.heap.size w W3) := (unhide HB1).trans (hW.low.mono (unhide HB1).size)
  have HKm : Hid (∀ a, a ∈ cameK nx n H ↔ ∃ d, (a, d) ∈ C ∧ d ≤ (H : Int)) := fun a => by
    constructor
    · intro q
      obtain ⟨j, hj, hr⟩ := ring_of nx n H a q
      exact ⟨(j : Int), (hd a j).2 ⟨j, rfl, hr⟩, by omega⟩
    · rintro ⟨d, q1, q2⟩
      obtain ⟨i, rfl, hr⟩ := (hd a d).1 q1
      have := keys_le nx n i (H - i) a (ring_came nx n i a hr)
      rwa [show i + (H - i) = H by omega] at this
  have HOne : Hid (∀ a d d', (a, d) ∈ C → (a, d') ∈ C → d = d') := fun a d d' q q' => one_val hnd q q'
  have hKl : (cameK nx n H).length ≤ 4000 := by
    have := nodup_le (unhide HNc) (N := C.map (·.1)) (fun x hx => by
      obtain ⟨d, q, _⟩ := (unhide HKm x).1 hx
      exact List.mem_map.2 ⟨_, q, rfl⟩)
    rw [List.length_map] at this
    omega
  have HKh : Hid (∀ a, a ∈ cameK nx n H → Maps.has D (.int .i64 a) = true) := fun a ha => by
    obtain ⟨d, q, _⟩ := (unhide HKm a).1 ha
    rw [hKD.has a]
    exact decide_eq_true (List.mem_map.2 ⟨_, q, rfl⟩)
  generalize cameK nx n H = K at *
  clear hW hnd hCl hd hoD hKD HFa HB1
  go_wp2_with (first | (at_range; refine wpList_range_own _ rfl _ 148 rfl 3 3 keyedV Tryz.underlying148 numE mb C.length D rfl (unhide HO) ?_; intro w0 hrg0 hg0 hs0))
  try go_frame
  have HS0 : Hid (HpI w mb W3.heap.size C.length K D (Maps.has D) (Maps.has D) (Maps.size D) (.slice none 0 0) [] w0) := by
    have hb0 := below_grown_none hg0
    refine ⟨hrg0, ⟨rfl, .inl ⟨rfl, rfl⟩⟩, fun a => ?_, List.nodup_nil, (unhide HB3).trans (hb0.mono (unhide HB3).size), hm, (unhide HB3).size, by omega⟩
    constructor
    · intro q; cases q
    · rintro ⟨p, q⟩
      rw [unhide HKh a p] at q
      cases q
  have hwr := (unhide HB3).size
  clear hrg0 hg0 hs0 HO HB3
  go_loopw [10] (fun u y => ∃ left cnt L, HpI w mb W3.heap.size C.length K D left left cnt u L y) (fun _ y => y.rangeLeft mb W3.heap.size)
  case atStart => exact ⟨_, _, [], unhide HS0⟩
  case round =>
    clear HS0
    obtain ⟨left, cnt, L, hI⟩ := hrel
    have HI := hide hI
    have hshort : L.length ≤ K.length := nodup_le hI.nodup (fun k hk => ((hI.mem k).1 hk).1)
    clear hI
    go_wp2_with (first | (at_next; refine wpList_next_ranges _ rfl _ rfl 3 keyedV numE (Value.int .i64) (Value.int .i64) (fun key kl hkey => by obtain ⟨x, rfl, _⟩ := Maps.keyOf_int_inv Tryz.underlying3 hkey; exact ⟨x, rfl⟩) (fun _ _ q => numE_some q) mb W3.heap.size C.length D left cnt rfl (unhide HI).rg ?done ?more))
    case done =>
      intro _ hl0
      obtain ⟨ad, c, rfl⟩ : ∃ ad c, u10 = .slice ad L.length c := row_slice (show World.ownsRow _ _ _ _ _ _ _ from (unhide HI).row)
      have HSo := hide (sort_Ints L _ wr (W3.heap.size + 1) (by omega) (unhide HI).row)
      have HE : Hid (sortedI L = sortedI K) := sortedI_perm (nodup_perm (unhide HI).nodup (unhide HNc) (fun x => by rw [(unhide HI).mem x]; exact ⟨fun q => q.1, fun q => ⟨q, hl0 _⟩⟩))
      clear hl0
      go_wp2_with fail
      refine (unhide HSo).mono ?_
      rintro e W5 ⟨rfl, ho, hg⟩
      have HR : Hid (HopsSayR w K (.returned (.tuple #[.slice ad L.length c, .int .i64 0])) W5) := by
        have ho' : RowN W5 (W3.heap.size + 1) (.slice ad L.length c) (sortedI L) := ho
        rw [unhide HE] at ho'
        refine ⟨_, rfl, rowN_mono ho' (by omega), (unhide HI).low.trans (keeps_below (keeps_grown hg) (fun i e => ?_) (unhide HI).low.size)⟩
        have := (World.ownsRow.lt (unhide HI).row i e.symm).1
        omega
      clear ho hg HSo HI
      go_wp2
      go_ret2
      exact unhide HR
    case more =>
      intro a c kl y ps w1 cnt1 hkey hlx hv hat hrg1 hlt hg1 hs1 hen
      obtain ⟨a', ea, rfl, hwa⟩ := Maps.keyOf_int_inv Tryz.underlying3 hkey
      cases ea
      obtain ⟨d, hx, hc⟩ := (unhide HK).met hv hat
      injection hc with _ hc
      subst hc
      have HL1 := hide ((unhide HI).came hg1 hrg1)
      have HMs := hide hlt
      have HCt := hide (unhide HI).rg.left_eq
      have HLk := hide hlx
      clear hkey hv hat hrg1 hlt hlx hg1 hs1 HI
      by_cases hdH : c ≤ (H : Int)
      · have HB2 := hide (below_box w1 (.cells #[.int .i64 a] 3))
        have HL2 := hide ((unhide HL1).below (unhide HB2))
        have hcx := cell_new w1 (.int .i64 a) 3
        have HXa : Hid (a ∈ K) := (unhide HKm a).2 ⟨c, hx, hdH⟩
        have hL2 : L.length ≤ 1000000 := by omega
        have hbs : W3.heap.size + 1 ≤ (w1.alloc (.cells #[.int .i64 a] 3)).heap.size := (unhide HL2).rs
        clear HL1 HB2 hx
        go_wp2_with (first
          | (at_builtin; refine wpList_appN _ rfl (.tmp 33) (.tmp 35) rfl (W3.heap.size + 1) _ L rfl (unhide HL2).row w1.heap.size a rfl hcx hL2 hbs ?_))
        intro v9 W7 r1 r2
        have HI7 := hide ((unhide HL2).add hwa (unhide HXa) (unhide HLk) r2 r1)
        obtain ⟨ad7, cap7, rfl⟩ := row_slice (show World.ownsRow _ _ _ _ _ _ _ from r1)
        have HCn : Hid (W7.rangeLeft mb W3.heap.size < wr.rangeLeft mb W3.heap.size) := by
          have := unhide HMs
          show _ < _
          rw [(unhide HI7).rg.left_eq, unhide HCt]
          omega
        clear r1 r2 HL2 hcx hbs hen
        go_wp2
        go_roundw
        case rel => exact ⟨_, _, _, unhide HI7⟩
        case measure => exact unhide HCn
      · have HXa : Hid (a ∉ K) := fun q => by
          obtain ⟨d', q1, q2⟩ := (unhide HKm a).1 q
          have := unhide HOne a _ _ q1 hx
          omega
        have HI7 := hide ((unhide HL1).skip (unhide HXa))
        have HCn : Hid (w1.rangeLeft mb W3.heap.size < wr.rangeLeft mb W3.heap.size) := by
          have := unhide HMs
          show _ < _
          rw [(unhide HI7).rg.left_eq, unhide HCt]
          omega
        clear hx HL1
        go_wp2
        go_roundw
        case rel => exact ⟨_, _, _, unhide HI7⟩
        case measure => exact unhide HCn
set_option maxRecDepth 100000 in
theorem rg_hops_none {B : Nat} {w : World} {g : Nat} {V : Ky → ByteArray} {L : List Ky} (h : RefG B w g V L) (word : ByteArray) (n H : Int) (hi : isG V n = false) :
    Calls Tryz.prog 18 #[.pointer (some ⟨g, 0, none⟩), .int .i64 n, .string word, .int .i64 H] w fun e w' => e = .returned (.tuple #[.slice none 0 0, .int .i64 7]) ∧ Below w.heap.size w w' := by
  have HI := hide (rg_Is h n)
  rw [hi] at HI
  clear h hi
  go_enter Tryz.func18, Tryz.ntmps18
  go_wp2_with fail
  refine (unhide HI).mono ?_
  rintro e W1 ⟨rfl, b1⟩
  go_wp2
  go_ret2
  exact ⟨rfl, b1⟩
set_option maxRecDepth 100000 in
theorem rg_hops_range {B : Nat} {w : World} {g : Nat} {V : Ky → ByteArray} {L : List Ky} (h : RefG B w g V L) (word : ByteArray) (n H : Int) (hi : isG V n = true) (hH : H < 0 ∨ 1048576 < H) :
    Calls Tryz.prog 18 #[.pointer (some ⟨g, 0, none⟩), .int .i64 n, .string word, .int .i64 H] w fun e w' => e = .returned (.tuple #[.slice none 0 0, .int .i64 2]) ∧ Below w.heap.size w w' := by
  have HI := hide (rg_Is h n)
  rw [hi] at HI
  have HIn := hide (fun W => ref_in H 0 1048576 W)
  have hin : inB H 0 1048576 = false := decide_eq_false (by omega)
  rw [hin] at HIn
  clear h hi hin hH
  go_enter Tryz.func18, Tryz.ntmps18
  go_wp2_with fail
  refine (unhide HI).mono ?_
  rintro e W1 ⟨rfl, b1⟩
  have HB1 := hide b1
  clear b1
  go_wp2_with fail
  refine (unhide HIn _).mono ?_
  rintro e W2 ⟨rfl, hW2⟩
  obtain rfl : W1 = W2 := hW2.symm
  go_wp2
  go_ret2
  exact ⟨rfl, unhide HB1⟩
end Go.Proofs.YtfoojmflbifkpaaGreatDoor

/- The document's graph: Way: walked. -/
namespace Go.Proofs.YtfoojmflbifkpaaGreatDoor
open Go.RowKit Go.Maps
set_option maxRecDepth 100000 in
theorem rg_way_missing {B : Nat} {w : World} {g : Nat} {V : Ky → ByteArray} {L : List Ky} (h : RefG B w g V L) (word : ByteArray) (x y : Int) (hi : isG V x = false ∨ isG V y = false) :
    Calls Tryz.prog 20 #[.pointer (some ⟨g, 0, none⟩), .int .i64 x, .int .i64 y, .string word] w fun e w' => e = .returned (.tuple #[.slice none 0 0, .int .i64 7]) ∧ Below w.heap.size w w' := by
  have HI := hide (rg_Is h x)
  have HI2 := hide (fun W (hb : Below w.heap.size w W) => rg_Is (h.below hb) y)
  clear h
  cases hx : isG V x with
  | false =>
    rw [hx] at HI
    clear hi
    go_enter Tryz.func20, Tryz.ntmps20
    go_wp2_with fail
    refine (unhide HI).mono ?_
    rintro e W1 ⟨rfl, b1⟩
    go_wp2
    go_ret2
    exact ⟨rfl, b1⟩
  | true =>
    rw [hx] at HI
    have hy : isG V y = false := by
      rcases hi with q | q
      · rw [hx] at q; cases q
      · exact q
    rw [hy] at HI2
    clear hi
    go_enter Tryz.func20, Tryz.ntmps20
    go_wp2_with fail
    refine (unhide HI).mono ?_
    rintro e W1 ⟨rfl, b1⟩
    have HB1 := hide b1
    clear b1
    go_wp2_with fail
    refine (unhide HI2 _ (unhide HB1)).mono ?_
    rintro e W2 ⟨rfl, b2⟩
    have HB2 := hide ((unhide HB1).trans (b2.mono (unhide HB1).size))
    clear b2
    go_wp2
    go_ret2
    exact ⟨rfl, unhide HB2⟩
set_option maxRecDepth 100000 in
set_option maxHeartbeats 1000000 in
theorem rg_way_none {B : Nat} {w : World} {g : Nat} {V : Ky → ByteArray} {L : List Ky} (h : RefG B w g V L) {word : ByteArray} {nx : Int → List Int} {N : List Int} (hT : FarT V L word nx N) (x y : Int) (hx : x ∈ N) (hwx : (Lit.int .i64 x).wf = true) (hwy : (Lit.int .i64 y).wf = true) (hix : isG V x = true) (hiy : isG V y = true) (hno : ∀ i, y ∉ (rounds nx x i).2) :
    Calls Tryz.prog 20 #[.pointer (some ⟨g, 0, none⟩), .int .i64 x, .int .i64 y, .string word] w fun e w' => e = .returned (.tuple #[.slice none 0 0, .int .i64 8]) ∧ Below w.heap.size w w' := by
  have HI := hide (rg_Is h x)
  have HI2 := hide (fun W (hb : Below w.heap.size w W) => rg_Is (h.below hb) y)
  have HFa := hide (fun W (hb : Below w.heap.size w W) => rg_far (h.below hb) hT x hx hwx)
  rw [hix] at HI
  rw [hiy] at HI2
  have HNo := hide hno
  clear h hT hx hwx hix hiy hno
  go_enter Tryz.func20, Tryz.ntmps20
  go_wp2_with fail
  refine (unhide HI).mono ?_
  rintro e W1 ⟨rfl, b1⟩
  have HB1 := hide b1
  clear b1 HI
  go_wp2_with fail
  refine (unhide HI2 _ (unhide HB1)).mono ?_
  rintro e W2 ⟨rfl, b2⟩
  have HB2 := hide ((unhide HB1).trans (b2.mono (unhide HB1).size))
  clear b2 HB1 HI2
  go_wp2_with fail
  refine (unhide HFa _ (unhide HB2)).mono ?_
  rintro e W3 ⟨mb, C, rfl, hW, hnd, hCl, hd⟩
  have HB3 := hide ((unhide HB2).trans (hW.low.mono (unhide HB2).size))
  obtain ⟨c, hrc, _⟩ := hW.came.look y hwy
  have hn : y ∉ C.map (·.1) := fun q => by
    obtain ⟨p, hp, e⟩ := List.mem_map.1 q
    subst e
    obtain ⟨i, _, hr⟩ := (hd p.1 p.2).1 hp
    exact unhide HNo i hr
  rw [decide_eq_false hn] at hrc
  clear hW hnd hCl hd hn HFa HB2
  go_wp2
  go_ret2
  exact ⟨rfl, unhide HB3⟩
end Go.Proofs.YtfoojmflbifkpaaGreatDoor
