/- Texts of one proof, one behind the other. -/
import Derived.Test.YtfoojmflbifkpaaGreatDoorDd
import Derived.Test.YtfoojmflbifkpaaGreatDoorDb
import Derived.Test.YtfoojmflbifkpaaGreatDoorDc
import Derived.Test.YtfoojmflbifkpaaGreatDoorCn
import Derived.Deep.CutBlock

/- The document's graph: how far others are: walked. -/
namespace Go.Proofs.YtfoojmflbifkpaaGreatDoor
open Go.RowKit Go.Maps
theorem KeysC.set {D : DataW Unit} {C : List (Int × Int)} (h : KeysC D C) (ht : Tidy D) (b a : Int) (hn : b ∈ C.map (·.1)) : KeysC (D.put (.int .i64 b) (.lit (.int .i64 a))) (setC C b a) := by
  refine ⟨fun x hx => ?_, fun n => ?_, ?_⟩
  · rcases mem_setC.1 hx with ⟨hne, hx⟩ | ⟨rfl, _⟩
    · rw [Maps.atKey_put_other (lit_ne hne)]
      exact h.there x hx
    · exact Maps.atKey_put_same (k := .int .i64 b) ht.isMap trivial _ _
  · rw [setC_keys]
    by_cases q : n = b
    · subst q
      rw [Maps.has_put_same (k := .int .i64 n) ht.isMap trivial]
      simp only [hn, decide_true]
    · rw [Maps.has_put_other (lit_ne q), h.has n]
  · rw [Maps.size_put ht, h.has b, h.size, setC_length]
    simp only [hn, decide_true]
    rfl
theorem CameW.put {w : World} {m : Nat} {C : List (Int × Int)} (h : CameW w m C) (b a : Int) (hb : (Lit.int .i64 b).wf = true) (hl : C.length ≤ 1000000) :
    ∃ w', (Instr.mapUpdate 148 (.map (some m)) (.int .i64 b) (.int .i64 a)).run Tryz.prog w = .ok () w' ∧ CameW w' m (putC C b a) ∧ w.mapTurned w' m := by
  unfold putC
  by_cases hn : b ∈ C.map (·.1)
  · rw [if_pos hn]
    obtain ⟨D, h1, h2⟩ := h
    obtain ⟨w', r1, r2, r3⟩ := h1.store keyedV Tryz.underlying148 (by unfold maxLen; omega) (keyOf_int_mk Tryz.underlying3 hb) (val := .int .i64 a) (d := .lit (.int .i64 a)) (ps := []) rfl
    have h3 := h2.set (h1.tidy keyedV) b a hn
    have h4 := ownsMap_size r2
    rw [h3.size] at h4
    exact ⟨w', r1, ⟨_, h4, h3⟩, r3⟩
  · rw [if_neg hn]
    exact h.store b a hb hn hl
theorem wpList_putC (w : World) {ops : Array Oper} {rest : List Oper} {o : Oper} {a : Act} {Q : Exit → Act → World → Prop} (hgd : o.guard = none) (mo ko vo : Operand)
    (ho : o.op = .mapUpdate 148 mo ko vo) (m : Nat) (C : List (Int × Int)) (b x : Int) (hm : a.eval mo = .map (some m)) (hk : a.eval ko = .int .i64 b) (hv : a.eval vo = .int .i64 x)
    (hown : CameW w m C) (hb : (Lit.int .i64 b).wf = true) (hl : C.length ≤ 1000000)
    (h : ∀ w', CameW w' m (putC C b x) → w.mapTurned w' m → wpList Tryz.prog ops Q rest (a.put o.dst undef) w') : wpList Tryz.prog ops Q (o :: rest) a w := by
  refine wpList_plain hgd fun K' hK' => ?_
  obtain ⟨w', hrun, r1, r2⟩ := hown.put b x hb hl
  unfold Oper.wp
  simp [execOp, ho, hm, hk, hv, hrun, Result.andThen]
  exact hK' _ _ (h w' r1 r2)
structure FarW (w : World) (mb : Nat) (C : List (Int × Int)) (y : World) : Prop where
  came : CameW y mb C
  low : Below w.heap.size w y
  far : w.heap.size ≤ mb
theorem FarW.below {w : World} {mb : Nat} {C : List (Int × Int)} {y y' : World} (h : FarW w mb C y) (hb : Below y.heap.size y y') : FarW w mb C y' :=
  ⟨h.came.below hb, h.low.trans (hb.mono h.low.size), h.far⟩
theorem FarW.turn {w : World} {mb : Nat} {C C' : List (Int × Int)} {y y' : World} (h : FarW w mb C y) (hc : CameW y' mb C') (ht : y.mapTurned y' mb) : FarW w mb C' y' :=
  ⟨hc, h.low.trans (keeps_below (turned_keeps ht) (fun i e => by have := h.far; omega) h.low.size), h.far⟩
def FarSays (w : World) (nx : Int → List Int) (n : Int) (e : Ending) (w' : World) : Prop :=
  ∃ mb C, e = .returned (.map (some mb)) ∧ FarW w mb C w' ∧ (C.map (·.1)).Nodup ∧ C.length ≤ 4000 ∧ ∀ b d, (b, d) ∈ C ↔ ∃ i : Nat, d = (i : Int) ∧ b ∈ (rounds nx n i).2
def Okk (word : ByteArray) (C : List (Int × Int)) (k : Ky) : Prop := ofWord word k = true → ∀ d, (k.a, d) ∈ C → ∃ y, (k.b, y) ∈ C ∧ y ≤ d + 1
structure FarT (V : Ky → ByteArray) (L : List Ky) (word : ByteArray) (nx : Int → List Int) (N : List Int) : Prop where
  lead : ∀ k, k ∈ L.filter (edgeB V) → ofWord word k = true → k.b ∈ nx k.a ∧ k.b ∈ N
  led : ∀ a, a ∈ N → ∀ b, b ∈ nx a → ∃ k, k ∈ L.filter (edgeB V) ∧ k.a = a ∧ k.b = b ∧ ofWord word k = true
  wf : ∀ k, k ∈ L → (Lit.int .i64 k.a).wf = true ∧ (Lit.int .i64 k.b).wf = true
  len : N.length ≤ 4000
structure FarJ (w : World) (mb : Nat) (nx : Int → List Int) (n : Int) (N : List Int) (word : ByteArray) (E : List Ky) (C C' : List (Int × Int)) (bb : Bool) (j : Nat) (W1 y : World) : Prop where
  f : FarI nx n N C'
  w : FarW w mb C' y
  less : bb = true → massC N.length C' < massC N.length C
  same : bb = false → C' = C ∧ ∀ i, (hi : i < E.length) → i < j → Okk word C E[i]
  kp : Keeps (· = mb) W1 y
theorem FarJ.skip {w : World} {mb : Nat} {nx : Int → List Int} {n : Int} {N : List Int} {word : ByteArray} {E : List Ky} {C C' : List (Int × Int)} {bb : Bool} {j : Nat} {W1 y y' : World} (h : FarJ w mb nx n N word E C C' bb j W1 y) (hb : Below y.heap.size y y') (hj : j < E.length) (ho : Okk word C' E[j]) : FarJ w mb nx n N word E C C' bb (j + 1) W1 y' :=
  ⟨h.f, h.w.below hb, h.less, fun e => by
    obtain ⟨e1, e2⟩ := h.same e
    refine ⟨e1, fun i hi hij => ?_⟩
    rcases Nat.lt_or_ge i j with q | q
    · exact e2 i hi q
    · obtain rfl : i = j := by omega
      rw [e1] at ho
      exact ho, h.kp.then (Keeps.of_below _ hb (Nat.le_refl _)) (fun _ _ q => q)⟩
set_option maxRecDepth 100000 in
set_option maxHeartbeats 4000000 in
theorem rg_far {B : Nat} {w : World} {g : Nat} {V : Ky → ByteArray} {L : List Ky} (h : RefG B w g V L) {word : ByteArray} {nx : Int → List Int} {N : List Int} (hT : FarT V L word nx N) (n : Int) (hn : n ∈ N) (hwn : (Lit.int .i64 n).wf = true) :
    Calls Tryz.prog 69 #[.pointer (some ⟨g, 0, none⟩), .int .i64 n, .string word] w (FarSays w nx n) := by
  have HT := hide hT
  have HF0 := hide (FarI.start nx n hn)
  have HEd := hide (fun W (hb : Below w.heap.size w W) => rg_Edges (h.below hb))
  have hEl : (L.filter (edgeB V)).length ≤ 4000 := Nat.le_trans (List.length_filter_le _ _) h.len
  have HEm : Hid (∀ k, k ∈ L.filter (edgeB V) → k ∈ L) := fun k hk => (List.mem_filter.1 hk).1
  have hmm := @run_makeMap Tryz.prog
  clear h hT hn
  obtain ⟨E, hE⟩ : ∃ E, E = L.filter (edgeB V) := ⟨_, rfl⟩
  have HEe := hide hE
  rw [← hE] at HEd hEl HEm
  clear hE
  go_enter Tryz.func69, Tryz.ntmps69
  go_wp2_with (first
    | (refine wpList_insC _ rfl (.tmp 15) (.tmp 16) (.const (.int .i64 0)) (.inl rfl) w.heap.size [] n 0 rfl rfl rfl (came_new w) hwn (by simp) (by simp) ?_))
  intro W0 hc ht
  have HW0 : Hid (FarW w w.heap.size [(n, 0)] W0) := ⟨hc, (below_box w (.map #[] 0)).trans (keeps_below (turned_keeps ht) (fun i e => by omega) (by simp)), Nat.le_refl _⟩
  clear hc ht hmm hwn
  generalize hmb : w.heap.size = mb at *
  have HMb := hide hmb
  clear hmb
  go_wp2
  go_loopg [8] (massC N.length [(n, 0)] + 1) (fun gy m y => ∃ C bb, m = .bool bb ∧ FarI nx n N C ∧ FarW w mb C y ∧ massC N.length C + (if bb = true then 1 else 0) ≤ gy ∧ (bb = true ∨ ∀ i, (hi : i < E.length) → Okk word C E[i]))
  case atStart => exact ⟨_, true, rfl, unhide HF0, unhide HW0, by simp, .inl rfl⟩
  case round =>
    revert wr
    intro wo hrel
    obtain ⟨C, bb, rfl, hF, hW, hg, hx⟩ := hrel
    have HF := hide hF
    have HW := hide hW
    have HX := hide hx
    have HG := hide hg
    clear hF hW hx hg HF0 HW0
    cases bb with
    | false =>
      have HFin : Hid (FarSays w nx n (.returned (.map (some mb))) wo) := by
        refine ⟨mb, C, rfl, unhide HW, (unhide HF).nd, Nat.le_trans (unhide HF).le (unhide HT).len, (unhide HF).done (fun a d b hab hb => ?_)⟩
        rcases unhide HX with q | q
        · cases q
        · obtain ⟨k, hk, rfl, rfl, how⟩ := (unhide HT).led a ((unhide HF).inN _ hab) b hb
          rw [← unhide HEe] at hk
          obtain ⟨i, hi, rfl⟩ := List.getElem_of_mem hk
          exact q i hi how d hab
      go_wp2
      go_ret
      exact unhide HFin
    | true =>
      have HEo := hide (unhide HEd wo (by rw [← unhide HMb]; exact (unhide HW).low))
      go_wp2_with fail
      refine (unhide HEo).mono ?_
      rintro e W1 ⟨ev, rfl, hrE, b1⟩
      obtain ⟨ge, ade, ce, rfl, hfe⟩ := RowY.cells hrE
      have HE := hide hfe
      have HGe : Hid (∀ j, j < E.length → ge ≠ mb) := fun j hj e => by
        obtain ⟨e1, _⟩ := hfe j hj
        have h1 := (World.ownsRow.lt (show World.ownsRow _ _ _ _ _ _ _ from hrE) ge (by rw [e1]; rfl)).1
        have h2 := (unhide HW).came.lt
        omega
      have HJ0 : Hid (FarJ w mb nx n N word E C C false 0 W1 W1) := ⟨unhide HF, (unhide HW).below b1, fun e => (by cases e), fun _ => ⟨rfl, fun i _ hi => (by omega)⟩, Keeps.refl _ _⟩
      clear hrE hfe b1 HEo
      go_wp2
      go_loopw [8, 22] (fun m k y => ∃ (j : Nat) (C' : List (Int × Int)) (bb : Bool), j ≤ E.length ∧ k = .int .i64 j ∧ m = .bool bb ∧ FarJ w mb nx n N word E C C' bb j W1 y) (fun _ k _ => E.length - (intOf k).toNat)
      case atStart => exact ⟨0, C, false, Nat.zero_le _, rfl, rfl, unhide HJ0⟩
      case round =>
        obtain ⟨j, C', bb, hj, rfl, rfl, hJ⟩ := hrel
        have HJ := hide hJ
        clear hJ HJ0
        by_cases hlt : j < E.length
        · have hlt' : (j : Int) < (E.length : Int) := by omega
          have hj0 : (0 : Int) ≤ (j : Int) := by omega
          obtain ⟨rfl, a0, a1, a2, a3⟩ := unhide HE j hlt
          have hne := unhide HGe j hlt
          have HJs := hide (fun y' hb ho => (unhide HJ).skip (y' := y') hb hlt ho)
          have HKm : Hid (E[j] ∈ E) := List.getElem_mem hlt
          obtain ⟨k, hkk⟩ : ∃ k, k = E[j] := ⟨_, rfl⟩
          rw [← hkk] at a0 a1 a2 a3 HJs HKm
          have z0 := ((unhide HJ).kp.cell (p := ⟨ge, j * 4, none⟩) (lt_of_cell a0) hne).trans a0
          have z1 := ((unhide HJ).kp.cell (p := ⟨ge, j * 4 + 1, none⟩) (lt_of_cell a1) hne).trans a1
          have z2 := ((unhide HJ).kp.cell (p := ⟨ge, j * 4 + 2, none⟩) (lt_of_cell a2) hne).trans a2
          have z3 := ((unhide HJ).kp.cell (p := ⟨ge, j * 4 + 3, none⟩) (lt_of_cell a3) hne).trans a3
          have HBk := hide (below_box wr (.cells #[.int .i64 k.kind, .int .i64 k.a, .string k.word, .int .i64 k.b] 32))
          have HBx := hide (boxK_new wr k)
          clear a0 a1 a2 a3 hkk hne
          go_upto_region 8 with fail
          have HC1 := hide ((unhide HJ).w.came.below (unhide HBk))
          generalize hV1 : wr.alloc (.cells #[.int .i64 k.kind, .int .i64 k.a, .string k.word, .int .i64 k.b] 32) = V1 at *
          clear z0 z1 z2 z3 hV1
          go_cut [33] (fun s33 wx => s33 = .bool (!ofWord word k) ∧ wx = V1)
          case first =>
            have x2 := (unhide HBx).c2
            by_cases hw : word = ⟨#[]⟩
            · subst hw
              have HO : Hid (ofWord ⟨#[]⟩ k = true) := by simp [Hid, ofWord]
              go_wp2
              go_meet
              case rel => exact ⟨by rw [unhide HO]; rfl, rfl⟩
            · have hnw := list_some word hw
              by_cases hkw : k.word = word
              · have HO : Hid (ofWord word k = true) := by simp [Hid, ofWord, hkw]
                rw [hkw] at x2
                clear hkw hw
                go_wp2
                go_meet
                case rel => exact ⟨by rw [unhide HO]; rfl, rfl⟩
              · have HO : Hid (ofWord word k = false) := by simp [Hid, ofWord, hkw, hw]
                have hbe : (k.word.toList == word.toList) = false := toList_ne hkw
                clear hkw hw
                go_wp2
                go_meet
                case rel => exact ⟨by rw [unhide HO]; rfl, rfl⟩
          case rest =>
            obtain ⟨rfl, hwc⟩ := hcut
            obtain rfl : V1 = wc := hwc.symm
            clear hwc
            cases hof : ofWord word k with
            | false =>
              have HJ2 := hide (unhide HJs _ (unhide HBk) (fun e => by rw [hof] at e; cases e))
              go_wp2
              go_roundw
              case rel => exact ⟨j + 1, C', bb, by omega, by go_num, rfl, unhide HJ2⟩
              case measure => simp [intOf]; omega
            | true =>
              have x1 := (unhide HBx).c1
              have x3 := (unhide HBx).c3
              obtain ⟨wa, wb⟩ := (unhide HT).wf k (unhide HEm k (unhide HKm))
              obtain ⟨d, hrd, hd⟩ := (unhide HC1).look k.a wa
              obtain ⟨c, hrc, hc⟩ := (unhide HC1).look k.b wb
              by_cases ma : k.a ∈ C'.map (·.1)
              · rw [decide_eq_true ma] at hrd
                have had : (k.a, d) ∈ C' := by
                  obtain ⟨x, hx, e⟩ := List.mem_map.1 ma
                  have := hd x hx e
                  obtain ⟨x1, x2⟩ := x
                  dsimp only at e this
                  rw [← e, this]
                  exact hx
                have HAd := hide had
                have hd0 := ((unhide HJ).f.goes _ had).1
                have hd1 : d ≤ 4000 := by
                  have h1 := (unhide HJ).f.small _ had
                  have h2 := (unhide HJ).f.le
                  have h3 := (unhide HT).len
                  dsimp only at h1
                  omega
                dsimp only at hd0
                have HTo := hide ((unhide HT).lead k (by rw [← unhide HEe]; exact unhide HKm) hof)
                have hCl : C'.length ≤ 1000000 := by
                  have h2 := (unhide HJ).f.le
                  have h3 := (unhide HT).len
                  omega
                have relax : Hid ((k.b ∉ C'.map (·.1) ∨ ∃ y, (k.b, y) ∈ C' ∧ d + 1 < y) → ∀ y', CameW y' mb (putC C' k.b (d + 1)) → V1.mapTurned y' mb → FarJ w mb nx n N word E C (putC C' k.b (d + 1)) true (j + 1) W1 y') := fun hr y' hcw htu => by
                  obtain ⟨f1, f2⟩ := (unhide HJ).f.relax (unhide HAd) (unhide HTo).1 (unhide HTo).2 hr
                  refine ⟨f1, ((unhide HJ).w.below (unhide HBk)).turn hcw htu, fun _ => ?_, fun e => (by cases e), ((unhide HJ).kp.then (Keeps.of_below _ (unhide HBk) (Nat.le_refl _)) (fun _ _ q => q)).then (turned_keeps htu) (fun _ _ q => q)⟩
                  cases bb with
                  | true => exact Nat.lt_trans f2 ((unhide HJ).less rfl)
                  | false =>
                    have e1 := ((unhide HJ).same rfl).1
                    rw [e1] at f2 ⊢
                    exact f2
                clear hd had ma wa
                by_cases mb' : k.b ∈ C'.map (·.1)
                · rw [decide_eq_true mb'] at hrc
                  have hbc : (k.b, c) ∈ C' := by
                    obtain ⟨x, hx, e⟩ := List.mem_map.1 mb'
                    have := hc x hx e
                    obtain ⟨x1, x2⟩ := x
                    dsimp only at e this
                    rw [← e, this]
                    exact hx
                  by_cases hdc : d + 1 < c
                  · have HRl := hide (unhide relax (.inr ⟨c, hbc, hdc⟩))
                    clear hc hbc mb'
                    go_wp2_with (first
                      | (refine wpList_putC _ rfl (.tmp 59) (.tmp 61) (.tmp 63) rfl mb C' k.b (d + 1) rfl rfl rfl (unhide HC1) wb hCl ?_))
                    intro y' r1 r2
                    have HJ3 := hide (unhide HRl y' r1 r2)
                    clear r1 r2
                    go_wp2
                    go_roundw
                    case rel => exact ⟨j + 1, _, true, by omega, by go_num, rfl, unhide HJ3⟩
                    case measure => simp [intOf]; omega
                  · have HJ2 := hide (unhide HJs _ (unhide HBk) (fun _ d' hd' => ⟨c, hbc, by have := one_val (unhide HJ).f.nd hd' (unhide HAd); omega⟩))
                    clear hc hbc mb'
                    go_wp2
                    go_roundw
                    case rel => exact ⟨j + 1, C', bb, by omega, by go_num, rfl, unhide HJ2⟩
                    case measure => simp [intOf]; omega
                · rw [decide_eq_false mb'] at hrc
                  have HRl := hide (unhide relax (.inl mb'))
                  clear hc mb'
                  go_wp2_with (first
                    | (refine wpList_putC _ rfl (.tmp 59) (.tmp 61) (.tmp 63) rfl mb C' k.b (d + 1) rfl rfl rfl (unhide HC1) wb hCl ?_))
                  intro y' r1 r2
                  have HJ3 := hide (unhide HRl y' r1 r2)
                  clear r1 r2
                  go_wp2
                  go_roundw
                  case rel => exact ⟨j + 1, _, true, by omega, by go_num, rfl, unhide HJ3⟩
                  case measure => simp [intOf]; omega
              · rw [decide_eq_false ma] at hrd
                have HJ2 := hide (unhide HJs _ (unhide HBk) (fun _ d' hd' => absurd (List.mem_map.2 ⟨_, hd', rfl⟩) ma))
                clear hd hc ma
                generalize decide (k.b ∈ C'.map (·.1)) = bq at *
                go_wp2
                go_roundw
                case rel => exact ⟨j + 1, C', bb, by omega, by go_num, rfl, unhide HJ2⟩
                case measure => simp [intOf]; omega
        · have hlt' : ¬ (j : Int) < (E.length : Int) := by omega
          have hjE : j = E.length := by omega
          have HRel : Hid (∃ C2 b2, (Value.bool bb) = .bool b2 ∧ FarI nx n N C2 ∧ FarW w mb C2 wr ∧ massC N.length C2 + (if b2 = true then 1 else 0) ≤ massC N.length C' + (if bb = true then 1 else 0) ∧ (b2 = true ∨ ∀ i, (hi : i < E.length) → Okk word C2 E[i])) := by
            refine ⟨C', bb, rfl, (unhide HJ).f, (unhide HJ).w, Nat.le_refl _, ?_⟩
            cases bb with
            | true => exact .inl rfl
            | false =>
              obtain ⟨e1, e2⟩ := (unhide HJ).same rfl
              exact .inr (fun i hi => by rw [e1]; exact e2 i hi (by omega))
          have HMs : Hid (massC N.length C' + (if bb = true then 1 else 0) < massC N.length C + 1) := by
            unfold Hid
            cases bb with
            | true =>
              have h1 := (unhide HJ).less rfl
              simp
              omega
            | false =>
              have e1 := ((unhide HJ).same rfl).1
              rw [e1]
              simp
          clear HJ hjE
          go_wp2
          go_roundg (massC N.length C' + (if bb = true then 1 else 0))
          case measure =>
            have h1 := unhide HMs
            have h2 := unhide HG
            rw [if_pos trivial] at h2
            omega
          case rel => exact unhide HRel
end Go.Proofs.YtfoojmflbifkpaaGreatDoor

/- The document's graph: Hops: walked. -/
namespace Go.Proofs.YtfoojmflbifkpaaGreatDoor
open Go.RowKit Go.Maps
theorem KeysC.met {D : DataW Unit} {C : List (Int × Int)} (h : KeysC D C) {n : Int} {u : Value} {y : DataW Unit} {ps : List MemPlace} (hu : numE u = some (y, ps)) (hat : ∀ z, D.atKey (.int .i64 n) z = y) : ∃ d, (n, d) ∈ C ∧ u = .int .i64 d := by
  have hh := has_of_at hat
  rw [h.has n] at hh
  obtain ⟨x, hx, e⟩ := List.mem_map.1 (of_decide_eq_true hh)
  subst e
  have := h.there x hx
  rw [hat] at this
  rw [this] at hu
  exact ⟨x.2, hx, numE_inv hu⟩
structure HpI (w : World) (m r n : Nat) (K : List Int) (D : DataW Unit) (left was : Lit → Bool) (cnt : Nat) (u : Value) (L : List Int) (y : World) : Prop where
  rg : y.ranges Tryz.prog 3 numE m r n D left cnt
  row : RowN y (r + 1) u L
  mem : ∀ a, a ∈ L ↔ a ∈ K ∧ was (.int .i64 a) = false
  nodup : L.Nodup
  low : Below w.heap.size w y
  mr : m < r
  far : w.heap.size ≤ r
  rs : r < y.heap.size
theorem HpI.below {w : World} {m r n : Nat} {K : List Int} {D : DataW Unit} {left was : Lit → Bool} {cnt : Nat} {u : Value} {L : List Int} {y y' : World} (h : HpI w m r n K D left was cnt u L y) (hb : Below y.heap.size y y') : HpI w m r n K D left was cnt u L y' :=
  ⟨ranges_below h.rg hb, h.row.carry hb, h.mem, h.nodup, h.low.trans (hb.mono h.low.size), h.mr, h.far, Nat.lt_of_lt_of_le h.rs hb.size⟩
theorem HpI.came {w : World} {m r n : Nat} {K : List Int} {D : DataW Unit} {left was left' : Lit → Bool} {cnt cnt' : Nat} {u : Value} {L : List Int} {y y' : World} (h : HpI w m r n K D left was cnt u L y) (hg : y.grownBy y' (some r)) (hrg : y'.ranges Tryz.prog 3 numE m r n D left' cnt') : HpI w m r n K D left' was cnt' u L y' := by
  have hk := keeps_grown hg
  refine ⟨hrg, World.ownsRow.kept h.row hg ?_, h.mem, h.nodup, h.low.trans (keeps_below hk (fun i e => by cases e; exact h.far) h.low.size), h.mr, h.far, Nat.lt_of_lt_of_le h.rs hg.size⟩
  rcases e : u.ownBlock with _ | g
  · exact .inl rfl
  · refine .inr (fun q => ?_)
    have := (World.ownsRow.lt h.row g e).1
    cases q
    omega
theorem HpI.skip {w : World} {m r n : Nat} {K : List Int} {D : DataW Unit} {left : Lit → Bool} {cnt : Nat} {u : Value} {L : List Int} {y : World} {a : Int} (h : HpI w m r n K D (fun z => left z && !z.sameKey (.int .i64 a)) left cnt u L y) (hx : a ∉ K) : HpI w m r n K D (fun z => left z && !z.sameKey (.int .i64 a)) (fun z => left z && !z.sameKey (.int .i64 a)) cnt u L y := by
  refine ⟨h.rg, h.row, fun k' => ?_, h.nodup, h.low, h.mr, h.far, h.rs⟩
  rw [h.mem k']
  constructor
  · rintro ⟨p, q⟩
    exact ⟨p, by simp [q]⟩
  · rintro ⟨p, q⟩
    refine ⟨p, ?_⟩
    cases e : left (.int .i64 k') with
    | false => rfl
    | true =>
      simp [e] at q
      have e2 : Lit.int .i64 k' = .int .i64 a := WideAt.sameKey_eq q
      cases e2
      exact absurd p hx
theorem HpI.add {w : World} {m r n : Nat} {K : List Int} {D : DataW Unit} {left : Lit → Bool} {cnt : Nat} {u v' : Value} {L : List Int} {y y' : World} {a : Int} (h : HpI w m r n K D (fun z => left z && !z.sameKey (.int .i64 a)) left cnt u L y) (hw : (Lit.int .i64 a).wf = true) (hx : a ∈ K) (hl : left (.int .i64 a) = true) (hg : y.grownBy y' u.ownBlock) (hr : RowN y' (r + 1) v' (L ++ [a])) : HpI w m r n K D (fun z => left z && !z.sameKey (.int .i64 a)) (fun z => left z && !z.sameKey (.int .i64 a)) cnt v' (L ++ [a]) y' := by
  have hkp := keeps_grown hg
  have hge : ∀ i, some i = u.ownBlock → r + 1 ≤ i := fun i e => (World.ownsRow.lt h.row i e.symm).1
  refine ⟨ranges_keeps h.rg hkp (fun e => by have := hge m e; have := h.mr; omega) (fun e => by have := hge r e; omega), hr, fun k' => ?_, ?_, h.low.trans (keeps_below hkp (fun i e => by have := hge i e; have := h.far; omega) h.low.size), h.mr, h.far, Nat.lt_of_lt_of_le h.rs hg.size⟩
  · rw [List.mem_append, List.mem_singleton, h.mem k']
    constructor
    · rintro (⟨p, q⟩ | rfl)
      · exact ⟨p, by simp [q]⟩
      · exact ⟨hx, by simp [WideAt.sameKey_self (keyedV.key (keyOf_int_mk Tryz.underlying3 hw))]⟩
    · rintro ⟨p, q⟩
      cases e : left (.int .i64 k') with
      | false => exact .inl ⟨p, rfl⟩
      | true =>
        simp [e] at q
        have e2 : Lit.int .i64 k' = .int .i64 a := WideAt.sameKey_eq q
        cases e2
        exact .inr rfl
  · rw [List.nodup_append]
    refine ⟨h.nodup, by simp, fun x hx' b hb => ?_⟩
    rw [List.mem_singleton] at hb
    subst hb
    rintro rfl
    have := ((h.mem x).1 hx').2
    rw [hl] at this
    cases this
def HopsSayR (w : World) (l : List Int) (e : Ending) (w' : World) : Prop := ∃ v, e = .returned (.tuple #[v, .int .i64 0]) ∧ RowN w' w.heap.size v (sortedI l) ∧ Below w.heap.size w w'
set_option maxRecDepth 100000 in
set_option maxHeartbeats 4000000 in
theorem rg_hops_ok {B : Nat} {w : World} {g : Nat} {V : Ky → ByteArray} {L : List Ky} (h : RefG B w g V L) {word : ByteArray} {nx : Int → List Int} {N : List Int} (hT : FarT V L word nx N) (n : Int) (hn : n ∈ N) (hwn : (Lit.int .i64 n).wf = true) (hi : isG V n = true) (H : Nat) (hH : H ≤ 1048576) :
    Calls Tryz.prog 18 #[.pointer (some ⟨g, 0, none⟩), .int .i64 n, .string word, .int .i64 H] w (HopsSayR w (cameK nx n H)) := by
  have HI := hide (rg_Is h n)
  rw [hi] at HI
  have HIn := hide (fun W => ref_in (H : Int) 0 1048576 W)
  have hin : inB (H : Int) 0 1048576 = true := decide_eq_true (by omega)
  rw [hin] at HIn
  have HFa := hide (fun W (hb : Below w.heap.size w W) => rg_far (h.below hb) hT n hn hwn)
  have HNc := hide (came_nodup nx n H)
  clear h hT hn hwn hi hin
  go_enter Tryz.func18, Tryz.ntmps18
  go_wp2_with fail
  refine (unhide HI).mono ?_
  rintro e W1 ⟨rfl, b1⟩
  have HB1 := hide b1
  clear b1 HI
  go_wp2_with fail
  refine (unhide HIn _).mono ?_
  rintro e W2 ⟨rfl, hW2⟩
  obtain rfl : W1 = W2 := hW2.symm
  clear hW2 HIn
  go_wp2_with fail
  refine (unhide HFa _ (unhide HB1)).mono ?_
  rintro e W3 ⟨mb, C, rfl, hW, hnd, hCl, hd⟩
  obtain ⟨D, hoD, hKD⟩ := hW.came
  have HO := hide hoD
  have HK := hide hKD
  have hm := hW.came.lt
  have HB3 : Hid (Below w.heap.size w W3) := (unhide HB1).trans (hW.low.mono (unhide HB1).size)
  have HKm : Hid (∀ a, a ∈ cameK nx n H ↔ ∃ d, (a, d) ∈ C ∧ d ≤ (H : Int)) := fun a => by
    constructor
    · intro q
      obtain ⟨j, hj, hr⟩ := ring_of nx n H a q
      exact ⟨(j : Int), (hd a j).2 ⟨j, rfl, hr⟩, by omega⟩
    · rintro ⟨d, q1, q2⟩
      obtain ⟨i, rfl, hr⟩ := (hd a d).1 q1
      have := keys_le nx n i (H - i) a (ring_came nx n i a hr)
      rwa [show i + (H - i) = H by omega] at this
  have HOne : Hid (∀ a d d', (a, d) ∈ C → (a, d') ∈ C → d = d') := fun a d d' q q' => one_val hnd q q'
  have hKl : (cameK nx n H).length ≤ 4000 := by
    have := nodup_le (unhide HNc) (N := C.map (·.1)) (fun x hx => by
      obtain ⟨d, q, _⟩ := (unhide HKm x).1 hx
      exact List.mem_map.2 ⟨_, q, rfl⟩)
    rw [List.length_map] at this
    omega
  have HKh : Hid (∀ a, a ∈ cameK nx n H → Maps.has D (.int .i64 a) = true) := fun a ha => by
    obtain ⟨d, q, _⟩ := (unhide HKm a).1 ha
    rw [hKD.has a]
    exact decide_eq_true (List.mem_map.2 ⟨_, q, rfl⟩)
  generalize cameK nx n H = K at *
  clear hW hnd hCl hd hoD hKD HFa HB1
  go_wp2_with (first | (at_range; refine wpList_range_own _ rfl _ 148 rfl 3 3 keyedV Tryz.underlying148 numE mb C.length D rfl (unhide HO) ?_; intro w0 hrg0 hg0 hs0))
  try go_frame
  have HS0 : Hid (HpI w mb W3.heap.size C.length K D (Maps.has D) (Maps.has D) (Maps.size D) (.slice none 0 0) [] w0) := by
    have hb0 := below_grown_none hg0
    refine ⟨hrg0, ⟨rfl, .inl ⟨rfl, rfl⟩⟩, fun a => ?_, List.nodup_nil, (unhide HB3).trans (hb0.mono (unhide HB3).size), hm, (unhide HB3).size, by omega⟩
    constructor
    · intro q; cases q
    · rintro ⟨p, q⟩
      rw [unhide HKh a p] at q
      cases q
  have hwr := (unhide HB3).size
  clear hrg0 hg0 hs0 HO HB3
  go_loopw [10] (fun u y => ∃ left cnt L, HpI w mb W3.heap.size C.length K D left left cnt u L y) (fun _ y => y.rangeLeft mb W3.heap.size)
  case atStart => exact ⟨_, _, [], unhide HS0⟩
  case round =>
    clear HS0
    obtain ⟨left, cnt, L, hI⟩ := hrel
    have HI := hide hI
    have hshort : L.length ≤ K.length := nodup_le hI.nodup (fun k hk => ((hI.mem k).1 hk).1)
    clear hI
    go_wp2_with (first | (at_next; refine wpList_next_ranges _ rfl _ rfl 3 keyedV numE (Value.int .i64) (Value.int .i64) (fun key kl hkey => by obtain ⟨x, rfl, _⟩ := Maps.keyOf_int_inv Tryz.underlying3 hkey; exact ⟨x, rfl⟩) (fun _ _ q => numE_some q) mb W3.heap.size C.length D left cnt rfl (unhide HI).rg ?done ?more))
    case done =>
      intro _ hl0
      obtain ⟨ad, c, rfl⟩ : ∃ ad c, u10 = .slice ad L.length c := row_slice (show World.ownsRow _ _ _ _ _ _ _ from (unhide HI).row)
      have HSo := hide (sort_Ints L _ wr (W3.heap.size + 1) (by omega) (unhide HI).row)
      have HE : Hid (sortedI L = sortedI K) := sortedI_perm (nodup_perm (unhide HI).nodup (unhide HNc) (fun x => by rw [(unhide HI).mem x]; exact ⟨fun q => q.1, fun q => ⟨q, hl0 _⟩⟩))
      clear hl0
      go_wp2_with fail
      refine (unhide HSo).mono ?_
      rintro e W5 ⟨rfl, ho, hg⟩
      have HR : Hid (HopsSayR w K (.returned (.tuple #[.slice ad L.length c, .int .i64 0])) W5) := by
        have ho' : RowN W5 (W3.heap.size + 1) (.slice ad L.length c) (sortedI L) := ho
        rw [unhide HE] at ho'
        refine ⟨_, rfl, rowN_mono ho' (by omega), (unhide HI).low.trans (keeps_below (keeps_grown hg) (fun i e => ?_) (unhide HI).low.size)⟩
        have := (World.ownsRow.lt (unhide HI).row i e.symm).1
        omega
      clear ho hg HSo HI
      go_wp2
      go_ret2
      exact unhide HR
    case more =>
      intro a c kl y ps w1 cnt1 hkey hlx hv hat hrg1 hlt hg1 hs1 hen
      obtain ⟨a', ea, rfl, hwa⟩ := Maps.keyOf_int_inv Tryz.underlying3 hkey
      cases ea
      obtain ⟨d, hx, hc⟩ := (unhide HK).met hv hat
      injection hc with _ hc
      subst hc
      have HL1 := hide ((unhide HI).came hg1 hrg1)
      have HMs := hide hlt
      have HCt := hide (unhide HI).rg.left_eq
      have HLk := hide hlx
      clear hkey hv hat hrg1 hlt hlx hg1 hs1 HI
      by_cases hdH : c ≤ (H : Int)
      · have HB2 := hide (below_box w1 (.cells #[.int .i64 a] 3))
        have HL2 := hide ((unhide HL1).below (unhide HB2))
        have hcx := cell_new w1 (.int .i64 a) 3
        have HXa : Hid (a ∈ K) := (unhide HKm a).2 ⟨c, hx, hdH⟩
        have hL2 : L.length ≤ 1000000 := by omega
        have hbs : W3.heap.size + 1 ≤ (w1.alloc (.cells #[.int .i64 a] 3)).heap.size := (unhide HL2).rs
        clear HL1 HB2 hx
        go_wp2_with (first
          | (at_builtin; refine wpList_appN _ rfl (.tmp 33) (.tmp 35) rfl (W3.heap.size + 1) _ L rfl (unhide HL2).row w1.heap.size a rfl hcx hL2 hbs ?_))
        intro v9 W7 r1 r2
        have HI7 := hide ((unhide HL2).add hwa (unhide HXa) (unhide HLk) r2 r1)
        obtain ⟨ad7, cap7, rfl⟩ := row_slice (show World.ownsRow _ _ _ _ _ _ _ from r1)
        have HCn : Hid (W7.rangeLeft mb W3.heap.size < wr.rangeLeft mb W3.heap.size) := by
          have := unhide HMs
          show _ < _
          rw [(unhide HI7).rg.left_eq, unhide HCt]
          omega
        clear r1 r2 HL2 hcx hbs hen
        go_wp2
        go_roundw
        case rel => exact ⟨_, _, _, unhide HI7⟩
        case measure => exact unhide HCn
      · have HXa : Hid (a ∉ K) := fun q => by
          obtain ⟨d', q1, q2⟩ := (unhide HKm a).1 q
          have := unhide HOne a _ _ q1 hx
          omega
        have HI7 := hide ((unhide HL1).skip (unhide HXa))
        have HCn : Hid (w1.rangeLeft mb W3.heap.size < wr.rangeLeft mb W3.heap.size) := by
          have := unhide HMs
          show _ < _
          rw [(unhide HI7).rg.left_eq, unhide HCt]
          omega
        clear hx HL1
        go_wp2
        go_roundw
        case rel => exact ⟨_, _, _, unhide HI7⟩
        case measure => exact unhide HCn
set_option maxRecDepth 100000 in
theorem rg_hops_none {B : Nat} {w : World} {g : Nat} {V : Ky → ByteArray} {L : List Ky} (h : RefG B w g V L) (word : ByteArray) (n H : Int) (hi : isG V n = false) :
    Calls Tryz.prog 18 #[.pointer (some ⟨g, 0, none⟩), .int .i64 n, .string word, .int .i64 H] w fun e w' => e = .returned (.tuple #[.slice none 0 0, .int .i64 7]) ∧ Below w.heap.size w w' := by
  have HI := hide (rg_Is h n)
  rw [hi] at HI
  clear h hi
  go_enter Tryz.func18, Tryz.ntmps18
  go_wp2_with fail
  refine (unhide HI).mono ?_
  rintro e W1 ⟨rfl, b1⟩
  go_wp2
  go_ret2
  exact ⟨rfl, b1⟩
set_option maxRecDepth 100000 in
theorem rg_hops_range {B : Nat} {w : World} {g : Nat} {V : Ky → ByteArray} {L : List Ky} (h : RefG B w g V L) (word : ByteArray) (n H : Int) (hi : isG V n = true) (hH : H < 0 ∨ 1048576 < H) :
    Calls Tryz.prog 18 #[.pointer (some ⟨g, 0, none⟩), .int .i64 n, .string word, .int .i64 H] w fun e w' => e = .returned (.tuple #[.slice none 0 0, .int .i64 2]) ∧ Below w.heap.size w w' := by
  have HI := hide (rg_Is h n)
  rw [hi] at HI
  have HIn := hide (fun W => ref_in H 0 1048576 W)
  have hin : inB H 0 1048576 = false := decide_eq_false (by omega)
  rw [hin] at HIn
  clear h hi hin hH
  go_enter Tryz.func18, Tryz.ntmps18
  go_wp2_with fail
  refine (unhide HI).mono ?_
  rintro e W1 ⟨rfl, b1⟩
  have HB1 := hide b1
  clear b1
  go_wp2_with fail
  refine (unhide HIn _).mono ?_
  rintro e W2 ⟨rfl, hW2⟩
  obtain rfl : W1 = W2 := hW2.symm
  go_wp2
  go_ret2
  exact ⟨rfl, unhide HB1⟩
end Go.Proofs.YtfoojmflbifkpaaGreatDoor

/- The document's graph: Way: walked. -/
namespace Go.Proofs.YtfoojmflbifkpaaGreatDoor
open Go.RowKit Go.Maps
set_option maxRecDepth 100000 in
theorem rg_way_missing {B : Nat} {w : World} {g : Nat} {V : Ky → ByteArray} {L : List Ky} (h : RefG B w g V L) (word : ByteArray) (x y : Int) (hi : isG V x = false ∨ isG V y = false) :
    Calls Tryz.prog 20 #[.pointer (some ⟨g, 0, none⟩), .int .i64 x, .int .i64 y, .string word] w fun e w' => e = .returned (.tuple #[.slice none 0 0, .int .i64 7]) ∧ Below w.heap.size w w' := by
  have HI := hide (rg_Is h x)
  have HI2 := hide (fun W (hb : Below w.heap.size w W) => rg_Is (h.below hb) y)
  clear h
  cases hx : isG V x with
  | false =>
    rw [hx] at HI
    clear hi
    go_enter Tryz.func20, Tryz.ntmps20
    go_wp2_with fail
    refine (unhide HI).mono ?_
    rintro e W1 ⟨rfl, b1⟩
    go_wp2
    go_ret2
    exact ⟨rfl, b1⟩
  | true =>
    rw [hx] at HI
    have hy : isG V y = false := by
      rcases hi with q | q
      · rw [hx] at q; cases q
      · exact q
    rw [hy] at HI2
    clear hi
    go_enter Tryz.func20, Tryz.ntmps20
    go_wp2_with fail
    refine (unhide HI).mono ?_
    rintro e W1 ⟨rfl, b1⟩
    have HB1 := hide b1
    clear b1
    go_wp2_with fail
    refine (unhide HI2 _ (unhide HB1)).mono ?_
    rintro e W2 ⟨rfl, b2⟩
    have HB2 := hide ((unhide HB1).trans (b2.mono (unhide HB1).size))
    clear b2
    go_wp2
    go_ret2
    exact ⟨rfl, unhide HB2⟩
set_option maxRecDepth 100000 in
set_option maxHeartbeats 1000000 in
theorem rg_way_none {B : Nat} {w : World} {g : Nat} {V : Ky → ByteArray} {L : List Ky} (h : RefG B w g V L) {word : ByteArray} {nx : Int → List Int} {N : List Int} (hT : FarT V L word nx N) (x y : Int) (hx : x ∈ N) (hwx : (Lit.int .i64 x).wf = true) (hwy : (Lit.int .i64 y).wf = true) (hix : isG V x = true) (hiy : isG V y = true) (hno : ∀ i, y ∉ (rounds nx x i).2) :
    Calls Tryz.prog 20 #[.pointer (some ⟨g, 0, none⟩), .int .i64 x, .int .i64 y, .string word] w fun e w' => e = .returned (.tuple #[.slice none 0 0, .int .i64 8]) ∧ Below w.heap.size w w' := by
  have HI := hide (rg_Is h x)
  have HI2 := hide (fun W (hb : Below w.heap.size w W) => rg_Is (h.below hb) y)
  have HFa := hide (fun W (hb : Below w.heap.size w W) => rg_far (h.below hb) hT x hx hwx)
  rw [hix] at HI
  rw [hiy] at HI2
  have HNo := hide hno
  clear h hT hx hwx hix hiy hno
  go_enter Tryz.func20, Tryz.ntmps20
  go_wp2_with fail
  refine (unhide HI).mono ?_
  rintro e W1 ⟨rfl, b1⟩
  have HB1 := hide b1
  clear b1 HI
  go_wp2_with fail
  refine (unhide HI2 _ (unhide HB1)).mono ?_
  rintro e W2 ⟨rfl, b2⟩
  have HB2 := hide ((unhide HB1).trans (b2.mono (unhide HB1).size))
  clear b2 HB1 HI2
  go_wp2_with fail
  refine (unhide HFa _ (unhide HB2)).mono ?_
  rintro e W3 ⟨mb, C, rfl, hW, hnd, hCl, hd⟩
  have HB3 := hide ((unhide HB2).trans (hW.low.mono (unhide HB2).size))
  obtain ⟨c, hrc, _⟩ := hW.came.look y hwy
  have hn : y ∉ C.map (·.1) := fun q => by
    obtain ⟨p, hp, e⟩ := List.mem_map.1 q
    subst e
    obtain ⟨i, _, hr⟩ := (hd p.1 p.2).1 hp
    exact unhide HNo i hr
  rw [decide_eq_false hn] at hrc
  clear hW hnd hCl hd hn HFa HB2
  go_wp2
  go_ret2
  exact ⟨rfl, unhide HB3⟩
end Go.Proofs.YtfoojmflbifkpaaGreatDoor

/- The document's graph: Way, where there is one: walked. -/
namespace Go.Proofs.YtfoojmflbifkpaaGreatDoor
open Go.RowKit Go.Maps
theorem CameW.look0 {w : World} {m : Nat} {C : List (Int × Int)} (h : CameW w m C) (b : Int) (hb : (Lit.int .i64 b).wf = true) :
    ∃ c : Int, (Instr.lookup 148 (.map (some m)) (.int .i64 b) false).run Tryz.prog w = .ok (.int .i64 c) w ∧ (∀ x, x ∈ C → x.1 = b → c = x.2) ∧ (b ∉ C.map (·.1) → c = 0) := by
  by_cases hm : b ∈ C.map (·.1)
  · obtain ⟨x, hx, e⟩ := List.mem_map.1 hm
    obtain ⟨D, h1, h2⟩ := h
    obtain ⟨v, ps, hr, hv⟩ := h1.lookup keyedV Tryz.underlying148 (zero_int w) (zd := zd) (zp := []) rfl (keyOf_int_mk Tryz.underlying3 hb)
    obtain ⟨c, rfl⟩ := numE_some hv
    refine ⟨c, hr, fun y hy ey => ?_, fun q => absurd hm q⟩
    rw [← ey, h2.there y hy] at hv
    have := numE_inv hv
    injection this
  · obtain ⟨D, h1, h2⟩ := h
    obtain ⟨v, ps, hr, hv⟩ := h1.lookup keyedV Tryz.underlying148 (zero_int w) (zd := zd) (zp := []) rfl (keyOf_int_mk Tryz.underlying3 hb)
    rw [Maps.atKey_of_not_has (by rw [h2.has b]; exact decide_eq_false hm)] at hv
    refine ⟨0, by rw [hr, numE_inv hv], fun x hx e => absurd (List.mem_map.2 ⟨x, hx, e⟩) hm, fun _ => rfl⟩
def FitW (nx : Int → List Int) (x y t : Int) (k : Nat) : Prop := t ∈ (rounds nx y k).2 ∧ y ∈ (rounds nx x 1).2
theorem take_way {wy : List Int} {j : Nat} {c : Int} (h : wy[j + 1]? = some c) : wy.take (j + 2) = wy.take (j + 1) ++ [c] := by
  obtain ⟨hl, rfl⟩ := List.getElem?_eq_some_iff.1 h
  exact List.take_succ_eq_append_getElem hl
def WaySayR (w : World) (l : List Int) (e : Ending) (w' : World) : Prop := ∃ v, e = .returned (.tuple #[v, .int .i64 0]) ∧ RowN w' w.heap.size v l ∧ Below w.heap.size w w'
set_option maxRecDepth 100000 in
set_option maxHeartbeats 4000000 in
theorem rg_way_ok {B : Nat} {w : World} {g : Nat} {V : Ky → ByteArray} {L : List Ky} (h : RefG B w g V L) {word : ByteArray} {nx : Int → List Int} {N : List Int} (hT : FarT V L word nx N) (hs : ∀ a, (nx a).Pairwise (· ≤ ·)) (hM : ∀ a, a ∈ nodesR V ⟨#[]⟩ L ↔ a ∈ N) (hwN : ∀ a, a ∈ N → (Lit.int .i64 a).wf = true) (hcl : ∀ a, a ∈ N → ∀ b, b ∈ nx a → b ∈ N) (x y : Int) (hx : x ∈ N) (hy : y ∈ N) (hix : isG V x = true) (hiy : isG V y = true) (i : Nat) (wy : List Int) (hw : IsWay nx x i wy y) (hi : i ≤ 4000) :
    Calls Tryz.prog 20 #[.pointer (some ⟨g, 0, none⟩), .int .i64 x, .int .i64 y, .string word] w (WaySayR w wy) := by
  have HI := hide (rg_Is h x)
  have HI2 := hide (fun W (hb : Below w.heap.size w W) => rg_Is (h.below hb) y)
  have HFa := hide (fun W (hb : Below w.heap.size w W) a (ha : a ∈ N) => rg_far (h.below hb) hT a ha (hwN a ha))
  have HNo := hide (fun W (hb : Below w.heap.size w W) => rg_Nodes (h.below hb) ⟨#[]⟩)
  rw [hix] at HI
  rw [hiy] at HI2
  have hwy := hwN y hy
  have HwN := hide hwN
  have HNl : Hid ((sorted (nodesR V ⟨#[]⟩ L)).length ≤ 4000) := by
    unfold Hid
    rw [sorted_length]
    exact Nat.le_trans (nodesR_le V ⟨#[]⟩ L) h.len
  have HMm : Hid (∀ a, a ∈ sorted (nodesR V ⟨#[]⟩ L) ↔ a ∈ N) := fun a => by rw [← hM a]; exact (List.mergeSort_perm _ _).mem_iff
  have HMs : Hid ((sorted (nodesR V ⟨#[]⟩ L)).Pairwise (· ≤ ·)) := by
    have := List.pairwise_mergeSort (le := fun x y : Int => decide (x ≤ y)) (fun a b c h1 h2 => by simp at *; omega) (fun a b => by simp; omega) (nodesR V ⟨#[]⟩ L)
    exact this.imp (fun h => by simpa using h)
  have HLe := hide (fun j hj x' c hx' hc => way_least hs hw j hj x' c hx' hc)
  have HW := hide hw
  have HOn : Hid (∀ j a, wy[j]? = some a → a ∈ N) := fun j a ha => came_in hx hcl j a (ring_came nx x j a (hw.on j a ha))
  have HFx := hide hx
  generalize sorted (nodesR V ⟨#[]⟩ L) = M at *
  clear h hT hM hix hiy hs hw hcl hx hy hwN
  go_enter Tryz.func20, Tryz.ntmps20
  go_wp2_with fail
  refine (unhide HI).mono ?_
  rintro e W1 ⟨rfl, b1⟩
  have HB1 := hide b1
  clear b1 HI
  go_wp2_with fail
  refine (unhide HI2 _ (unhide HB1)).mono ?_
  rintro e W2 ⟨rfl, b2⟩
  have HB2 := hide ((unhide HB1).trans (b2.mono (unhide HB1).size))
  clear b2 HB1 HI2
  go_wp2_with fail
  refine (unhide HFa _ (unhide HB2) x (unhide HFx)).mono ?_
  rintro e W3 ⟨mb, C, rfl, hW, hnd, hCl, hd⟩
  have HB3 := hide ((unhide HB2).trans (hW.low.mono (unhide HB2).size))
  obtain ⟨c, hrc, hc⟩ := hW.came.look y hwy
  have hin : (y, (i : Int)) ∈ C := (hd y i).2 ⟨i, rfl, (unhide HW).on i y (unhide HW).last⟩
  obtain rfl : c = (i : Int) := hc _ hin rfl
  rw [decide_eq_true (List.mem_map.2 ⟨_, hin, rfl⟩)] at hrc
  have HB4 : Hid (Below w.heap.size w (W3.alloc (.cells #[.int .i64 x] 3))) := (unhide HB3).trans ((below_box W3 _).mono (unhide HB3).size)
  have HR4 : Hid (RowN (W3.alloc (.cells #[.int .i64 x] 3)) w.heap.size (.slice (some ⟨W3.heap.size, 0, none⟩) 1 1) (wy.take 1)) := by
    have e : wy.take 1 = [x] := by
      have h1 := (unhide HW).first
      obtain ⟨hl, e1⟩ := List.getElem?_eq_some_iff.1 h1
      have := List.take_succ_eq_append_getElem hl
      rw [this, e1]
      rfl
    unfold Hid
    rw [e]
    exact World.ownsRow_lit (base := w.heap.size) (e := 3) (size := 1) W3 #[.int .i64 x] 1 (unhide HB3).size (by decide) rfl
  clear hW hnd hCl hd hin hc HB2 HB3
  go_wp2
  clear hrc
  generalize W3.alloc (.cells #[.int .i64 x] 3) = W4 at *
  generalize W3.heap.size = ob at *
  go_loopw [10, 12, 13] (fun d o v y => ∃ (j : Nat) (a : Int), j ≤ i ∧ d = .int .i64 ((i : Int) - (j : Int)) ∧ v = .int .i64 a ∧ wy[j]? = some a ∧ RowN y w.heap.size o (wy.take (j + 1)) ∧ Below w.heap.size w y) (fun d _ _ _ => (intOf d).toNat)
  case atStart => exact ⟨0, x, Nat.zero_le _, by simp, rfl, (unhide HW).first, unhide HR4, unhide HB4⟩
  case round =>
    revert wr
    intro wo hrel
    obtain ⟨j, a, hj, rfl, rfl, hja, hro, hb⟩ := hrel
    have HRo := hide hro
    have HB := hide hb
    have HJa := hide hja
    have HaN := hide (unhide HOn j a hja)
    have hlw := (unhide HW).len
    have hlj : (wy.take (j + 1)).length = j + 1 := by rw [List.length_take]; omega
    have HLj := hide hlj
    obtain ⟨ado, co, eo⟩ := row_slice (show World.ownsRow _ _ _ _ _ _ _ from hro)
    rw [hlj] at eo
    subst eo
    clear hlj
    clear hro hb hja HR4 HB4
    by_cases hlt : j < i
    · have hd0 : (0 : Int) < (i : Int) - (j : Int) := by omega
      obtain ⟨c, hcj⟩ : ∃ c, wy[j + 1]? = some c := ⟨_, List.getElem?_eq_getElem (by omega)⟩
      have HCj := hide hcj
      obtain ⟨f1, f2, f3⟩ := unhide HLe j hlt a c (unhide HJa) hcj
      have HF1 : Hid (FitW nx a c y (i - (j + 1))) := ⟨f1, f2⟩
      have HF3 : Hid (∀ z, FitW nx a z y (i - (j + 1)) → c ≤ z) := fun z hz => f3 z hz.1 hz.2
      have HcM : Hid (c ∈ M) := (unhide HMm c).2 (unhide HOn (j + 1) c hcj)
      have HNn := hide (unhide HNo wo (unhide HB))
      have HTk := hide (take_way hcj)
      clear f1 f2 f3 hcj
      obtain ⟨k, hk⟩ : ∃ k, k = i - (j + 1) := ⟨_, rfl⟩
      rw [← hk] at HF1 HF3
      have hkz : (i : Int) - (j : Int) - 1 = (k : Int) := by omega
      have HKz := hide hkz
      clear hk hkz
      go_wp2_with fail
      refine (unhide HNn).mono ?_
      rintro e W5 ⟨nv, rfl, hrn, b5⟩
      obtain ⟨gn, adn, cn, rfl, hfn⟩ := RowN.cells hrn
      have HFn := hide hfn
      have HB5 := hide ((unhide HB).trans (b5.mono (unhide HB).size))
      have HR5 := hide ((unhide HRo).carry b5)
      have hMl := unhide HNl
      clear hrn hfn b5 HNn HB HRo
      go_upto_block 2 with fail
      go_cut [13] (fun s13 wx => s13 = .int .i64 c ∧ Below W5.heap.size W5 wx)
      case first =>
        go_wp2_with fail
        go_loopw [13, 50] (fun v kk yy => ∃ q : Nat, q ≤ M.length ∧ v = .int .i64 a ∧ kk = .int .i64 q ∧ (∀ p, (hp : p < M.length) → p < q → M[p] ≠ c) ∧ Below W5.heap.size W5 yy) (fun _ kk _ => M.length - (intOf kk).toNat)
        case atStart => exact ⟨0, Nat.zero_le _, rfl, rfl, fun p _ q => by omega, Below.refl _ _⟩
        case round =>
          obtain ⟨q, hq, rfl, rfl, hno, hb⟩ := hrel
          have HB6 := hide hb
          have HNq := hide hno
          clear hb hno
          by_cases hql : q < M.length
          · have hql' : (q : Int) < (M.length : Int) := by omega
            have hq0 : (0 : Int) ≤ (q : Int) := by omega
            obtain ⟨rfl, a0⟩ := unhide HFn q hql
            have HzN : Hid (M[q] ∈ N) := (unhide HMm _).1 (List.getElem_mem hql)
            have HNext : Hid (M[q] ≠ c → ∀ p, (hp : p < M.length) → p < q + 1 → M[p] ≠ c) := fun hne p hp hpq => by
              rcases Nat.lt_or_ge p q with r | r
              · exact unhide HNq p hp r
              · obtain rfl : p = q := by omega
                exact hne
            have HEq : Hid (c ≤ M[q] → M[q] = c) := fun hle => by
              obtain ⟨p, hp, e⟩ := List.getElem_of_mem (unhide HcM)
              rcases Nat.lt_trichotomy p q with r | r | r
              · exact absurd e (unhide HNq p hp r)
              · subst r; exact e
              · have := List.pairwise_iff_getElem.1 (unhide HMs) q p hql hp r
                omega
            obtain ⟨z, hz⟩ : ∃ z, z = M[q] := ⟨_, rfl⟩
            rw [← hz] at a0 HzN HNext HEq
            have z0 := there_yet a0 (unhide HB6)
            have hwz := unhide HwN z (unhide HzN)
            have HB7 := hide ((unhide HB5).trans ((unhide HB6).mono (unhide HB5).size))
            clear a0 hz HNq
            go_wp2_with fail
            refine (unhide HFa _ (unhide HB7) z (unhide HzN)).mono ?_
            rintro e W6 ⟨mz, Cz, rfl, hWz, hndz, _, hdz⟩
            obtain ⟨l, hrl, hl⟩ := hWz.came.look y hwy
            have HB8 := hide ((unhide HB7).trans (hWz.low.mono (unhide HB7).size))
            have HB9 := hide ((unhide HB6).trans (hWz.low.mono (unhide HB6).size))
            have HL := hide hl
            have HDz := hide hdz
            clear hWz hndz hl hdz z0 HB7 HB6
            by_cases my : y ∈ Cz.map (·.1)
            · rw [decide_eq_true my] at hrl
              have HyL : Hid ((y, l) ∈ Cz) := by
                obtain ⟨p, hp, e⟩ := List.mem_map.1 my
                have e2 := unhide HL p hp e
                obtain ⟨p1, p2⟩ := p
                dsimp only at e e2
                show (y, l) ∈ Cz
                rw [← e, e2]
                exact hp
              clear my
              go_wp2_with fail
              refine (unhide HFa _ (unhide HB8) a (unhide HaN)).mono ?_
              rintro e W7 ⟨ma, Ca, rfl, hWa, hnda, _, hda⟩
              obtain ⟨o1, hro, ho1, ho2⟩ := hWa.came.look0 z hwz
              have HBa := hide ((unhide HB9).trans (hWa.low.mono (unhide HB9).size))
              have HFit : Hid (FitW nx a z y k → l = (k : Int) ∧ o1 = 1) := fun hf => by
                refine ⟨unhide HL _ ((unhide HDz y k).2 ⟨k, rfl, hf.1⟩) rfl, ?_⟩
                have := ho1 _ ((hda z 1).2 ⟨1, rfl, hf.2⟩) rfl
                exact this
              have HFit2 : Hid (l = (k : Int) → o1 = 1 → FitW nx a z y k) := fun h1 h2 => by
                refine ⟨?_, ?_⟩
                · obtain ⟨i', e1, hr⟩ := (unhide HDz y l).1 (unhide HyL)
                  obtain rfl : i' = k := by omega
                  exact hr
                · rcases Classical.em (z ∈ Ca.map (·.1)) with r | r
                  · obtain ⟨p, hp, e⟩ := List.mem_map.1 r
                    have e2 := ho1 p hp e
                    obtain ⟨p1, p2⟩ := p
                    dsimp only at e e2
                    subst e
                    obtain ⟨i', e1, hr⟩ := (hda p1 p2).1 hp
                    obtain rfl : i' = 1 := by omega
                    exact hr
                  · have := ho2 r
                    omega
              clear hWa hnda hda ho1 ho2 HyL HB9
              by_cases hle : l = (i : Int) - (j : Int) - 1
              · by_cases ho : o1 = 1
                · have HZc : Hid (z = c) := unhide HEq (unhide HF3 z (unhide HFit2 (hle.trans (unhide HKz)) ho))
                  subst hle
                  subst ho
                  go_wp2
                  go_meet
                  case rel => exact ⟨by rw [unhide HZc], unhide HBa⟩
                · have HNz := hide (unhide HNext (fun e => ho (unhide HFit (by rw [e]; exact unhide HF1)).2))
                  subst hle
                  go_wp2
                  go_roundw
                  case rel => exact ⟨q + 1, by omega, rfl, by go_num, unhide HNz, unhide HBa⟩
                  case measure => simp [intOf]; omega
              · have HNz := hide (unhide HNext (fun e => hle (((unhide HFit (by rw [e]; exact unhide HF1)).1).trans (unhide HKz).symm)))
                go_wp2
                go_roundw
                case rel => exact ⟨q + 1, by omega, rfl, by go_num, unhide HNz, unhide HBa⟩
                case measure => simp [intOf]; omega
            · rw [decide_eq_false my] at hrl
              have HNz := hide (unhide HNext (fun e => my (List.mem_map.2 ⟨_, (unhide HDz y k).2 ⟨k, rfl, by rw [e]; exact (unhide HF1).1⟩, rfl⟩)))
              clear my
              go_wp2_with fail
              refine (unhide HFa _ (unhide HB8) a (unhide HaN)).mono ?_
              rintro e W7 ⟨ma, Ca, rfl, hWa, _⟩
              have HBa := hide ((unhide HB9).trans (hWa.low.mono (unhide HB9).size))
              clear hWa HB9
              go_wp2
              go_roundw
              case rel => exact ⟨q + 1, by omega, rfl, by go_num, unhide HNz, unhide HBa⟩
              case measure => simp [intOf]; omega
          · exfalso
            obtain ⟨p, hp, e⟩ := List.getElem_of_mem (unhide HcM)
            exact unhide HNq p hp (by omega) e
      case rest =>
        obtain ⟨rfl, hbc⟩ := hcut
        have HRc := hide ((unhide HR5).carry hbc)
        have HBc := hide ((unhide HB5).trans (hbc.mono (unhide HB5).size))
        have HBy := hide (below_box wc (.cells #[.int .i64 c] 3))
        have HRo2 := hide ((unhide HRc).carry (unhide HBy))
        have HB2 := hide ((unhide HBc).trans ((unhide HBy).mono (unhide HBc).size))
        have hcy := cell_new wc (.int .i64 c) 3
        have hLj : (wy.take (j + 1)).length ≤ 1000000 := by rw [List.length_take]; omega
        have hbs := (unhide HB2).size
        rw [show j + 1 + 1 = j + 2 by omega] at *
        clear hbc HRc HBc HBy HR5 HB5
        have hL7 : (wy.take (j + 1) ++ [c]).length = j + 2 := by rw [List.length_append, unhide HLj]; rfl
        have HL7 := hide hL7
        clear hL7
        generalize wy.take (j + 1) = Lj at *
        go_wp2_with (first
          | (at_builtin; refine wpList_appN _ rfl (.tmp 82) (.tmp 84) rfl w.heap.size _ Lj rfl (unhide HRo2) wc.heap.size c rfl hcy hLj hbs ?_))
        intro v9 W8 r1 r2
        have HR8 : Hid (RowN W8 w.heap.size v9 (wy.take (j + 2))) := by
          unfold Hid
          rw [unhide HTk]
          exact r1
        have HB8 := hide (grown_below (unhide HB2) (unhide HRo2) r2 hbs)
        obtain ⟨ad7, cap7, e7⟩ := row_slice (show World.ownsRow _ _ _ _ _ _ _ from r1)
        rw [unhide HL7] at e7
        subst e7
        clear r1 r2 HRo2 HB2 hcy hbs
        go_wp2
        go_roundw
        case rel => exact ⟨j + 1, c, by omega, by congr 1; omega, rfl, unhide HCj, unhide HR8, unhide HB8⟩
        case measure => simp [intOf]; omega
    · have hd0 : ¬ (0 : Int) < (i : Int) - (j : Int) := by omega
      have HR9 : Hid (RowN wo w.heap.size (.slice ado (j + 1) co) wy) := by
        have e : wy.take (j + 1) = wy := List.take_of_length_le (by omega)
        have := unhide HRo
        rw [e] at this
        exact this
      go_wp2
      go_ret2
      exact ⟨_, rfl, unhide HR9, unhide HB⟩
end Go.Proofs.YtfoojmflbifkpaaGreatDoor

/- The document's At: walked. -/
namespace Go.Proofs.YtfoojmflbifkpaaGreatDoor
open Go.RowKit Go.Maps
theorem rg_at_count {w : World} {R : Nat} {at_ t e0 : Int} (hk : Calls Tryz.prog 56 #[.pointer (some ⟨R, 0, none⟩), .int .i64 at_, .int .i64 t] w fun e w' => ∃ v, e = .returned (.tuple #[v, .int .i64 e0]) ∧ Below w.heap.size w w') (hne : e0 ≠ 0) :
    Calls Tryz.prog 14 #[.pointer (some ⟨R, 0, none⟩), .int .i64 at_, .int .i64 t] w fun e w' => e = .returned (.tuple #[.pointer none, .int .i64 e0]) ∧ Below w.heap.size w w' := by
  have HK := hide hk
  clear hk
  go_enter Tryz.func14, Tryz.ntmps14
  go_wp2_with fail
  refine (unhide HK).mono ?_
  rintro e W1 ⟨v, rfl, b1⟩
  go_wp2
  go_ret2
  exact ⟨rfl, b1⟩
def RowW (y : World) (base : Nat) (v : Value) (l : List ByteArray) : Prop := y.ownsRow base 9 1 v l.length (l.map Value.string)
theorem infoSt : (Tryz.prog.info? 9).map (fun i => (i.zero, i.size, i.bytes)) = some (some (.string ⟨#[]⟩), 1, 16) := by kernel_rfl
theorem step_appS (w : World) {ops : Array Oper} {o : Oper} {a : Act} {K : Act → World → Prop} {Q : Exit → Act → World → Prop} {E : Prop} (hgd : o.guard = none) (s x : Operand)
    (ho : o.op = .call { callee := .builtin .append, args := #[s, x], argTypes := #[117, 117] })
    (base : Nat) (v : Value) (L : List ByteArray) (hs : a.eval s = v) (hown : RowW w base v L)
    (b : Nat) (z : ByteArray) (hx : a.eval x = .slice (some ⟨b, 0, none⟩) 1 1) (hc : w.cell? ⟨b, 0, none⟩ = some (.string z)) (hlen : L.length ≤ 100000) (hbase : base ≤ w.heap.size)
    (h : ∀ g cap w', RowW w' base (.slice (some ⟨g, 0, none⟩) (L ++ [z]).length cap) (L ++ [z]) → Hid (w.grownBy w' v.ownBlock) → K (a.put o.dst (.slice (some ⟨g, 0, none⟩) (L ++ [z]).length cap)) w') :
    if Region.wanted o (yielded ops a.tmps) = true then Oper.wp Tryz.prog o a w K Q else E := by
  obtain ⟨i0, hi0, hz0, hz1, hz2⟩ := info_parts infoSt
  refine step_append_lies _ hgd s x 117 ho base 9 i0 (.string ⟨#[]⟩) 1 16 Tryz.underlying117 hi0 hz0 hz1 hz2 rfl (by decide) v L.length (L.map Value.string) hs hown ⟨b, 0, none⟩ 1 1 [.string z] hx rfl ?_ ?_ (by decide) ?_ ?_ hbase _ rfl ?_
  · intro j u hj
    match j, hj with
    | 0, hj => simp at hj; subst hj; simpa [Addr.add] using hc
  · intro u hu
    simp at hu
    subst hu; rfl
  · unfold maxLen; omega
  · omega
  · intro g cap w' k1 k2 _ _
    have el : (L ++ [z]).length = L.length + 1 := by simp
    have := h g cap w'
    unfold RowW at this
    rw [el, List.map_append] at this
    exact this k1 k2
theorem grown_set (w : World) (G o : Nat) (u : Value) : w.grownBy (w.setCell ⟨G, o, none⟩ u) (some G) := by
  have hk := keeps_set w G o u
  exact ⟨hk.os, hk.tape, hk.output, hk.size, fun k h1 h2 => hk.block k h1 (fun e => h2 (by rw [e]))⟩
structure AtR (W1 : World) (v u : Value) (vs : List ByteArray) (y : World) : Prop where
  c0 : y.cell? ⟨W1.heap.size, 0, none⟩ = some v
  c1 : y.cell? ⟨W1.heap.size, 1, none⟩ = some u
  f1 : y.frozen? ⟨W1.heap.size, 1, none⟩ = false
  row : RowW y (W1.heap.size + 1) u vs
  low : Below W1.heap.size W1 y
theorem AtR.lt {W1 : World} {v u : Value} {vs : List ByteArray} {y : World} (h : AtR W1 v u vs y) : W1.heap.size < y.heap.size := lt_of_cell h.c0
theorem AtR.below {W1 : World} {v u : Value} {vs : List ByteArray} {y y' : World} (h : AtR W1 v u vs y) (hb : Below y.heap.size y y') : AtR W1 v u vs y' :=
  ⟨there_yet h.c0 hb, there_yet h.c1 hb, (hb.frozen (p := ⟨W1.heap.size, 1, none⟩) h.lt).trans h.f1, ownsRow_carry h.row hb, h.low.trans (hb.mono h.low.size)⟩
theorem AtR.grown {W1 : World} {v u u' : Value} {vs vs' : List ByteArray} {y y' : World} (h : AtR W1 v u vs y) (hg : y.grownBy y' u.ownBlock) (hr : RowW y' (W1.heap.size + 1) u' vs') : AtR W1 v u' vs' (y'.setCell ⟨W1.heap.size, 1, none⟩ u') ∧ y'.cell? ⟨W1.heap.size, 1, none⟩ = some u ∧ y'.frozen? ⟨W1.heap.size, 1, none⟩ = false := by
  have hk := keeps_grown hg
  have hge : ∀ i, some i = u.ownBlock → W1.heap.size + 1 ≤ i := fun i e => (World.ownsRow.lt h.row i e.symm).1
  have hn : ¬ some W1.heap.size = u.ownBlock := fun e => by have := hge _ e; omega
  have d0 := (hk.cell (p := ⟨W1.heap.size, 0, none⟩) h.lt hn).trans h.c0
  have d1 := (hk.cell (p := ⟨W1.heap.size, 1, none⟩) h.lt hn).trans h.c1
  have g1 := (hk.frozen (p := ⟨W1.heap.size, 1, none⟩) h.lt hn).trans h.f1
  have hlow : Below W1.heap.size W1 y' := h.low.trans (keeps_below hk (fun i e => by have := hge i e; omega) h.low.size)
  refine ⟨⟨?_, World.cell?_setCell_same _ _ _ d1, by rw [World.frozen?_setCell]; exact g1, ?_, hlow.trans (keeps_below (keeps_set y' W1.heap.size 1 u') (fun i e => by omega) hlow.size)⟩, d1, g1⟩
  · rw [World.cell?_setCell_other _ _ _ _ (by simp)]
    exact d0
  · refine World.ownsRow.kept hr (grown_set y' W1.heap.size 1 u') ?_
    rcases e : u'.ownBlock with _ | q
    · exact .inl rfl
    · refine .inr (fun e2 => ?_)
      have := (World.ownsRow.lt hr q e).1
      cases e2
      omega
def AtSaysR (w : World) (V : Ky → ByteArray) (e : Ending) (w' : World) : Prop :=
  ∃ g L, e = .returned (.tuple #[.pointer (some ⟨g, 0, none⟩), .int .i64 0]) ∧ RefG w.heap.size w' g V L ∧ L.Pairwise (fun a b => cfY a b < 0) ∧ w.heap.size ≤ g ∧ Below w.heap.size w w'
set_option maxRecDepth 100000 in
set_option maxHeartbeats 4000000 in
theorem rg_at_ok {w : World} {R : Nat} {txs : List (List Fop)} {known : Int} (h : RefP w R txs known) (c : Nat) (t : Int) (hcn : c ≤ txs.length) (he : countErr txs.length known c = 0) (ht : timedB t = true) (hky : ∀ l, l ∈ txs → ∀ o, o ∈ l → KyOk (kyO o)) :
    Calls Tryz.prog 14 #[.pointer (some ⟨R, 0, none⟩), .int .i64 c, .int .i64 t] w (AtSaysR w (fun k => refS txs k c t)) := by
  have HK := hide (rp_keys_ok h c t hcn he ht hky)
  have HSd := hide (fun W (hb : Below w.heap.size w W) k => rp_said (h.carry hb) k c hcn t)
  obtain ⟨V, hV⟩ : ∃ V : Ky → ByteArray, V = fun k => refS txs k c t := ⟨_, rfl⟩
  have HVe : Hid (∀ k, refS txs k c t = V k) := fun k => by rw [hV]
  rw [← hV] at HK ⊢
  clear h hcn he ht hky hV
  go_enter Tryz.func14, Tryz.ntmps14
  go_wp2_with fail
  refine (unhide HK).mono ?_
  rintro e W1 ⟨v, L, rfl, hr, hp, hm, hl, b1⟩
  obtain ⟨gk, adk, ck, rfl, hfk⟩ := RowY.cells hr
  have HGk : Hid (L ≠ [] → w.heap.size ≤ gk) := fun hne => by
    obtain ⟨e1, _⟩ := hfk 0 (List.length_pos_iff.2 hne)
    exact (World.ownsRow.lt (show World.ownsRow _ _ _ _ _ _ _ from hr) gk (by rw [e1]; rfl)).1
  have HFk := hide hfk
  have HP := hide hp
  have HM := hide hm
  have HB1 := hide b1
  have HA0 : Hid (AtR W1 (.slice adk L.length ck) (.slice none 0 0) [] (W1.alloc (.cells #[.slice adk L.length ck, .slice none 0 0] 128))) := ⟨by simp, by simp, by simp, World.ownsRow_nil _ _ _ _, below_box _ _⟩
  obtain ⟨n, hn⟩ : ∃ n, n = L.length := ⟨_, rfl⟩
  have HN := hide hn
  rw [← hn] at hl HA0 ⊢
  clear hr hp hm hfk b1 HK hn
  go_wp2
  generalize W1.alloc (.cells #[.slice adk n ck, .slice none 0 0] 128) = W2 at *
  go_loopw [28] (fun i y => ∃ (j : Nat) (u : Value), j ≤ n ∧ i = .int .i64 j ∧ AtR W1 (.slice adk n ck) u ((L.take j).map V) y) (fun i _ => n - (intOf i).toNat)
  case atStart => exact ⟨0, _, Nat.zero_le _, rfl, unhide HA0⟩
  case round =>
    obtain ⟨j, u, hj, rfl, hA⟩ := hrel
    have HA := hide hA
    clear hA HA0
    by_cases hlt : j < n
    · have hlt' : (j : Int) < (n : Int) := by omega
      have hj0 : (0 : Int) ≤ (j : Int) := by omega
      have hjl : j < L.length := by rw [← unhide HN]; exact hlt
      obtain ⟨rfl, a0, a1, a2, a3⟩ := unhide HFk j hjl
      have HTk : Hid ((L.take (j + 1)).map V = (L.take j).map V ++ [V L[j]]) := by
        unfold Hid
        rw [List.take_succ_eq_append_getElem hjl, List.map_append]
        rfl
      have HLl : Hid (((L.take j).map V).length ≤ 4000) := by unfold Hid; rw [List.length_map, List.length_take]; omega
      obtain ⟨k, hkk⟩ : ∃ k, k = L[j] := ⟨_, rfl⟩
      rw [← hkk] at a0 a1 a2 a3 HTk
      have z0 := there_yet a0 (unhide HA).low
      have z1 := there_yet a1 (unhide HA).low
      have z2 := there_yet a2 (unhide HA).low
      have z3 := there_yet a3 (unhide HA).low
      have HBk := hide (below_box wr (.cells #[.int .i64 k.kind, .int .i64 k.a, .string k.word, .int .i64 k.b] 32))
      have HBx := hide (boxK_new wr k)
      have hgu : u.ownBlock ≠ some wr.heap.size := fun e => Nat.lt_irrefl _ (World.ownsRow.lt (unhide HA).row _ e).2
      have HGu := hide hgu
      clear a0 a1 a2 a3 hkk hjl hgu
      go_upto_region 8 with fail
      have HA3 := hide ((unhide HA).below (unhide HBk))
      generalize hV1 : wr.alloc (.cells #[.int .i64 k.kind, .int .i64 k.a, .string k.word, .int .i64 k.b] 32) = V1 at *
      generalize hkb : wr.heap.size = kb at *
      have HAd := hide ((unhide HA3).below (below_drew V1))
      have HKd := hide ((unhide HBx).below (below_drew V1))
      clear hV1 hkb z0 z1 z2 z3 HA HA3 HBk
      generalize (L.take j).map V = vs at *
      refine wp_region_tail (fun x => x.cell? ⟨W1.heap.size, 1, none⟩ = some u ∧ x.cell? ⟨kb, 0, none⟩ = some (.int .i64 k.kind) ∧ x.cell? ⟨kb, 1, none⟩ = some (.int .i64 k.a) ∧ x.cell? ⟨kb, 2, none⟩ = some (.string k.word) ∧ x.cell? ⟨kb, 3, none⟩ = some (.int .i64 k.b)) 12 (by kernel_rfl) (by kernel_rfl) ⟨(unhide HAd).c1, (unhide HKd).c0, (unhide HKd).c1, (unhide HKd).c2, (unhide HKd).c3⟩ (fun hHeld => ?_)
      refine wpAnyH_take (i := 0) (oi := ?to0_1) (v := ?tv0_1) ?th0_1 (by kernel_rfl) (by kernel_rfl) (by kernel_rfl) ?tq0_1 (Or.inl ⟨?tw0_1, ?ty0_1⟩) (by assumption) ?tr0_1
      case th0_1 => (simp only [List.getElem?_toArray, List.getElem?_cons_zero]; rfl)
      case tq0_1 => exact fun _ _ _ h => h
      case tw0_1 => rfl
      case ty0_1 => (intro w' hSw; (try dsimp only at hSw); go_simp <;> with_reducible rfl)
      try simp only [Act.put, List.setIfInBounds_toArray, List.set_cons_zero, List.set_cons_succ]
      refine wpAnyH_take (i := 1) (oi := ?to1_1) (v := ?tv1_1) ?th1_1 (by kernel_rfl) (by kernel_rfl) (by kernel_rfl) ?tq1_1 (Or.inl ⟨?tw1_1, ?ty1_1⟩) (by assumption) ?tr1_1
      case th1_1 => (simp only [List.getElem?_toArray, List.getElem?_cons_zero, List.getElem?_cons_succ]; rfl)
      case tq1_1 => exact fun _ _ _ h => h
      case tw1_1 => rfl
      case ty1_1 => (intro w' hSw; (try dsimp only at hSw); go_simp <;> with_reducible rfl)
      try simp only [Act.put, List.setIfInBounds_toArray, List.set_cons_zero, List.set_cons_succ]
      refine wpAnyH_take (i := 2) (oi := ?to2_1) (v := ?tv2_1) ?th2_1 (by kernel_rfl) (by kernel_rfl) (by kernel_rfl) ?tq2_1 (Or.inl ⟨?tw2_1, ?ty2_1⟩) (by assumption) ?tr2_1
      case th2_1 => (simp only [List.getElem?_toArray, List.getElem?_cons_zero, List.getElem?_cons_succ]; rfl)
      case tq2_1 => exact fun _ _ _ h => h
      case tw2_1 => rfl
      case ty2_1 => (intro w' hSw; (try dsimp only at hSw); go_simp <;> with_reducible rfl)
      try simp only [Act.put, List.setIfInBounds_toArray, List.set_cons_zero, List.set_cons_succ]
      refine wpAnyH_take (i := 3) (oi := ?to3_1) (v := ?tv3_1) ?th3_1 (by kernel_rfl) (by kernel_rfl) (by kernel_rfl) ?tq3_1 (Or.inl ⟨?tw3_1, ?ty3_1⟩) (by assumption) ?tr3_1
      case th3_1 => (simp only [List.getElem?_toArray, List.getElem?_cons_zero, List.getElem?_cons_succ]; rfl)
      case tq3_1 => exact fun _ _ _ h => h
      case tw3_1 => rfl
      case ty3_1 => (intro w' hSw; (try dsimp only at hSw); go_simp <;> with_reducible rfl)
      try simp only [Act.put, List.setIfInBounds_toArray, List.set_cons_zero, List.set_cons_succ]
      refine wpAnyH_take (i := 4) (oi := ?to4_1) (v := ?tv4_1) ?th4_1 (by kernel_rfl) (by kernel_rfl) (by kernel_rfl) ?tq4_1 (Or.inl ⟨?tw4_1, ?ty4_1⟩) (by assumption) ?tr4_1
      case th4_1 => (simp only [List.getElem?_toArray, List.getElem?_cons_zero, List.getElem?_cons_succ]; rfl)
      case tq4_1 => exact fun _ _ _ h => h
      case tw4_1 => rfl
      case ty4_1 => (intro w' hSw; (try dsimp only at hSw); go_simp <;> with_reducible rfl)
      try simp only [Act.put, List.setIfInBounds_toArray, List.set_cons_zero, List.set_cons_succ]
      refine wpAnyH_take (i := 5) (oi := ?to5_1) (v := ?tv5_1) ?th5_1 (by kernel_rfl) (by kernel_rfl) (by kernel_rfl) ?tq5_1 (Or.inl ⟨?tw5_1, ?ty5_1⟩) (by assumption) ?tr5_1
      case th5_1 => (simp only [List.getElem?_toArray, List.getElem?_cons_zero, List.getElem?_cons_succ]; rfl)
      case tq5_1 => exact fun _ _ _ h => h
      case tw5_1 => rfl
      case ty5_1 => (intro w' hSw; (try dsimp only at hSw); go_simp <;> with_reducible rfl)
      try simp only [Act.put, List.setIfInBounds_toArray, List.set_cons_zero, List.set_cons_succ]
      refine wpAnyH_take (i := 6) (oi := ?to6_1) (v := ?tv6_1) ?th6_1 (by kernel_rfl) (by kernel_rfl) (by kernel_rfl) ?tq6_1 (Or.inl ⟨?tw6_1, ?ty6_1⟩) (by assumption) ?tr6_1
      case th6_1 => (simp only [List.getElem?_toArray, List.getElem?_cons_zero, List.getElem?_cons_succ]; rfl)
      case tq6_1 => exact fun _ _ _ h => h
      case tw6_1 => rfl
      case ty6_1 => (intro w' hSw; (try dsimp only at hSw); go_simp <;> with_reducible rfl)
      try simp only [Act.put, List.setIfInBounds_toArray, List.set_cons_zero, List.set_cons_succ]
      refine wpAnyH_take (i := 7) (oi := ?to7_1) (v := ?tv7_1) ?th7_1 (by kernel_rfl) (by kernel_rfl) (by kernel_rfl) ?tq7_1 (Or.inl ⟨?tw7_1, ?ty7_1⟩) (by assumption) ?tr7_1
      case th7_1 => (simp only [List.getElem?_toArray, List.getElem?_cons_zero, List.getElem?_cons_succ]; rfl)
      case tq7_1 => exact fun _ _ _ h => h
      case tw7_1 => rfl
      case ty7_1 => (intro w' hSw; (try dsimp only at hSw); go_simp <;> with_reducible rfl)
      try simp only [Act.put, List.setIfInBounds_toArray, List.set_cons_zero, List.set_cons_succ]
      refine wpAnyH_take (i := 8) (oi := ?to8_1) (v := ?tv8_1) ?th8_1 (by kernel_rfl) (by kernel_rfl) (by kernel_rfl) ?tq8_1 (Or.inl ⟨?tw8_1, ?ty8_1⟩) (by assumption) ?tr8_1
      case th8_1 => (simp only [List.getElem?_toArray, List.getElem?_cons_zero, List.getElem?_cons_succ]; rfl)
      case tq8_1 => exact fun _ _ _ h => h
      case tw8_1 => rfl
      case ty8_1 => (intro w' hSw; (try dsimp only at hSw); go_simp <;> with_reducible rfl)
      try simp only [Act.put, List.setIfInBounds_toArray, List.set_cons_zero, List.set_cons_succ]
      refine wpAnyH_ready (rs := [9]) (by kernel_rfl) (by simp) ?_
      refine AllReadyH.cons (o := ?bo9) ?bh9 (fun K hK => ?bs9) ?bm9
      case bh9 => (simp only [List.getElem?_toArray, List.getElem?_cons_zero, List.getElem?_cons_succ]; rfl)
      case bm9 => exact AllReadyH.nil
      case bs9 =>
        go_simp
        refine (unhide HSd _ ((unhide HB1).trans ((unhide HAd).low.mono (unhide HB1).size)) k).mono ?_
        rintro e W4 ⟨rfl, b4⟩
        rw [unhide HVe k]
        have HA4 := hide ((unhide HAd).below b4)
        have HK4 := hide ((unhide HKd).below b4)
        clear b4
        refine hK.out _ _ ⟨(unhide HA4).c1, (unhide HK4).c0, (unhide HK4).c1, (unhide HK4).c2, (unhide HK4).c3⟩ (fun hHeld => ?_)
        clear hK K
        try simp only [Act.put, List.setIfInBounds_toArray, List.set_cons_zero, List.set_cons_succ]
        refine wpAnyH_ready (rs := [10]) (by kernel_rfl) (by simp) ?_
        refine AllReadyH.cons (o := ?bo10) ?bh10 (fun K hK => ?bs10) ?bm10
        case bh10 => (simp only [List.getElem?_toArray, List.getElem?_cons_zero, List.getElem?_cons_succ]; rfl)
        case bm10 => exact AllReadyH.nil
        case bs10 =>
          go_simp
          have HA5 := hide ((unhide HA4).below (below_box W4 (.cells #[.string (V k)] 9)))
          have HK5 := hide ((unhide HK4).below (below_box W4 (.cells #[.string (V k)] 9)))
          have hcx := cell_new W4 (.string (V k)) 9
          refine hK.out _ _ ⟨(unhide HA5).c1, (unhide HK5).c0, (unhide HK5).c1, (unhide HK5).c2, (unhide HK5).c3⟩ (fun hHeld => ?_)
          clear hK K
          try simp only [Act.put, List.setIfInBounds_toArray, List.set_cons_zero, List.set_cons_succ]
          refine wpAnyH_ready (rs := [11]) (by kernel_rfl) (by simp) ?_
          refine AllReadyH.cons (o := ?bo11) ?bh11 (fun K hK => ?bs11) ?bm11
          case bh11 => (simp only [List.getElem?_toArray, List.getElem?_cons_zero, List.getElem?_cons_succ]; rfl)
          case bm11 => exact AllReadyH.nil
          case bs11 =>
            refine step_appS _ (by rfl) (.tmp 36) (.tmp 42) (by rfl) (W1.heap.size + 1) u vs (by rfl) (unhide HA5).row W4.heap.size (V k) (by rfl) hcx (by have := unhide HLl; omega) (by have := (unhide HA5).lt; omega) ?_
            intro g cap wn e1 e2
            obtain ⟨q1, q2, q3⟩ := (unhide HA5).grown (unhide e2) e1
            have HQ1 := hide q1
            have HKn := hide ((unhide HK5).keeps (keeps_grown (unhide e2)) (fun e => unhide HGu e.symm))
            refine hK.out _ _ ⟨q2, (unhide HKn).c0, (unhide HKn).c1, (unhide HKn).c2, (unhide HKn).c3⟩ (fun hHeld => ?_)
            clear hK K e1 e2 q1
            try simp only [Act.put, List.setIfInBounds_toArray, List.set_cons_zero, List.set_cons_succ]
            refine wpAnyH_done (by kernel_rfl) ?_ _
            show wpList _ _ _ _ _ _
            clear hHeld
            generalize (vs ++ [V k]).length = nn at *
            go_wp2
            go_roundw
            case rel => exact ⟨j + 1, _, by omega, by go_num, by rw [unhide HTk]; exact unhide HQ1⟩
            case measure => simp [intOf]; omega
    · obtain rfl : j = n := by omega
      have hlt' : ¬ (j : Int) < (j : Int) := by omega
      have HFin : Hid (AtSaysR w V (.returned (.tuple #[.pointer (some ⟨W1.heap.size, 0, none⟩), .int .i64 0])) wr) := by
        have hA := unhide HA
        have e1 : L.take j = L := by rw [unhide HN]; exact List.take_length
        have hrow := hA.row
        rw [e1] at hrow
        refine ⟨W1.heap.size, L, rfl, ⟨⟨gk, adk, ck, unhide HGk, by rw [← unhide HN]; exact hA.c0, fun i hi => ?_⟩, ?_, unhide HM, by rw [← unhide HN]; exact hl, (unhide HB1).size⟩, unhide HP, (unhide HB1).size, (unhide HB1).trans (hA.low.mono (unhide HB1).size)⟩
        · obtain ⟨e, x0, x1, x2, x3⟩ := unhide HFk i hi
          exact ⟨e, there_yet x0 hA.low, there_yet x1 hA.low, there_yet x2 hA.low, there_yet x3 hA.low⟩
        · obtain ⟨g, ad, cc, eu, hc⟩ := own1_at (show wr.ownsRow _ _ 1 u _ _ from hrow)
          rw [List.length_map] at eu hc
          refine ⟨g, ad, cc, fun hne => ?_, by rw [← eu]; exact hA.c1, fun i hi => ?_⟩
          · obtain ⟨x1, _⟩ := hc 0 (List.length_pos_iff.2 hne)
            have := (World.ownsRow.lt (show World.ownsRow _ _ _ _ _ _ _ from hrow) g (by rw [eu, x1]; rfl)).1
            have := (unhide HB1).size
            omega
          obtain ⟨x1, x2⟩ := hc i hi
          refine ⟨x1, x2.trans ?_⟩
          simp [hi]
      go_wp2
      go_ret2
      exact unhide HFin
end Go.Proofs.YtfoojmflbifkpaaGreatDoor
