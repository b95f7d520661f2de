/- Texts of one proof, one behind the other. -/
import Derived.Test.YtfoojmflbifkpaaGreatDoorDe
import Derived.Test.YtfoojmflbifkpaaGreatDoorDd
import Derived.Test.YtfoojmflbifkpaaGreatDoorCn

/- The document's graph: Way, where there is one: walked. -/
namespace Go.Proofs.YtfoojmflbifkpaaGreatDoor
open Go.RowKit Go.Maps
theorem CameW.look0 {w : World} {m : Nat} {C : List (Int × Int)} (h : CameW w m C) (b : Int) (hb : (Lit.int .i64 b).wf = true) :
    ∃ c : Int, (Instr.lookup 148 (.map (some m)) (.int .i64 b) false).run Tryz.prog w = .ok (.int .i64 c) w ∧ (∀ x, x ∈ C → x.1 = b → c = x.2) ∧ (b ∉ C.map (·.1) → c = 0) := by
  by_cases hm : b ∈ C.map (·.1)
  · obtain ⟨x, hx, e⟩ := List.mem_map.1 hm
    obtain ⟨D, h1, h2⟩ := h
    obtain ⟨v, ps, hr, hv⟩ := h1.lookup keyedV Tryz.underlying148 (zero_int w) (zd := zd) (zp := []) rfl (keyOf_int_mk Tryz.underlying3 hb)
    obtain ⟨c, rfl⟩ := numE_some hv
    refine ⟨c, hr, fun y hy ey => ?_, fun q => absurd hm q⟩
    rw [← ey, h2.there y hy] at hv
    have := numE_inv hv
    injection this
  · obtain ⟨D, h1, h2⟩ := h
    obtain ⟨v, ps, hr, hv⟩ := h1.lookup keyedV Tryz.underlying148 (zero_int w) (zd := zd) (zp := []) rfl (keyOf_int_mk Tryz.underlying3 hb)
    rw [Maps.atKey_of_not_has (by rw [h2.has b]; exact decide_eq_false hm)] at hv
    refine ⟨0, by rw [hr, numE_inv hv], fun x hx e => absurd (List.mem_map.2 ⟨x, hx, e⟩) hm, fun _ => rfl⟩
def FitW (nx : Int → List Int) (x y t : Int) (k : Nat) : Prop := t ∈ (rounds nx y k).2 ∧ y ∈ (rounds nx x 1).2
theorem take_way {wy : List Int} {j : Nat} {c : Int} (h : wy[j + 1]? = some c) : wy.take (j + 2) = wy.take (j + 1) ++ [c] := by
  obtain ⟨hl, rfl⟩ := List.getElem?_eq_some_iff.1 h
  exact List.take_succ_eq_append_getElem hl
def WaySayR (w : World) (l : List Int) (e : Ending) (w' : World) : Prop := ∃ v, e = .returned (.tuple #[v, .int .i64 0]) ∧ RowN w' w.heap.size v l ∧ Below w.heap.size w w'
set_option maxRecDepth 100000 in
set_option maxHeartbeats 4000000 in
theorem rg_way_ok {B : Nat} {w : World} {g : Nat} {V : Ky → ByteArray} {L : List Ky} (h : RefG B w g V L) {word : ByteArray} {nx : Int → List Int} {N : List Int} (hT : FarT V L word nx N) (hs : ∀ a, (nx a).Pairwise (· ≤ ·)) (hM : ∀ a, a ∈ nodesR V ⟨#[]⟩ L ↔ a ∈ N) (hwN : ∀ a, a ∈ N → (Lit.int .i64 a).wf = true) (hcl : ∀ a, a ∈ N → ∀ b, b ∈ nx a → b ∈ N) (x y : Int) (hx : x ∈ N) (hy : y ∈ N) (hix : isG V x = true) (hiy : isG V y = true) (i : Nat) (wy : List Int) (hw : IsWay nx x i wy y) (hi : i ≤ 4000) :
    Calls Tryz.prog 20 #[.pointer (some ⟨g, 0, none⟩), .int .i64 x, .int .i64 y, .string word] w (WaySayR w wy) := by
  have HI := hide (rg_Is h x)
  have HI2 := hide (fun W (hb : Below w.heap.size w W) => rg_Is (h.below hb) y)
  have HFa := hide (fun W (hb : Below w.heap.size w W) a (ha : a ∈ N) => rg_far (h.below hb) hT a ha (hwN a ha))
  have HNo := hide (fun W (hb : Below w.heap.size w W) => rg_Nodes (h.below hb) ⟨#[]⟩)
  rw [hix] at HI
  rw [hiy] at HI2
  have hwy := hwN y hy
  have HwN := hide hwN
  have HNl : Hid ((sorted (nodesR V ⟨#[]⟩ L)).length ≤ 4000) := by
    unfold Hid
    rw [sorted_length]
    exact Nat.le_trans (nodesR_le V ⟨#[]⟩ L) h.len
  have HMm : Hid (∀ a, a ∈ sorted (nodesR V ⟨#[]⟩ L) ↔ a ∈ N) := fun a => by rw [← hM a]; exact (List.mergeSort_perm _ _).mem_iff
  have HMs : Hid ((sorted (nodesR V ⟨#[]⟩ L)).Pairwise (· ≤ ·)) := by
    have := List.pairwise_mergeSort (le := fun x y : Int => decide (x ≤ y)) (fun a b c h1 h2 => by simp at *; omega) (fun a b => by simp; omega) (nodesR V ⟨#[]⟩ L)
    exact this.imp (fun h => by simpa using h)
  have HLe := hide (fun j hj x' c hx' hc => way_least hs hw j hj x' c hx' hc)
  have HW := hide hw
  have HOn : Hid (∀ j a, wy[j]? = some a → a ∈ N) := fun j a ha => came_in hx hcl j a (ring_came nx x j a (hw.on j a ha))
  have HFx := hide hx
  generalize sorted (nodesR V ⟨#[]⟩ L) = M at *
  clear h hT hM hix hiy hs hw hcl hx hy hwN
  go_enter Tryz.func20, Tryz.ntmps20
  go_wp2_with fail
  refine (unhide HI).mono ?_
  rintro e W1 ⟨rfl, b1⟩
  have HB1 := hide b1
  clear b1 HI
  go_wp2_with fail
  refine (unhide HI2 _ (unhide HB1)).mono ?_
  rintro e W2 ⟨rfl, b2⟩
  have HB2 := hide ((unhide HB1).trans (b2.mono (unhide HB1).size))
  clear b2 HB1 HI2
  go_wp2_with fail
  refine (unhide HFa _ (unhide HB2) x (unhide HFx)).mono ?_
  rintro e W3 ⟨mb, C, rfl, hW, hnd, hCl, hd⟩
  have HB3 := hide ((unhide HB2).trans (hW.low.mono (unhide HB2).size))
  obtain ⟨c, hrc, hc⟩ := hW.came.look y hwy
  have hin : (y, (i : Int)) ∈ C := (hd y i).2 ⟨i, rfl, (unhide HW).on i y (unhide HW).last⟩
  obtain rfl : c = (i : Int) := hc _ hin rfl
  rw [decide_eq_true (List.mem_map.2 ⟨_, hin, rfl⟩)] at hrc
  have HB4 : Hid (Below w.heap.size w (W3.alloc (.cells #[.int .i64 x] 3))) := (unhide HB3).trans ((below_box W3 _).mono (unhide HB3).size)
  have HR4 : Hid (RowN (W3.alloc (.cells #[.int .i64 x] 3)) w.heap.size (.slice (some ⟨W3.heap.size, 0, none⟩) 1 1) (wy.take 1)) := by
    have e : wy.take 1 = [x] := by
      have h1 := (unhide HW).first
      obtain ⟨hl, e1⟩ := List.getElem?_eq_some_iff.1 h1
      have := List.take_succ_eq_append_getElem hl
      rw [this, e1]
      rfl
    unfold Hid
    rw [e]
    exact World.ownsRow_lit (base := w.heap.size) (e := 3) (size := 1) W3 #[.int .i64 x] 1 (unhide HB3).size (by decide) rfl
  clear hW hnd hCl hd hin hc HB2 HB3
  go_wp2
  clear hrc
  generalize W3.alloc (.cells #[.int .i64 x] 3) = W4 at *
  generalize W3.heap.size = ob at *
  go_loopw [10, 12, 13] (fun d o v y => ∃ (j : Nat) (a : Int), j ≤ i ∧ d = .int .i64 ((i : Int) - (j : Int)) ∧ v = .int .i64 a ∧ wy[j]? = some a ∧ RowN y w.heap.size o (wy.take (j + 1)) ∧ Below w.heap.size w y) (fun d _ _ _ => (intOf d).toNat)
  case atStart => exact ⟨0, x, Nat.zero_le _, by simp, rfl, (unhide HW).first, unhide HR4, unhide HB4⟩
  case round =>
    revert wr
    intro wo hrel
    obtain ⟨j, a, hj, rfl, rfl, hja, hro, hb⟩ := hrel
    have HRo := hide hro
    have HB := hide hb
    have HJa := hide hja
    have HaN := hide (unhide HOn j a hja)
    have hlw := (unhide HW).len
    have hlj : (wy.take (j + 1)).length = j + 1 := by rw [List.length_take]; omega
    have HLj := hide hlj
    obtain ⟨ado, co, eo⟩ := row_slice (show World.ownsRow _ _ _ _ _ _ _ from hro)
    rw [hlj] at eo
    subst eo
    clear hlj
    clear hro hb hja HR4 HB4
    by_cases hlt : j < i
    · have hd0 : (0 : Int) < (i : Int) - (j : Int) := by omega
      obtain ⟨c, hcj⟩ : ∃ c, wy[j + 1]? = some c := ⟨_, List.getElem?_eq_getElem (by omega)⟩
      have HCj := hide hcj
      obtain ⟨f1, f2, f3⟩ := unhide HLe j hlt a c (unhide HJa) hcj
      have HF1 : Hid (FitW nx a c y (i - (j + 1))) := ⟨f1, f2⟩
      have HF3 : Hid (∀ z, FitW nx a z y (i - (j + 1)) → c ≤ z) := fun z hz => f3 z hz.1 hz.2
      have HcM : Hid (c ∈ M) := (unhide HMm c).2 (unhide HOn (j + 1) c hcj)
      have HNn := hide (unhide HNo wo (unhide HB))
      have HTk := hide (take_way hcj)
      clear f1 f2 f3 hcj
      obtain ⟨k, hk⟩ : ∃ k, k = i - (j + 1) := ⟨_, rfl⟩
      rw [← hk] at HF1 HF3
      have hkz : (i : Int) - (j : Int) - 1 = (k : Int) := by omega
      have HKz := hide hkz
      clear hk hkz
      go_wp2_with fail
      refine (unhide HNn).mono ?_
      rintro e W5 ⟨nv, rfl, hrn, b5⟩
      obtain ⟨gn, adn, cn, rfl, hfn⟩ := RowN.cells hrn
      have HFn := hide hfn
      have HB5 := hide ((unhide HB).trans (b5.mono (unhide HB).size))
      have HR5 := hide ((unhide HRo).carry b5)
      have hMl := unhide HNl
      clear hrn hfn b5 HNn HB HRo
      go_upto_block 2 with fail
      go_cut [13] (fun s13 wx => s13 = .int .i64 c ∧ Below W5.heap.size W5 wx)
      case first =>
        go_wp2_with fail
        go_loopw [13, 50] (fun v kk yy => ∃ q : Nat, q ≤ M.length ∧ v = .int .i64 a ∧ kk = .int .i64 q ∧ (∀ p, (hp : p < M.length) → p < q → M[p] ≠ c) ∧ Below W5.heap.size W5 yy) (fun _ kk _ => M.length - (intOf kk).toNat)
        case atStart => exact ⟨0, Nat.zero_le _, rfl, rfl, fun p _ q => by omega, Below.refl _ _⟩
        case round =>
          obtain ⟨q, hq, rfl, rfl, hno, hb⟩ := hrel
          have HB6 := hide hb
          have HNq := hide hno
          clear hb hno
          by_cases hql : q < M.length
          · have hql' : (q : Int) < (M.length : Int) := by omega
            have hq0 : (0 : Int) ≤ (q : Int) := by omega
            obtain ⟨rfl, a0⟩ := unhide HFn q hql
            have HzN : Hid (M[q] ∈ N) := (unhide HMm _).1 (List.getElem_mem hql)
            have HNext : Hid (M[q] ≠ c → ∀ p, (hp : p < M.length) → p < q + 1 → M[p] ≠ c) := fun hne p hp hpq => by
              rcases Nat.lt_or_ge p q with r | r
              · exact unhide HNq p hp r
              · obtain rfl : p = q := by omega
                exact hne
            have HEq : Hid (c ≤ M[q] → M[q] = c) := fun hle => by
              obtain ⟨p, hp, e⟩ := List.getElem_of_mem (unhide HcM)
              rcases Nat.lt_trichotomy p q with r | r | r
              · exact absurd e (unhide HNq p hp r)
              · subst r; exact e
              · have := List.pairwise_iff_getElem.1 (unhide HMs) q p hql hp r
                omega
            obtain ⟨z, hz⟩ : ∃ z, z = M[q] := ⟨_, rfl⟩
            rw [← hz] at a0 HzN HNext HEq
            have z0 := there_yet a0 (unhide HB6)
            have hwz := unhide HwN z (unhide HzN)
            have HB7 := hide ((unhide HB5).trans ((unhide HB6).mono (unhide HB5).size))
            clear a0 hz HNq
            go_wp2_with fail
            refine (unhide HFa _ (unhide HB7) z (unhide HzN)).mono ?_
            rintro e W6 ⟨mz, Cz, rfl, hWz, hndz, _, hdz⟩
            obtain ⟨l, hrl, hl⟩ := hWz.came.look y hwy
            have HB8 := hide ((unhide HB7).trans (hWz.low.mono (unhide HB7).size))
            have HB9 := hide ((unhide HB6).trans (hWz.low.mono (unhide HB6).size))
            have HL := hide hl
            have HDz := hide hdz
            clear hWz hndz hl hdz z0 HB7 HB6
            by_cases my : y ∈ Cz.map (·.1)
            · rw [decide_eq_true my] at hrl
              have HyL : Hid ((y, l) ∈ Cz) := by
                obtain ⟨p, hp, e⟩ := List.mem_map.1 my
                have e2 := unhide HL p hp e
                obtain ⟨p1, p2⟩ := p
                dsimp only at e e2
                show (y, l) ∈ Cz
                rw [← e, e2]
                exact hp
              clear my
              go_wp2_with fail
              refine (unhide HFa _ (unhide HB8) a (unhide HaN)).mono ?_
              rintro e W7 ⟨ma, Ca, rfl, hWa, hnda, _, hda⟩
              obtain ⟨o1, hro, ho1, ho2⟩ := hWa.came.look0 z hwz
              have HBa := hide ((unhide HB9).trans (hWa.low.mono (unhide HB9).size))
              have HFit : Hid (FitW nx a z y k → l = (k : Int) ∧ o1 = 1) := fun hf => by
                refine ⟨unhide HL _ ((unhide HDz y k).2 ⟨k, rfl, hf.1⟩) rfl, ?_⟩
                have := ho1 _ ((hda z 1).2 ⟨1, rfl, hf.2⟩) rfl
                exact this
              have HFit2 : Hid (l = (k : Int) → o1 = 1 → FitW nx a z y k) := fun h1 h2 => by
                refine ⟨?_, ?_⟩
                · obtain ⟨i', e1, hr⟩ := (unhide HDz y l).1 (unhide HyL)
                  obtain rfl : i' = k := by omega
                  exact hr
                · rcases Classical.em (z ∈ Ca.map (·.1)) with r | r
                  · obtain ⟨p, hp, e⟩ := List.mem_map.1 r
                    have e2 := ho1 p hp e
                    obtain ⟨p1, p2⟩ := p
                    dsimp only at e e2
                    subst e
                    obtain ⟨i', e1, hr⟩ := (hda p1 p2).1 hp
                    obtain rfl : i' = 1 := by omega
                    exact hr
                  · have := ho2 r
                    omega
              clear hWa hnda hda ho1 ho2 HyL HB9
              by_cases hle : l = (i : Int) - (j : Int) - 1
              · by_cases ho : o1 = 1
                · have HZc : Hid (z = c) := unhide HEq (unhide HF3 z (unhide HFit2 (hle.trans (unhide HKz)) ho))
                  subst hle
                  subst ho
                  go_wp2
                  go_meet
                  case rel => exact ⟨by rw [unhide HZc], unhide HBa⟩
                · have HNz := hide (unhide HNext (fun e => ho (unhide HFit (by rw [e]; exact unhide HF1)).2))
                  subst hle
                  go_wp2
                  go_roundw
                  case rel => exact ⟨q + 1, by omega, rfl, by go_num, unhide HNz, unhide HBa⟩
                  case measure => simp [intOf]; omega
              · have HNz := hide (unhide HNext (fun e => hle (((unhide HFit (by rw [e]; exact unhide HF1)).1).trans (unhide HKz).symm)))
                go_wp2
                go_roundw
                case rel => exact ⟨q + 1, by omega, rfl, by go_num, unhide HNz, unhide HBa⟩
                case measure => simp [intOf]; omega
            · rw [decide_eq_false my] at hrl
              have HNz := hide (unhide HNext (fun e => my (List.mem_map.2 ⟨_, (unhide HDz y k).2 ⟨k, rfl, by rw [e]; exact (unhide HF1).1⟩, rfl⟩)))
              clear my
              go_wp2_with fail
              refine (unhide HFa _ (unhide HB8) a (unhide HaN)).mono ?_
              rintro e W7 ⟨ma, Ca, rfl, hWa, _⟩
              have HBa := hide ((unhide HB9).trans (hWa.low.mono (unhide HB9).size))
              clear hWa HB9
              go_wp2
              go_roundw
              case rel => exact ⟨q + 1, by omega, rfl, by go_num, unhide HNz, unhide HBa⟩
              case measure => simp [intOf]; omega
          · exfalso
            obtain ⟨p, hp, e⟩ := List.getElem_of_mem (unhide HcM)
            exact unhide HNq p hp (by omega) e
      case rest =>
        obtain ⟨rfl, hbc⟩ := hcut
        have HRc := hide ((unhide HR5).carry hbc)
        have HBc := hide ((unhide HB5).trans (hbc.mono (unhide HB5).size))
        have HBy := hide (below_box wc (.cells #[.int .i64 c] 3))
        have HRo2 := hide ((unhide HRc).carry (unhide HBy))
        have HB2 := hide ((unhide HBc).trans ((unhide HBy).mono (unhide HBc).size))
        have hcy := cell_new wc (.int .i64 c) 3
        have hLj : (wy.take (j + 1)).length ≤ 1000000 := by rw [List.length_take]; omega
        have hbs := (unhide HB2).size
        rw [show j + 1 + 1 = j + 2 by omega] at *
        clear hbc HRc HBc HBy HR5 HB5
        have hL7 : (wy.take (j + 1) ++ [c]).length = j + 2 := by rw [List.length_append, unhide HLj]; rfl
        have HL7 := hide hL7
        clear hL7
        generalize wy.take (j + 1) = Lj at *
        go_wp2_with (first
          | (at_builtin; refine wpList_appN _ rfl (.tmp 82) (.tmp 84) rfl w.heap.size _ Lj rfl (unhide HRo2) wc.heap.size c rfl hcy hLj hbs ?_))
        intro v9 W8 r1 r2
        have HR8 : Hid (RowN W8 w.heap.size v9 (wy.take (j + 2))) := by
          unfold Hid
          rw [unhide HTk]
          exact r1
        have HB8 := hide (grown_below (unhide HB2) (unhide HRo2) r2 hbs)
        obtain ⟨ad7, cap7, e7⟩ := row_slice (show World.ownsRow _ _ _ _ _ _ _ from r1)
        rw [unhide HL7] at e7
        subst e7
        clear r1 r2 HRo2 HB2 hcy hbs
        go_wp2
        go_roundw
        case rel => exact ⟨j + 1, c, by omega, by congr 1; omega, rfl, unhide HCj, unhide HR8, unhide HB8⟩
        case measure => simp [intOf]; omega
    · have hd0 : ¬ (0 : Int) < (i : Int) - (j : Int) := by omega
      have HR9 : Hid (RowN wo w.heap.size (.slice ado (j + 1) co) wy) := by
        have e : wy.take (j + 1) = wy := List.take_of_length_le (by omega)
        have := unhide HRo
        rw [e] at this
        exact this
      go_wp2
      go_ret2
      exact ⟨_, rfl, unhide HR9, unhide HB⟩
end Go.Proofs.YtfoojmflbifkpaaGreatDoor

/- The document's At: walked. -/
namespace Go.Proofs.YtfoojmflbifkpaaGreatDoor
open Go.RowKit Go.Maps
theorem rg_at_count {w : World} {R : Nat} {at_ t e0 : Int} (hk : Calls Tryz.prog 56 #[.pointer (some ⟨R, 0, none⟩), .int .i64 at_, .int .i64 t] w fun e w' => ∃ v, e = .returned (.tuple #[v, .int .i64 e0]) ∧ Below w.heap.size w w') (hne : e0 ≠ 0) :
    Calls Tryz.prog 14 #[.pointer (some ⟨R, 0, none⟩), .int .i64 at_, .int .i64 t] w fun e w' => e = .returned (.tuple #[.pointer none, .int .i64 e0]) ∧ Below w.heap.size w w' := by
  have HK := hide hk
  clear hk
  go_enter Tryz.func14, Tryz.ntmps14
  go_wp2_with fail
  refine (unhide HK).mono ?_
  rintro e W1 ⟨v, rfl, b1⟩
  go_wp2
  go_ret2
  exact ⟨rfl, b1⟩
def RowW (y : World) (base : Nat) (v : Value) (l : List ByteArray) : Prop := y.ownsRow base 9 1 v l.length (l.map Value.string)
theorem infoSt : (Tryz.prog.info? 9).map (fun i => (i.zero, i.size, i.bytes)) = some (some (.string ⟨#[]⟩), 1, 16) := by kernel_rfl
theorem step_appS (w : World) {ops : Array Oper} {o : Oper} {a : Act} {K : Act → World → Prop} {Q : Exit → Act → World → Prop} {E : Prop} (hgd : o.guard = none) (s x : Operand)
    (ho : o.op = .call { callee := .builtin .append, args := #[s, x], argTypes := #[117, 117] })
    (base : Nat) (v : Value) (L : List ByteArray) (hs : a.eval s = v) (hown : RowW w base v L)
    (b : Nat) (z : ByteArray) (hx : a.eval x = .slice (some ⟨b, 0, none⟩) 1 1) (hc : w.cell? ⟨b, 0, none⟩ = some (.string z)) (hlen : L.length ≤ 100000) (hbase : base ≤ w.heap.size)
    (h : ∀ g cap w', RowW w' base (.slice (some ⟨g, 0, none⟩) (L ++ [z]).length cap) (L ++ [z]) → Hid (w.grownBy w' v.ownBlock) → K (a.put o.dst (.slice (some ⟨g, 0, none⟩) (L ++ [z]).length cap)) w') :
    if Region.wanted o (yielded ops a.tmps) = true then Oper.wp Tryz.prog o a w K Q else E := by
  obtain ⟨i0, hi0, hz0, hz1, hz2⟩ := info_parts infoSt
  refine step_append_lies _ hgd s x 117 ho base 9 i0 (.string ⟨#[]⟩) 1 16 Tryz.underlying117 hi0 hz0 hz1 hz2 rfl (by decide) v L.length (L.map Value.string) hs hown ⟨b, 0, none⟩ 1 1 [.string z] hx rfl ?_ ?_ (by decide) ?_ ?_ hbase _ rfl ?_
  · intro j u hj
    match j, hj with
    | 0, hj => simp at hj; subst hj; simpa [Addr.add] using hc
  · intro u hu
    simp at hu
    subst hu; rfl
  · unfold maxLen; omega
  · omega
  · intro g cap w' k1 k2 _ _
    have el : (L ++ [z]).length = L.length + 1 := by simp
    have := h g cap w'
    unfold RowW at this
    rw [el, List.map_append] at this
    exact this k1 k2
theorem grown_set (w : World) (G o : Nat) (u : Value) : w.grownBy (w.setCell ⟨G, o, none⟩ u) (some G) := by
  have hk := keeps_set w G o u
  exact ⟨hk.os, hk.tape, hk.output, hk.size, fun k h1 h2 => hk.block k h1 (fun e => h2 (by rw [e]))⟩
structure AtR (W1 : World) (v u : Value) (vs : List ByteArray) (y : World) : Prop where
  c0 : y.cell? ⟨W1.heap.size, 0, none⟩ = some v
  c1 : y.cell? ⟨W1.heap.size, 1, none⟩ = some u
  f1 : y.frozen? ⟨W1.heap.size, 1, none⟩ = false
  row : RowW y (W1.heap.size + 1) u vs
  low : Below W1.heap.size W1 y
theorem AtR.lt {W1 : World} {v u : Value} {vs : List ByteArray} {y : World} (h : AtR W1 v u vs y) : W1.heap.size < y.heap.size := lt_of_cell h.c0
theorem AtR.below {W1 : World} {v u : Value} {vs : List ByteArray} {y y' : World} (h : AtR W1 v u vs y) (hb : Below y.heap.size y y') : AtR W1 v u vs y' :=
  ⟨there_yet h.c0 hb, there_yet h.c1 hb, (hb.frozen (p := ⟨W1.heap.size, 1, none⟩) h.lt).trans h.f1, ownsRow_carry h.row hb, h.low.trans (hb.mono h.low.size)⟩
theorem AtR.grown {W1 : World} {v u u' : Value} {vs vs' : List ByteArray} {y y' : World} (h : AtR W1 v u vs y) (hg : y.grownBy y' u.ownBlock) (hr : RowW y' (W1.heap.size + 1) u' vs') : AtR W1 v u' vs' (y'.setCell ⟨W1.heap.size, 1, none⟩ u') ∧ y'.cell? ⟨W1.heap.size, 1, none⟩ = some u ∧ y'.frozen? ⟨W1.heap.size, 1, none⟩ = false := by
  have hk := keeps_grown hg
  have hge : ∀ i, some i = u.ownBlock → W1.heap.size + 1 ≤ i := fun i e => (World.ownsRow.lt h.row i e.symm).1
  have hn : ¬ some W1.heap.size = u.ownBlock := fun e => by have := hge _ e; omega
  have d0 := (hk.cell (p := ⟨W1.heap.size, 0, none⟩) h.lt hn).trans h.c0
  have d1 := (hk.cell (p := ⟨W1.heap.size, 1, none⟩) h.lt hn).trans h.c1
  have g1 := (hk.frozen (p := ⟨W1.heap.size, 1, none⟩) h.lt hn).trans h.f1
  have hlow : Below W1.heap.size W1 y' := h.low.trans (keeps_below hk (fun i e => by have := hge i e; omega) h.low.size)
  refine ⟨⟨?_, World.cell?_setCell_same _ _ _ d1, by rw [World.frozen?_setCell]; exact g1, ?_, hlow.trans (keeps_below (keeps_set y' W1.heap.size 1 u') (fun i e => by omega) hlow.size)⟩, d1, g1⟩
  · rw [World.cell?_setCell_other _ _ _ _ (by simp)]
    exact d0
  · refine World.ownsRow.kept hr (grown_set y' W1.heap.size 1 u') ?_
    rcases e : u'.ownBlock with _ | q
    · exact .inl rfl
    · refine .inr (fun e2 => ?_)
      have := (World.ownsRow.lt hr q e).1
      cases e2
      omega
def AtSaysR (w : World) (V : Ky → ByteArray) (e : Ending) (w' : World) : Prop :=
  ∃ g L, e = .returned (.tuple #[.pointer (some ⟨g, 0, none⟩), .int .i64 0]) ∧ RefG w.heap.size w' g V L ∧ L.Pairwise (fun a b => cfY a b < 0) ∧ w.heap.size ≤ g ∧ Below w.heap.size w w'
set_option maxRecDepth 100000 in
set_option maxHeartbeats 4000000 in
theorem rg_at_ok {w : World} {R : Nat} {txs : List (List Fop)} {known : Int} (h : RefP w R txs known) (c : Nat) (t : Int) (hcn : c ≤ txs.length) (he : countErr txs.length known c = 0) (ht : timedB t = true) (hky : ∀ l, l ∈ txs → ∀ o, o ∈ l → KyOk (kyO o)) :
    Calls Tryz.prog 14 #[.pointer (some ⟨R, 0, none⟩), .int .i64 c, .int .i64 t] w (AtSaysR w (fun k => refS txs k c t)) := by
  have HK := hide (rp_keys_ok h c t hcn he ht hky)
  have HSd := hide (fun W (hb : Below w.heap.size w W) k => rp_said (h.carry hb) k c hcn t)
  obtain ⟨V, hV⟩ : ∃ V : Ky → ByteArray, V = fun k => refS txs k c t := ⟨_, rfl⟩
  have HVe : Hid (∀ k, refS txs k c t = V k) := fun k => by rw [hV]
  rw [← hV] at HK ⊢
  clear h hcn he ht hky hV
  go_enter Tryz.func14, Tryz.ntmps14
  go_wp2_with fail
  refine (unhide HK).mono ?_
  rintro e W1 ⟨v, L, rfl, hr, hp, hm, hl, b1⟩
  obtain ⟨gk, adk, ck, rfl, hfk⟩ := RowY.cells hr
  have HGk : Hid (L ≠ [] → w.heap.size ≤ gk) := fun hne => by
    obtain ⟨e1, _⟩ := hfk 0 (List.length_pos_iff.2 hne)
    exact (World.ownsRow.lt (show World.ownsRow _ _ _ _ _ _ _ from hr) gk (by rw [e1]; rfl)).1
  have HFk := hide hfk
  have HP := hide hp
  have HM := hide hm
  have HB1 := hide b1
  have HA0 : Hid (AtR W1 (.slice adk L.length ck) (.slice none 0 0) [] (W1.alloc (.cells #[.slice adk L.length ck, .slice none 0 0] 128))) := ⟨by simp, by simp, by simp, World.ownsRow_nil _ _ _ _, below_box _ _⟩
  obtain ⟨n, hn⟩ : ∃ n, n = L.length := ⟨_, rfl⟩
  have HN := hide hn
  rw [← hn] at hl HA0 ⊢
  clear hr hp hm hfk b1 HK hn
  go_wp2
  generalize W1.alloc (.cells #[.slice adk n ck, .slice none 0 0] 128) = W2 at *
  go_loopw [28] (fun i y => ∃ (j : Nat) (u : Value), j ≤ n ∧ i = .int .i64 j ∧ AtR W1 (.slice adk n ck) u ((L.take j).map V) y) (fun i _ => n - (intOf i).toNat)
  case atStart => exact ⟨0, _, Nat.zero_le _, rfl, unhide HA0⟩
  case round =>
    obtain ⟨j, u, hj, rfl, hA⟩ := hrel
    have HA := hide hA
    clear hA HA0
    by_cases hlt : j < n
    · have hlt' : (j : Int) < (n : Int) := by omega
      have hj0 : (0 : Int) ≤ (j : Int) := by omega
      have hjl : j < L.length := by rw [← unhide HN]; exact hlt
      obtain ⟨rfl, a0, a1, a2, a3⟩ := unhide HFk j hjl
      have HTk : Hid ((L.take (j + 1)).map V = (L.take j).map V ++ [V L[j]]) := by
        unfold Hid
        rw [List.take_succ_eq_append_getElem hjl, List.map_append]
        rfl
      have HLl : Hid (((L.take j).map V).length ≤ 4000) := by unfold Hid; rw [List.length_map, List.length_take]; omega
      obtain ⟨k, hkk⟩ : ∃ k, k = L[j] := ⟨_, rfl⟩
      rw [← hkk] at a0 a1 a2 a3 HTk
      have z0 := there_yet a0 (unhide HA).low
      have z1 := there_yet a1 (unhide HA).low
      have z2 := there_yet a2 (unhide HA).low
      have z3 := there_yet a3 (unhide HA).low
      have HBk := hide (below_box wr (.cells #[.int .i64 k.kind, .int .i64 k.a, .string k.word, .int .i64 k.b] 32))
      have HBx := hide (boxK_new wr k)
      have hgu : u.ownBlock ≠ some wr.heap.size := fun e => Nat.lt_irrefl _ (World.ownsRow.lt (unhide HA).row _ e).2
      have HGu := hide hgu
      clear a0 a1 a2 a3 hkk hjl hgu
      go_upto_region 8 with fail
      have HA3 := hide ((unhide HA).below (unhide HBk))
      generalize hV1 : wr.alloc (.cells #[.int .i64 k.kind, .int .i64 k.a, .string k.word, .int .i64 k.b] 32) = V1 at *
      generalize hkb : wr.heap.size = kb at *
      have HAd := hide ((unhide HA3).below (below_drew V1))
      have HKd := hide ((unhide HBx).below (below_drew V1))
      clear hV1 hkb z0 z1 z2 z3 HA HA3 HBk
      generalize (L.take j).map V = vs at *
      refine wp_region_tail (fun x => x.cell? ⟨W1.heap.size, 1, none⟩ = some u ∧ x.cell? ⟨kb, 0, none⟩ = some (.int .i64 k.kind) ∧ x.cell? ⟨kb, 1, none⟩ = some (.int .i64 k.a) ∧ x.cell? ⟨kb, 2, none⟩ = some (.string k.word) ∧ x.cell? ⟨kb, 3, none⟩ = some (.int .i64 k.b)) 12 (by kernel_rfl) (by kernel_rfl) ⟨(unhide HAd).c1, (unhide HKd).c0, (unhide HKd).c1, (unhide HKd).c2, (unhide HKd).c3⟩ (fun hHeld => ?_)
      refine wpAnyH_take (i := 0) (oi := ?to0_1) (v := ?tv0_1) ?th0_1 (by kernel_rfl) (by kernel_rfl) (by kernel_rfl) ?tq0_1 (Or.inl ⟨?tw0_1, ?ty0_1⟩) (by assumption) ?tr0_1
      case th0_1 => (simp only [List.getElem?_toArray, List.getElem?_cons_zero]; rfl)
      case tq0_1 => exact fun _ _ _ h => h
      case tw0_1 => rfl
      case ty0_1 => (intro w' hSw; (try dsimp only at hSw); go_simp <;> with_reducible rfl)
      try simp only [Act.put, List.setIfInBounds_toArray, List.set_cons_zero, List.set_cons_succ]
      refine wpAnyH_take (i := 1) (oi := ?to1_1) (v := ?tv1_1) ?th1_1 (by kernel_rfl) (by kernel_rfl) (by kernel_rfl) ?tq1_1 (Or.inl ⟨?tw1_1, ?ty1_1⟩) (by assumption) ?tr1_1
      case th1_1 => (simp only [List.getElem?_toArray, List.getElem?_cons_zero, List.getElem?_cons_succ]; rfl)
      case tq1_1 => exact fun _ _ _ h => h
      case tw1_1 => rfl
      case ty1_1 => (intro w' hSw; (try dsimp only at hSw); go_simp <;> with_reducible rfl)
      try simp only [Act.put, List.setIfInBounds_toArray, List.set_cons_zero, List.set_cons_succ]
      refine wpAnyH_take (i := 2) (oi := ?to2_1) (v := ?tv2_1) ?th2_1 (by kernel_rfl) (by kernel_rfl) (by kernel_rfl) ?tq2_1 (Or.inl ⟨?tw2_1, ?ty2_1⟩) (by assumption) ?tr2_1
      case th2_1 => (simp only [List.getElem?_toArray, List.getElem?_cons_zero, List.getElem?_cons_succ]; rfl)
      case tq2_1 => exact fun _ _ _ h => h
      case tw2_1 => rfl
      case ty2_1 => (intro w' hSw; (try dsimp only at hSw); go_simp <;> with_reducible rfl)
      try simp only [Act.put, List.setIfInBounds_toArray, List.set_cons_zero, List.set_cons_succ]
      refine wpAnyH_take (i := 3) (oi := ?to3_1) (v := ?tv3_1) ?th3_1 (by kernel_rfl) (by kernel_rfl) (by kernel_rfl) ?tq3_1 (Or.inl ⟨?tw3_1, ?ty3_1⟩) (by assumption) ?tr3_1
      case th3_1 => (simp only [List.getElem?_toArray, List.getElem?_cons_zero, List.getElem?_cons_succ]; rfl)
      case tq3_1 => exact fun _ _ _ h => h
      case tw3_1 => rfl
      case ty3_1 => (intro w' hSw; (try dsimp only at hSw); go_simp <;> with_reducible rfl)
      try simp only [Act.put, List.setIfInBounds_toArray, List.set_cons_zero, List.set_cons_succ]
      refine wpAnyH_take (i := 4) (oi := ?to4_1) (v := ?tv4_1) ?th4_1 (by kernel_rfl) (by kernel_rfl) (by kernel_rfl) ?tq4_1 (Or.inl ⟨?tw4_1, ?ty4_1⟩) (by assumption) ?tr4_1
      case th4_1 => (simp only [List.getElem?_toArray, List.getElem?_cons_zero, List.getElem?_cons_succ]; rfl)
      case tq4_1 => exact fun _ _ _ h => h
      case tw4_1 => rfl
      case ty4_1 => (intro w' hSw; (try dsimp only at hSw); go_simp <;> with_reducible rfl)
      try simp only [Act.put, List.setIfInBounds_toArray, List.set_cons_zero, List.set_cons_succ]
      refine wpAnyH_take (i := 5) (oi := ?to5_1) (v := ?tv5_1) ?th5_1 (by kernel_rfl) (by kernel_rfl) (by kernel_rfl) ?tq5_1 (Or.inl ⟨?tw5_1, ?ty5_1⟩) (by assumption) ?tr5_1
      case th5_1 => (simp only [List.getElem?_toArray, List.getElem?_cons_zero, List.getElem?_cons_succ]; rfl)
      case tq5_1 => exact fun _ _ _ h => h
      case tw5_1 => rfl
      case ty5_1 => (intro w' hSw; (try dsimp only at hSw); go_simp <;> with_reducible rfl)
      try simp only [Act.put, List.setIfInBounds_toArray, List.set_cons_zero, List.set_cons_succ]
      refine wpAnyH_take (i := 6) (oi := ?to6_1) (v := ?tv6_1) ?th6_1 (by kernel_rfl) (by kernel_rfl) (by kernel_rfl) ?tq6_1 (Or.inl ⟨?tw6_1, ?ty6_1⟩) (by assumption) ?tr6_1
      case th6_1 => (simp only [List.getElem?_toArray, List.getElem?_cons_zero, List.getElem?_cons_succ]; rfl)
      case tq6_1 => exact fun _ _ _ h => h
      case tw6_1 => rfl
      case ty6_1 => (intro w' hSw; (try dsimp only at hSw); go_simp <;> with_reducible rfl)
      try simp only [Act.put, List.setIfInBounds_toArray, List.set_cons_zero, List.set_cons_succ]
      refine wpAnyH_take (i := 7) (oi := ?to7_1) (v := ?tv7_1) ?th7_1 (by kernel_rfl) (by kernel_rfl) (by kernel_rfl) ?tq7_1 (Or.inl ⟨?tw7_1, ?ty7_1⟩) (by assumption) ?tr7_1
      case th7_1 => (simp only [List.getElem?_toArray, List.getElem?_cons_zero, List.getElem?_cons_succ]; rfl)
      case tq7_1 => exact fun _ _ _ h => h
      case tw7_1 => rfl
      case ty7_1 => (intro w' hSw; (try dsimp only at hSw); go_simp <;> with_reducible rfl)
      try simp only [Act.put, List.setIfInBounds_toArray, List.set_cons_zero, List.set_cons_succ]
      refine wpAnyH_take (i := 8) (oi := ?to8_1) (v := ?tv8_1) ?th8_1 (by kernel_rfl) (by kernel_rfl) (by kernel_rfl) ?tq8_1 (Or.inl ⟨?tw8_1, ?ty8_1⟩) (by assumption) ?tr8_1
      case th8_1 => (simp only [List.getElem?_toArray, List.getElem?_cons_zero, List.getElem?_cons_succ]; rfl)
      case tq8_1 => exact fun _ _ _ h => h
      case tw8_1 => rfl
      case ty8_1 => (intro w' hSw; (try dsimp only at hSw); go_simp <;> with_reducible rfl)
      try simp only [Act.put, List.setIfInBounds_toArray, List.set_cons_zero, List.set_cons_succ]
      refine wpAnyH_ready (rs := [9]) (by kernel_rfl) (by simp) ?_
      refine AllReadyH.cons (o := ?bo9) ?bh9 (fun K hK => ?bs9) ?bm9
      case bh9 => (simp only [List.getElem?_toArray, List.getElem?_cons_zero, List.getElem?_cons_succ]; rfl)
      case bm9 => exact AllReadyH.nil
      case bs9 =>
        go_simp
        refine (unhide HSd _ ((unhide HB1).trans ((unhide HAd).low.mono (unhide HB1).size)) k).mono ?_
        rintro e W4 ⟨rfl, b4⟩
        rw [unhide HVe k]
        have HA4 := hide ((unhide HAd).below b4)
        have HK4 := hide ((unhide HKd).below b4)
        clear b4
        refine hK.out _ _ ⟨(unhide HA4).c1, (unhide HK4).c0, (unhide HK4).c1, (unhide HK4).c2, (unhide HK4).c3⟩ (fun hHeld => ?_)
        clear hK K
        try simp only [Act.put, List.setIfInBounds_toArray, List.set_cons_zero, List.set_cons_succ]
        refine wpAnyH_ready (rs := [10]) (by kernel_rfl) (by simp) ?_
        refine AllReadyH.cons (o := ?bo10) ?bh10 (fun K hK => ?bs10) ?bm10
        case bh10 => (simp only [List.getElem?_toArray, List.getElem?_cons_zero, List.getElem?_cons_succ]; rfl)
        case bm10 => exact AllReadyH.nil
        case bs10 =>
          go_simp
          have HA5 := hide ((unhide HA4).below (below_box W4 (.cells #[.string (V k)] 9)))
          have HK5 := hide ((unhide HK4).below (below_box W4 (.cells #[.string (V k)] 9)))
          have hcx := cell_new W4 (.string (V k)) 9
          refine hK.out _ _ ⟨(unhide HA5).c1, (unhide HK5).c0, (unhide HK5).c1, (unhide HK5).c2, (unhide HK5).c3⟩ (fun hHeld => ?_)
          clear hK K
          try simp only [Act.put, List.setIfInBounds_toArray, List.set_cons_zero, List.set_cons_succ]
          refine wpAnyH_ready (rs := [11]) (by kernel_rfl) (by simp) ?_
          refine AllReadyH.cons (o := ?bo11) ?bh11 (fun K hK => ?bs11) ?bm11
          case bh11 => (simp only [List.getElem?_toArray, List.getElem?_cons_zero, List.getElem?_cons_succ]; rfl)
          case bm11 => exact AllReadyH.nil
          case bs11 =>
            refine step_appS _ (by rfl) (.tmp 36) (.tmp 42) (by rfl) (W1.heap.size + 1) u vs (by rfl) (unhide HA5).row W4.heap.size (V k) (by rfl) hcx (by have := unhide HLl; omega) (by have := (unhide HA5).lt; omega) ?_
            intro g cap wn e1 e2
            obtain ⟨q1, q2, q3⟩ := (unhide HA5).grown (unhide e2) e1
            have HQ1 := hide q1
            have HKn := hide ((unhide HK5).keeps (keeps_grown (unhide e2)) (fun e => unhide HGu e.symm))
            refine hK.out _ _ ⟨q2, (unhide HKn).c0, (unhide HKn).c1, (unhide HKn).c2, (unhide HKn).c3⟩ (fun hHeld => ?_)
            clear hK K e1 e2 q1
            try simp only [Act.put, List.setIfInBounds_toArray, List.set_cons_zero, List.set_cons_succ]
            refine wpAnyH_done (by kernel_rfl) ?_ _
            show wpList _ _ _ _ _ _
            clear hHeld
            generalize (vs ++ [V k]).length = nn at *
            go_wp2
            go_roundw
            case rel => exact ⟨j + 1, _, by omega, by go_num, by rw [unhide HTk]; exact unhide HQ1⟩
            case measure => simp [intOf]; omega
    · obtain rfl : j = n := by omega
      have hlt' : ¬ (j : Int) < (j : Int) := by omega
      have HFin : Hid (AtSaysR w V (.returned (.tuple #[.pointer (some ⟨W1.heap.size, 0, none⟩), .int .i64 0])) wr) := by
        have hA := unhide HA
        have e1 : L.take j = L := by rw [unhide HN]; exact List.take_length
        have hrow := hA.row
        rw [e1] at hrow
        refine ⟨W1.heap.size, L, rfl, ⟨⟨gk, adk, ck, unhide HGk, by rw [← unhide HN]; exact hA.c0, fun i hi => ?_⟩, ?_, unhide HM, by rw [← unhide HN]; exact hl, (unhide HB1).size⟩, unhide HP, (unhide HB1).size, (unhide HB1).trans (hA.low.mono (unhide HB1).size)⟩
        · obtain ⟨e, x0, x1, x2, x3⟩ := unhide HFk i hi
          exact ⟨e, there_yet x0 hA.low, there_yet x1 hA.low, there_yet x2 hA.low, there_yet x3 hA.low⟩
        · obtain ⟨g, ad, cc, eu, hc⟩ := own1_at (show wr.ownsRow _ _ 1 u _ _ from hrow)
          rw [List.length_map] at eu hc
          refine ⟨g, ad, cc, fun hne => ?_, by rw [← eu]; exact hA.c1, fun i hi => ?_⟩
          · obtain ⟨x1, _⟩ := hc 0 (List.length_pos_iff.2 hne)
            have := (World.ownsRow.lt (show World.ownsRow _ _ _ _ _ _ _ from hrow) g (by rw [eu, x1]; rfl)).1
            have := (unhide HB1).size
            omega
          obtain ⟨x1, x2⟩ := hc i hi
          refine ⟨x1, x2.trans ?_⟩
          simp [hi]
      go_wp2
      go_ret2
      exact unhide HFin
end Go.Proofs.YtfoojmflbifkpaaGreatDoor
