/- Texts of one proof, one behind the other. -/
import Derived.Test.YtfoojmflbifkpaaGreatDoorCj
import Derived.Test.YtfoojmflbifkpaaGreatDoorBy
import Derived.Test.YtfoojmflbifkpaaGreatDoorBx
import Derived.LoopN

/- The document's Pieces: walked. -/
namespace Go.Proofs.YtfoojmflbifkpaaGreatDoor
open Go.RowKit Go.Maps

set_option maxRecDepth 100000 in
set_option maxHeartbeats 4000000 in
theorem rp_pieces_count {w : World} {R : Nat} {txs : List (List Fop)} {known : Int} (h : RefP w R txs known) (k : Ky) (at_ e : Int) (he : countErr txs.length known at_ = e) (hne : e ≠ 0) :
    Calls Tryz.prog 50 #[.pointer (some ⟨R, 0, none⟩), .agg #[.int .i64 k.kind, .int .i64 k.a, .string k.word, .int .i64 k.b], .int .i64 at_] w fun r w' => r = .returned (.tuple #[.slice none 0 0, .int .i64 e]) ∧ Below w.heap.size w w' := by
  have HB := hide (below_box w (.cells #[.int .i64 k.kind, .int .i64 k.a, .string k.word, .int .i64 k.b] 32))
  have HP := hide (h.carry (unhide HB))
  obtain ⟨ad, cap, c0⟩ := (unhide HP).len
  have HA := hide (rp_Ask c0 (unhide HP).c1 at_)
  rw [he] at HA
  clear h c0 he
  go_enter Tryz.func50, Tryz.ntmps50
  go_wp2_with fail
  generalize w.alloc (.cells #[.int .i64 k.kind, .int .i64 k.a, .string k.word, .int .i64 k.b] 32) = W0 at *
  refine (unhide HA).mono ?_
  rintro e W1 ⟨rfl, rfl⟩
  go_wp2
  go_ret2
  exact ⟨rfl, unhide HB⟩

set_option maxRecDepth 100000 in
set_option maxHeartbeats 4000000 in
theorem rp_pieces_key {w : World} {R : Nat} {txs : List (List Fop)} {known : Int} (h : RefP w R txs known) (k : Ky) (hk : KyOk k) (hkb : keyB k.kind k.a k.word k.b = false) (at_ : Int) (he : countErr txs.length known at_ = 0) :
    Calls Tryz.prog 50 #[.pointer (some ⟨R, 0, none⟩), .agg #[.int .i64 k.kind, .int .i64 k.a, .string k.word, .int .i64 k.b], .int .i64 at_] w fun r w' => r = .returned (.tuple #[.slice none 0 0, .int .i64 1]) ∧ Below w.heap.size w w' := by
  have HB := hide (below_box w (.cells #[.int .i64 k.kind, .int .i64 k.a, .string k.word, .int .i64 k.b] 32))
  have HP := hide (h.carry (unhide HB))
  have HK := hide (boxK_new w k)
  obtain ⟨ad, cap, c0⟩ := (unhide HP).len
  have HA := hide (rp_Ask c0 (unhide HP).c1 at_)
  rw [he] at HA
  have HKy := hide (fun W => ref_Key k.kind k.a k.word k.b W hk.word)
  rw [hkb] at HKy
  have k0 := (unhide HK).c0
  have k1 := (unhide HK).c1
  have k2 := (unhide HK).c2
  have k3 := (unhide HK).c3
  clear h c0 he hkb
  go_enter Tryz.func50, Tryz.ntmps50
  go_wp2_with fail
  generalize w.alloc (.cells #[.int .i64 k.kind, .int .i64 k.a, .string k.word, .int .i64 k.b] 32) = W0 at *
  refine (unhide HA).mono ?_
  rintro e W1 ⟨rfl, rfl⟩
  go_wp2_with fail
  refine (unhide HKy _).mono ?_
  rintro e W2 ⟨rfl, hW2⟩
  have b2 : Below W1.heap.size W1 W2 := by rw [hW2]; exact below_box _ _
  have HB2 := hide ((unhide HB).trans (b2.mono (unhide HB).size))
  clear hW2 b2 HK HB k0 k1 k2 k3 HA HKy HP
  go_wp2
  go_ret2
  exact ⟨rfl, unhide HB2⟩

theorem piecesR_snoc (f : Int → ByteArray) (E : List Int) (t : Int) : piecesR f (E ++ [t]) = pieceStep f (piecesR f E) t := by simp [piecesR]

/-- Where a piece stands open there is one. -/
theorem piecesR_open (f : Int → ByteArray) (E : List Int) : (piecesR f E).2 ≠ ByteArray.empty → (piecesR f E).1 ≠ [] := by
  have step : ∀ (st : List (Int × Int × ByteArray) × ByteArray) (t : Int), (st.2 ≠ ByteArray.empty → st.1 ≠ []) → (pieceStep f st t).2 ≠ ByteArray.empty → (pieceStep f st t).1 ≠ [] := fun st t h => by
    unfold pieceStep
    by_cases hv : f t = st.2
    · rw [if_pos hv]; exact h
    · rw [if_neg hv]
      dsimp only
      intro hn
      rw [if_neg hn]
      simp
  have all : ∀ (E : List Int) (st : List (Int × Int × ByteArray) × ByteArray), (st.2 ≠ ByteArray.empty → st.1 ≠ []) → (E.foldl (pieceStep f) st).2 ≠ ByteArray.empty → (E.foldl (pieceStep f) st).1 ≠ [] := fun E => by
    induction E with
    | nil => exact fun st h => h
    | cons t E ih => exact fun st h => ih _ (step st t h)
  exact all E _ (fun h => absurd rfl h)
theorem piecesR_length (f : Int → ByteArray) (E : List Int) : (piecesR f E).1.length ≤ E.length := by
  have step : ∀ (st : List (Int × Int × ByteArray) × ByteArray) (t : Int), (st.2 ≠ ByteArray.empty → st.1 ≠ []) → (pieceStep f st t).1.length ≤ st.1.length + 1 := fun st t h => by
    unfold pieceStep
    by_cases hv : f t = st.2
    · rw [if_pos hv]; omega
    · rw [if_neg hv]
      dsimp only
      have hc : (if st.2 = ByteArray.empty then st.1 else closeL st.1 t).length = st.1.length := by
        by_cases he : st.2 = ByteArray.empty
        · rw [if_pos he]
        · rw [if_neg he]
          rcases List.eq_nil_or_concat st.1 with q | ⟨d, p, q⟩
          · exact absurd q (h he)
          · rw [q, List.concat_eq_append]
            obtain ⟨a, b, c⟩ := p
            rw [closeL_snoc]
            simp
      split
      · omega
      · rw [List.length_append, hc]
        simp
  have all : ∀ (E D : List Int), (piecesR f (D ++ E)).1.length ≤ (piecesR f D).1.length + E.length := fun E => by
    induction E with
    | nil => intro D; simp
    | cons t E ih =>
      intro D
      have h1 := ih (D ++ [t])
      rw [List.append_assoc, List.singleton_append] at h1
      have h2 := step (piecesR f D) t (piecesR_open f D)
      rw [← piecesR_snoc] at h2
      simp only [List.length_cons]
      omega
  have := all E []
  simpa [piecesR] using this

end Go.Proofs.YtfoojmflbifkpaaGreatDoor

/- The document's Pieces, where it tells: walked. -/
namespace Go.Proofs.YtfoojmflbifkpaaGreatDoor
open Go.RowKit Go.Maps

theorem toList_ne {a b : ByteArray} (h : a ≠ b) : (a.toList == b.toList) = false := by
  rw [beq_eq_false_iff_ne]
  intro e
  rw [ByteArray.toList_eq, ByteArray.toList_eq] at e
  exact h (ByteArray.ext (Array.toList_inj.1 e))

theorem own_ints {w : World} {base : Nat} {v : Value} {l : List Int} (h : w.ownsRow base 3 1 v l.length (l.map (Value.int .i64))) : ∃ g ad c, v = .slice ad l.length c ∧ ∀ j, (hj : j < l.length) → ad = some ⟨g, 0, none⟩ ∧ w.cell? ⟨g, j, none⟩ = some (.int .i64 l[j]) := by
  obtain ⟨g, ad, c, e, hc⟩ := own1_at h
  refine ⟨g, ad, c, e, fun j hj => ?_⟩
  obtain ⟨h1, h2⟩ := hc j hj
  refine ⟨h1, h2.trans ?_⟩
  simp [hj]

/-- Pieces end where one is shut. -/
theorem rowP_shut {W : World} {base g cap : Nat} {M : List (Int × Int × ByteArray)} {a b c : Int} {s : ByteArray} (h : RowP W base (.slice (some ⟨g, 0, none⟩) (M.length + 1) cap) (M ++ [(a, b, s)])) : RowP (W.setCell ⟨g, M.length * 3 + 1, none⟩ (.int .i64 c)) base (.slice (some ⟨g, 0, none⟩) (M.length + 1) cap) (M ++ [(a, c, s)]) ∧ W.grownBy (W.setCell ⟨g, M.length * 3 + 1, none⟩ (.int .i64 c)) (some g) := by
  have h' : W.ownsRow base 177 3 (.slice (some ⟨g, 0, none⟩) (M.length + 1) cap) (M.length + 1) (encP (M ++ [(a, b, s)])) := by
    have := h
    unfold RowP at this
    simpa using this
  obtain ⟨ro, gr⟩ := World.ownsRow.stored h' (M.length * 3 + 1) (.int .i64 c)
  rw [encP_set] at ro
  refine ⟨?_, gr⟩
  unfold RowP
  simpa using ro

set_option maxRecDepth 100000 in
set_option maxHeartbeats 8000000 in
theorem rp_pieces_ok {w : World} {R : Nat} {txs : List (List Fop)} {known : Int} (h : RefP w R txs known) (k : Ky) (hk : KyOk k) (hkb : keyB k.kind k.a k.word k.b = true) (c : Nat) (hcn : c ≤ txs.length) (he : countErr txs.length known c = 0) (hE : (endsK txs k).length ≤ 100000) :
    Calls Tryz.prog 50 #[.pointer (some ⟨R, 0, none⟩), .agg #[.int .i64 k.kind, .int .i64 k.a, .string k.word, .int .i64 k.b], .int .i64 c] w fun r w' => ∃ v, r = .returned (.tuple #[v, .int .i64 0]) ∧ RowP w' w.heap.size v (piecesR (refS txs k c) (endsK txs k)).1 ∧ Below w.heap.size w w' := by
  have HB := hide (below_box w (.cells #[.int .i64 k.kind, .int .i64 k.a, .string k.word, .int .i64 k.b] 32))
  have HP := hide (h.carry (unhide HB))
  have HK := hide (boxK_new w k)
  obtain ⟨ad, cap, c0⟩ := (unhide HP).len
  have HA := hide (rp_Ask c0 (unhide HP).c1 c)
  rw [he] at HA
  have HKy := hide (fun W => ref_Key k.kind k.a k.word k.b W hk.word)
  rw [hkb] at HKy
  have k0 := (unhide HK).c0
  have k1 := (unhide HK).c1
  have k2 := (unhide HK).c2
  have k3 := (unhide HK).c3
  clear h c0 he hkb hk
  obtain ⟨E, hEk⟩ : ∃ E, E = endsK txs k := ⟨_, rfl⟩
  have HEk := hide hEk
  obtain ⟨f, hf⟩ : ∃ f, f = refS txs k c := ⟨_, rfl⟩
  have HFf := hide hf
  obtain ⟨n, hn⟩ : ∃ n, n = E.length := ⟨_, rfl⟩
  have HN := hide hn
  rw [← hEk, ← hn] at hE
  rw [← hEk, ← hf]
  clear hEk hf hn
  go_enter Tryz.func50, Tryz.ntmps50
  go_wp2_with fail
  generalize w.alloc (.cells #[.int .i64 k.kind, .int .i64 k.a, .string k.word, .int .i64 k.b] 32) = W0 at *
  refine (unhide HA).mono ?_
  rintro e W1 ⟨rfl, hW1⟩
  obtain rfl : W0 = W1 := hW1.symm
  clear hW1 HA
  go_wp2_with fail
  refine (unhide HKy _).mono ?_
  rintro e W2 ⟨rfl, hW2⟩
  have b2 : Below W0.heap.size W0 W2 := by rw [hW2]; exact below_box _ _
  have HB2 := hide ((unhide HB).trans (b2.mono (unhide HB).size))
  have HP2 := hide ((unhide HP).carry b2)
  have HK2 := hide ((unhide HK).below b2)
  clear hW2 b2 HK HB k0 k1 k2 k3 HKy HP
  have k0 := (unhide HK2).c0
  have k1 := (unhide HK2).c1
  have k2 := (unhide HK2).c2
  have k3 := (unhide HK2).c3
  go_wp2_with fail
  refine (rp_ends (unhide HP2) k).mono ?_
  rintro e W3 ⟨v, rfl, hv, b3⟩
  have HB3 := hide ((unhide HB2).trans (b3.mono (unhide HB2).size))
  have HP3 := hide ((unhide HP2).carry b3)
  have HK3 := hide ((unhide HK2).below b3)
  rw [← unhide HEk] at hv
  obtain ⟨g, ae, ce, rfl, hcE⟩ := own_ints hv
  have HCE := hide hcE
  clear hv b3 k0 k1 k2 k3 HB2 HP2 HK2 hcE
  rw [← unhide HN]
  go_wp2_with fail
  go_loopw [9, 10, 27] (fun out last i y => ∃ j : Nat, j ≤ n ∧ i = .int .i64 j ∧ last = .string (piecesR f (E.take j)).2 ∧ RowP y W3.heap.size out (piecesR f (E.take j)).1 ∧ Below W3.heap.size W3 y) (fun _ _ i _ => n - (intOf i).toNat)
  case atStart => exact ⟨0, by omega, rfl, rfl, World.ownsRow_nil _ _ _ _, Below.refl _ _⟩
  case round =>
    obtain ⟨j, hj, rfl, rfl, hO, hB⟩ := hrel
    have HO := hide hO
    have HBj := hide hB
    clear hO hB
    by_cases hlt : j < n
    · have hlt' : (j : Int) < (n : Int) := by omega
      have hj0 : (0 : Int) ≤ (j : Int) := by omega
      have hjE : j < E.length := by have := unhide HN; omega
      obtain ⟨rfl, q0⟩ := unhide HCE j hjE
      have z0 := there_yet q0 (unhide HBj)
      have HSt : Hid (piecesR f (E.take (j + 1)) = pieceStep f (piecesR f (E.take j)) E[j]) := by
        unfold Hid
        rw [List.take_succ_eq_append_getElem hjE, piecesR_snoc]
      have HOp := hide (piecesR_open f (E.take j))
      have HLn : Hid ((piecesR f (E.take j)).1.length ≤ 100000) := by
        have := piecesR_length f (E.take j)
        rw [List.length_take] at this
        show _ ≤ _
        omega
      obtain ⟨t, ht⟩ : ∃ t, t = E[j] := ⟨_, rfl⟩
      rw [← ht] at z0 HSt
      generalize piecesR f (E.take j) = st at *
      obtain ⟨L, lv⟩ := st
      dsimp only at HO HLn HOp ⊢
      have HPj := hide ((unhide HP3).carry (unhide HBj))
      have HKj := hide ((unhide HK3).below (unhide HBj))
      have k0 := (unhide HKj).c0
      have k1 := (unhide HKj).c1
      have k2 := (unhide HKj).c2
      have k3 := (unhide HKj).c3
      have hS := rp_said (unhide HPj) k c hcn t
      rw [← unhide HFf] at hS
      have HSd := hide hS
      clear hS ht q0 hjE
      go_wp2_with fail
      refine (unhide HSd).mono ?_
      rintro e W5 ⟨rfl, b5⟩
      have HB5 := hide ((unhide HBj).trans (b5.mono (unhide HBj).size))
      have HO5 := hide ((unhide HO).carry b5)
      clear b5 z0 k0 k1 k2 k3 HSd HO HBj HPj HKj
      obtain ⟨fv, hfv⟩ : ∃ fv, fv = f t := ⟨_, rfl⟩
      have HFv := hide hfv
      rw [← hfv]
      clear hfv
      by_cases hvl : fv = lv
      · have HSt2 : Hid (piecesR f (E.take (j + 1)) = (L, lv)) := by
          unfold Hid
          rw [unhide HSt]
          unfold pieceStep
          rw [if_pos (by rw [← unhide HFv]; exact hvl)]
        subst hvl
        go_wp2
        go_roundw
        case rel => exact ⟨j + 1, by omega, by go_num, by rw [unhide HSt2], by rw [unhide HSt2]; exact unhide HO5, unhide HB5⟩
        case measure => simp [intOf]; omega
      · have hnl := toList_ne hvl
        by_cases hle : lv = ByteArray.empty
        · -- none stood open
          subst hle
          have hvn := not_empty hvl
          have HSt2 : Hid (piecesR f (E.take (j + 1)) = (L ++ [(t, 0, fv)], fv)) := by
            unfold Hid
            rw [unhide HSt]
            unfold pieceStep
            dsimp only
            rw [← unhide HFv, if_neg hvl, if_pos rfl, if_neg hvl]
          have hz5 := (unhide HB5).size
          obtain ⟨hvn1, hvn2⟩ := hvn
          go_wp2_with (at_builtin; refine wpList_appP _ rfl (.tmp 51) (.tmp 56) rfl W3.heap.size _ L rfl ((unhide HO5).carry (below_box _ _)) W5.heap.size t 0 fv rfl ?d0 ?d1 ?d2 ?d3 ?d4 ?_)
          case d0 => simp
          case d1 => simp
          case d2 => simp
          case d3 => have := unhide HLn; omega
          case d4 => simp; omega
          intro v2 w2 p1 p2
          have HP1 : Hid (RowP w2 W3.heap.size v2 (L ++ [(t, 0, fv)])) := by
            unfold Hid RowP
            rw [List.length_append]
            exact p1
          have HP2 : Hid (Below W3.heap.size W3 w2) := ((unhide HB5).alloc hz5 _).grown p2 (by simp; omega) (fun i hi => (World.ownsRow.lt (unhide HO5) i hi).1)
          obtain ⟨ad3, cap3, rfl⟩ := row_slice (show World.ownsRow _ _ _ _ _ _ _ from p1)
          clear p1 p2
          go_wp2
          go_roundw
          case rel => exact ⟨j + 1, by omega, by go_num, by rw [unhide HSt2], by rw [unhide HSt2]; exact unhide HP1, unhide HP2⟩
          case measure => simp [intOf]; omega
        · have hln := not_empty hle
          obtain ⟨hln1, hln2⟩ := hln
          obtain ⟨M, p, rfl⟩ : ∃ M p, L = M ++ [p] := by
            rcases List.eq_nil_or_concat L with q | ⟨M, p, q⟩
            · exact absurd q (unhide HOp hle)
            · exact ⟨M, p, by rw [q, List.concat_eq_append]⟩
          obtain ⟨y0, y1, y2⟩ := p
          obtain ⟨g2, ad2, cap2, hu, hc⟩ := own_pieces (show World.ownsRow _ _ _ _ _ _ _ from unhide HO5)
          have hlm : M.length < (M ++ [(y0, y1, y2)]).length := by simp
          obtain ⟨had2, hg2, r0, r1, r2⟩ := hc M.length hlm
          subst had2
          rw [List.getElem_concat_length (by rfl)] at r1
          have hu2 : u9 = .slice (some ⟨g2, 0, none⟩) (M.length + 1) cap2 := by rw [hu]; simp
          clear hu
          subst hu2
          have HSh := hide (rowP_shut (c := t) (unhide HO5))
          have hzr : W5.ownsRow W3.heap.size 177 3 (.slice (some ⟨g2, 0, none⟩) (M.length + 1) cap2) (M.length + 1) (encP (M ++ [(y0, y1, y2)])) := by
            have := unhide HO5
            unfold RowP at this
            simpa using this
          have f1 := hzr.frozenAt (M.length * 3 + 1)
          obtain ⟨m, hm⟩ : ∃ m : Nat, m = M.length := ⟨_, rfl⟩
          have HMM := hide hm
          have hm4 : (m : Int) ≤ 100000 := by
            have := unhide HLn
            rw [List.length_append] at this
            simp only [List.length_cons, List.length_nil] at this
            omega
          have hm0 : (0 : Int) ≤ (m : Int) := by omega
          rw [← hm] at r1 f1 HSh ⊢
          have hgb : W3.heap.size ≤ g2 := hg2
          have HB6 : Hid (Below W3.heap.size W3 (W5.setCell ⟨g2, m * 3 + 1, none⟩ (.int .i64 t))) := (unhide HB5).grown (unhide HSh).2 (unhide HB5).size (fun i hi => by cases hi; exact hgb)
          have hw1 : IntKind.i64.wrap ((m : Int) + 1 - 1) = (m : Int) := by
            rw [← wrap64_is]
            unfold wrap64
            omega
          clear hc hlm r0 r2 hzr hm hg2 HO5 HB5
          by_cases hve : fv = ByteArray.empty
          · subst hve
            have HSt2 : Hid (piecesR f (E.take (j + 1)) = (M ++ [(y0, t, y2)], ByteArray.empty)) := by
              unfold Hid
              rw [unhide HSt]
              unfold pieceStep
              dsimp only
              rw [← unhide HFv, if_neg hvl, if_neg hle, if_pos rfl, closeL_snoc]
            go_wp2
            go_roundw
            case rel => exact ⟨j + 1, by omega, by go_num, by rw [unhide HSt2], by rw [unhide HSt2]; exact (unhide HSh).1, unhide HB6⟩
            case measure => simp [intOf]; omega
          · have hvn := not_empty hve
            obtain ⟨hvn1, hvn2⟩ := hvn
            have HSt2 : Hid (piecesR f (E.take (j + 1)) = (M ++ [(y0, t, y2)] ++ [(t, 0, fv)], fv)) := by
              unfold Hid
              rw [unhide HSt]
              unfold pieceStep
              dsimp only
              rw [← unhide HFv, if_neg hvl, if_neg hle, if_neg hve, closeL_snoc]
            have hz6 := (unhide HB6).size
            have HL6 : Hid ((M ++ [(y0, t, y2)]).length < 1099511627776) := by
              have := unhide HLn
              show _ < _
              rw [List.length_append] at this ⊢
              simp only [List.length_cons, List.length_nil] at this ⊢
              omega
            go_upto_region 15 with fail
            generalize W5.setCell ⟨g2, m * 3 + 1, none⟩ (.int .i64 t) = W6 at *
            have HO6 := hide (unhide HSh).1
            generalize M ++ [(y0, t, y2)] = L2 at *
            clear HSh f1 r1
            go_wp2_with (at_builtin; refine wpList_appP _ rfl (.tmp 51) (.tmp 56) rfl W3.heap.size _ L2 rfl ((unhide HO6).carry (below_box _ _)) W6.heap.size t 0 fv rfl ?d0 ?d1 ?d2 (unhide HL6) ?d4 ?_)
            case d0 => simp
            case d1 => simp
            case d2 => simp
            case d4 => simp; omega
            intro v2 w2 p1 p2
            have HP1 : Hid (RowP w2 W3.heap.size v2 (L2 ++ [(t, 0, fv)])) := by
              unfold Hid RowP
              rw [List.length_append]
              exact p1
            have HP2 : Hid (Below W3.heap.size W3 w2) := ((unhide HB6).alloc hz6 _).grown p2 (by simp; omega) (fun i hi => (World.ownsRow.lt (unhide HO6) i hi).1)
            obtain ⟨ad3, cap3, rfl⟩ := row_slice (show World.ownsRow _ _ _ _ _ _ _ from p1)
            clear p1 p2
            go_wp2
            go_roundw
            case rel => exact ⟨j + 1, by omega, by go_num, by rw [unhide HSt2], by rw [unhide HSt2]; exact unhide HP1, unhide HP2⟩
            case measure => simp [intOf]; omega
    · have HA : Hid (E.take j = E) := by
        have := unhide HN
        exact List.take_of_length_le (by omega)
      rw [unhide HA] at HO
      have hlt' : ¬ (j : Int) < (n : Int) := by omega
      have hsz := (unhide HB3).size
      have HR : Hid (RowP wr w.heap.size u9 (piecesR f E).1 ∧ Below w.heap.size w wr) := ⟨ownsRow_rebase (unhide HO) hsz, (unhide HB3).trans ((unhide HBj).mono hsz)⟩
      clear HO
      go_wp2
      go_ret2
      exact ⟨_, rfl, unhide HR⟩

end Go.Proofs.YtfoojmflbifkpaaGreatDoor

/- The document's Ever, where it fails: walked. -/
namespace Go.Proofs.YtfoojmflbifkpaaGreatDoor
open Go.RowKit Go.Maps

set_option maxRecDepth 100000 in
set_option maxHeartbeats 8000000 in
theorem rp_ever_from {w : World} {R : Nat} {txs : List (List Fop)} {known : Int} (h : RefP w R txs known) (k : Ky) (a b lo hi : Int) (e : Int) (he : countErr txs.length known a = e) (hne : e ≠ 0) :
    Calls Tryz.prog 53 #[.pointer (some ⟨R, 0, none⟩), .agg #[.int .i64 k.kind, .int .i64 k.a, .string k.word, .int .i64 k.b], .int .i64 a, .int .i64 b, .agg #[.int .i64 lo, .int .i64 hi]] w fun r w' => r = .returned (.tuple #[.slice none 0 0, .int .i64 e]) ∧ Below w.heap.size w w' := by
  have HB : Hid (Below w.heap.size w (((w.alloc (.cells #[.int .i64 k.kind, .int .i64 k.a, .string k.word, .int .i64 k.b] 32)).alloc (.cells #[.int .i64 lo, .int .i64 hi] 34)).alloc (.cells #[.int .i64 a, .int .i64 b] 3))) := (((Below.refl _ _).alloc (Nat.le_refl _) _).alloc (by simp) _).alloc (by simp; omega) _
  have HP := hide (h.carry (unhide HB))
  have HK : Hid (BoxK w.heap.size k (((w.alloc (.cells #[.int .i64 k.kind, .int .i64 k.a, .string k.word, .int .i64 k.b] 32)).alloc (.cells #[.int .i64 lo, .int .i64 hi] 34)).alloc (.cells #[.int .i64 a, .int .i64 b] 3))) := ((boxK_new w k).below (below_box _ _)).below (below_box _ _)
  have s0 : (((w.alloc (.cells #[.int .i64 k.kind, .int .i64 k.a, .string k.word, .int .i64 k.b] 32)).alloc (.cells #[.int .i64 lo, .int .i64 hi] 34)).alloc (.cells #[.int .i64 a, .int .i64 b] 3)).cell? ⟨w.heap.size + 1, 0, none⟩ = some (.int .i64 lo) := by
    rw [World.cell?_alloc_past _ _ _ (by simp)]
    simp
  have s1 : (((w.alloc (.cells #[.int .i64 k.kind, .int .i64 k.a, .string k.word, .int .i64 k.b] 32)).alloc (.cells #[.int .i64 lo, .int .i64 hi] 34)).alloc (.cells #[.int .i64 a, .int .i64 b] 3)).cell? ⟨w.heap.size + 1, 1, none⟩ = some (.int .i64 hi) := by
    rw [World.cell?_alloc_past _ _ _ (by simp)]
    simp
  have t0 : (((w.alloc (.cells #[.int .i64 k.kind, .int .i64 k.a, .string k.word, .int .i64 k.b] 32)).alloc (.cells #[.int .i64 lo, .int .i64 hi] 34)).alloc (.cells #[.int .i64 a, .int .i64 b] 3)).cell? ⟨w.heap.size + 2, 0, none⟩ = some (.int .i64 a) := by
    rw [World.cell?_alloc_at _ _ _ _ (by simp)]
    rfl
  have t1 : (((w.alloc (.cells #[.int .i64 k.kind, .int .i64 k.a, .string k.word, .int .i64 k.b] 32)).alloc (.cells #[.int .i64 lo, .int .i64 hi] 34)).alloc (.cells #[.int .i64 a, .int .i64 b] 3)).cell? ⟨w.heap.size + 2, 1, none⟩ = some (.int .i64 b) := by
    rw [World.cell?_alloc_at _ _ _ _ (by simp)]
    rfl
  obtain ⟨ad, cap, c0⟩ := (unhide HP).len
  have HA := hide (rp_Ask c0 (unhide HP).c1 a)
  have HA2 := hide (rp_Ask c0 (unhide HP).c1 b)
  have k0 := (unhide HK).c0
  have k1 := (unhide HK).c1
  have k2 := (unhide HK).c2
  have k3 := (unhide HK).c3
  rw [he] at HA
  clear h c0 he
  go_enter Tryz.func53, Tryz.ntmps53
  go_wp2_with fail
  generalize ((w.alloc (.cells #[.int .i64 k.kind, .int .i64 k.a, .string k.word, .int .i64 k.b] 32)).alloc (.cells #[.int .i64 lo, .int .i64 hi] 34)).alloc (.cells #[.int .i64 a, .int .i64 b] 3) = W0 at *
  refine wp_loop_rounds 3 ?_
  rw [rounds_succ]
  go_wp2_with fail
  refine (unhide HA).mono ?_
  rintro r W1 ⟨rfl, hW1⟩
  obtain rfl : W0 = W1 := hW1.symm
  clear hW1 HA
  go_wp2
  go_ret2
  exact ⟨rfl, unhide HB⟩

set_option maxRecDepth 100000 in
set_option maxHeartbeats 8000000 in
theorem rp_ever_to {w : World} {R : Nat} {txs : List (List Fop)} {known : Int} (h : RefP w R txs known) (k : Ky) (a b lo hi : Int) (ha : countErr txs.length known a = 0) (e : Int) (he : countErr txs.length known b = e) (hne : e ≠ 0) :
    Calls Tryz.prog 53 #[.pointer (some ⟨R, 0, none⟩), .agg #[.int .i64 k.kind, .int .i64 k.a, .string k.word, .int .i64 k.b], .int .i64 a, .int .i64 b, .agg #[.int .i64 lo, .int .i64 hi]] w fun r w' => r = .returned (.tuple #[.slice none 0 0, .int .i64 e]) ∧ Below w.heap.size w w' := by
  have HB : Hid (Below w.heap.size w (((w.alloc (.cells #[.int .i64 k.kind, .int .i64 k.a, .string k.word, .int .i64 k.b] 32)).alloc (.cells #[.int .i64 lo, .int .i64 hi] 34)).alloc (.cells #[.int .i64 a, .int .i64 b] 3))) := (((Below.refl _ _).alloc (Nat.le_refl _) _).alloc (by simp) _).alloc (by simp; omega) _
  have HP := hide (h.carry (unhide HB))
  have HK : Hid (BoxK w.heap.size k (((w.alloc (.cells #[.int .i64 k.kind, .int .i64 k.a, .string k.word, .int .i64 k.b] 32)).alloc (.cells #[.int .i64 lo, .int .i64 hi] 34)).alloc (.cells #[.int .i64 a, .int .i64 b] 3))) := ((boxK_new w k).below (below_box _ _)).below (below_box _ _)
  have s0 : (((w.alloc (.cells #[.int .i64 k.kind, .int .i64 k.a, .string k.word, .int .i64 k.b] 32)).alloc (.cells #[.int .i64 lo, .int .i64 hi] 34)).alloc (.cells #[.int .i64 a, .int .i64 b] 3)).cell? ⟨w.heap.size + 1, 0, none⟩ = some (.int .i64 lo) := by
    rw [World.cell?_alloc_past _ _ _ (by simp)]
    simp
  have s1 : (((w.alloc (.cells #[.int .i64 k.kind, .int .i64 k.a, .string k.word, .int .i64 k.b] 32)).alloc (.cells #[.int .i64 lo, .int .i64 hi] 34)).alloc (.cells #[.int .i64 a, .int .i64 b] 3)).cell? ⟨w.heap.size + 1, 1, none⟩ = some (.int .i64 hi) := by
    rw [World.cell?_alloc_past _ _ _ (by simp)]
    simp
  have t0 : (((w.alloc (.cells #[.int .i64 k.kind, .int .i64 k.a, .string k.word, .int .i64 k.b] 32)).alloc (.cells #[.int .i64 lo, .int .i64 hi] 34)).alloc (.cells #[.int .i64 a, .int .i64 b] 3)).cell? ⟨w.heap.size + 2, 0, none⟩ = some (.int .i64 a) := by
    rw [World.cell?_alloc_at _ _ _ _ (by simp)]
    rfl
  have t1 : (((w.alloc (.cells #[.int .i64 k.kind, .int .i64 k.a, .string k.word, .int .i64 k.b] 32)).alloc (.cells #[.int .i64 lo, .int .i64 hi] 34)).alloc (.cells #[.int .i64 a, .int .i64 b] 3)).cell? ⟨w.heap.size + 2, 1, none⟩ = some (.int .i64 b) := by
    rw [World.cell?_alloc_at _ _ _ _ (by simp)]
    rfl
  obtain ⟨ad, cap, c0⟩ := (unhide HP).len
  have HA := hide (rp_Ask c0 (unhide HP).c1 a)
  have HA2 := hide (rp_Ask c0 (unhide HP).c1 b)
  have k0 := (unhide HK).c0
  have k1 := (unhide HK).c1
  have k2 := (unhide HK).c2
  have k3 := (unhide HK).c3
  rw [ha] at HA
  rw [he] at HA2
  clear h c0 he ha
  go_enter Tryz.func53, Tryz.ntmps53
  go_wp2_with fail
  generalize ((w.alloc (.cells #[.int .i64 k.kind, .int .i64 k.a, .string k.word, .int .i64 k.b] 32)).alloc (.cells #[.int .i64 lo, .int .i64 hi] 34)).alloc (.cells #[.int .i64 a, .int .i64 b] 3) = W0 at *
  refine wp_loop_rounds 3 ?_
  rw [rounds_succ]
  go_wp2_with fail
  refine (unhide HA).mono ?_
  rintro r W1 ⟨rfl, hW1⟩
  obtain rfl : W0 = W1 := hW1.symm
  clear hW1 HA
  go_wp2_with fail
  rw [rounds_succ]
  go_wp2_with fail
  refine (unhide HA2).mono ?_
  rintro r W1 ⟨rfl, hW1⟩
  obtain rfl : W0 = W1 := hW1.symm
  clear hW1 HA2
  go_wp2
  go_ret2
  exact ⟨rfl, unhide HB⟩

set_option maxRecDepth 100000 in
set_option maxHeartbeats 8000000 in
theorem rp_ever_order {w : World} {R : Nat} {txs : List (List Fop)} {known : Int} (h : RefP w R txs known) (k : Ky) (a b lo hi : Int) (ha : countErr txs.length known a = 0) (hb : countErr txs.length known b = 0) (ho : b < a) :
    Calls Tryz.prog 53 #[.pointer (some ⟨R, 0, none⟩), .agg #[.int .i64 k.kind, .int .i64 k.a, .string k.word, .int .i64 k.b], .int .i64 a, .int .i64 b, .agg #[.int .i64 lo, .int .i64 hi]] w fun r w' => r = .returned (.tuple #[.slice none 0 0, .int .i64 10]) ∧ Below w.heap.size w w' := by
  have HB : Hid (Below w.heap.size w (((w.alloc (.cells #[.int .i64 k.kind, .int .i64 k.a, .string k.word, .int .i64 k.b] 32)).alloc (.cells #[.int .i64 lo, .int .i64 hi] 34)).alloc (.cells #[.int .i64 a, .int .i64 b] 3))) := (((Below.refl _ _).alloc (Nat.le_refl _) _).alloc (by simp) _).alloc (by simp; omega) _
  have HP := hide (h.carry (unhide HB))
  have HK : Hid (BoxK w.heap.size k (((w.alloc (.cells #[.int .i64 k.kind, .int .i64 k.a, .string k.word, .int .i64 k.b] 32)).alloc (.cells #[.int .i64 lo, .int .i64 hi] 34)).alloc (.cells #[.int .i64 a, .int .i64 b] 3))) := ((boxK_new w k).below (below_box _ _)).below (below_box _ _)
  have s0 : (((w.alloc (.cells #[.int .i64 k.kind, .int .i64 k.a, .string k.word, .int .i64 k.b] 32)).alloc (.cells #[.int .i64 lo, .int .i64 hi] 34)).alloc (.cells #[.int .i64 a, .int .i64 b] 3)).cell? ⟨w.heap.size + 1, 0, none⟩ = some (.int .i64 lo) := by
    rw [World.cell?_alloc_past _ _ _ (by simp)]
    simp
  have s1 : (((w.alloc (.cells #[.int .i64 k.kind, .int .i64 k.a, .string k.word, .int .i64 k.b] 32)).alloc (.cells #[.int .i64 lo, .int .i64 hi] 34)).alloc (.cells #[.int .i64 a, .int .i64 b] 3)).cell? ⟨w.heap.size + 1, 1, none⟩ = some (.int .i64 hi) := by
    rw [World.cell?_alloc_past _ _ _ (by simp)]
    simp
  have t0 : (((w.alloc (.cells #[.int .i64 k.kind, .int .i64 k.a, .string k.word, .int .i64 k.b] 32)).alloc (.cells #[.int .i64 lo, .int .i64 hi] 34)).alloc (.cells #[.int .i64 a, .int .i64 b] 3)).cell? ⟨w.heap.size + 2, 0, none⟩ = some (.int .i64 a) := by
    rw [World.cell?_alloc_at _ _ _ _ (by simp)]
    rfl
  have t1 : (((w.alloc (.cells #[.int .i64 k.kind, .int .i64 k.a, .string k.word, .int .i64 k.b] 32)).alloc (.cells #[.int .i64 lo, .int .i64 hi] 34)).alloc (.cells #[.int .i64 a, .int .i64 b] 3)).cell? ⟨w.heap.size + 2, 1, none⟩ = some (.int .i64 b) := by
    rw [World.cell?_alloc_at _ _ _ _ (by simp)]
    rfl
  obtain ⟨ad, cap, c0⟩ := (unhide HP).len
  have HA := hide (rp_Ask c0 (unhide HP).c1 a)
  have HA2 := hide (rp_Ask c0 (unhide HP).c1 b)
  have k0 := (unhide HK).c0
  have k1 := (unhide HK).c1
  have k2 := (unhide HK).c2
  have k3 := (unhide HK).c3
  rw [ha] at HA
  rw [hb] at HA2
  clear h c0 hb ha
  go_enter Tryz.func53, Tryz.ntmps53
  go_wp2_with fail
  generalize ((w.alloc (.cells #[.int .i64 k.kind, .int .i64 k.a, .string k.word, .int .i64 k.b] 32)).alloc (.cells #[.int .i64 lo, .int .i64 hi] 34)).alloc (.cells #[.int .i64 a, .int .i64 b] 3) = W0 at *
  refine wp_loop_rounds 3 ?_
  rw [rounds_succ]
  go_wp2_with fail
  refine (unhide HA).mono ?_
  rintro r W1 ⟨rfl, hW1⟩
  obtain rfl : W0 = W1 := hW1.symm
  clear hW1 HA
  go_wp2_with fail
  rw [rounds_succ]
  go_wp2_with fail
  refine (unhide HA2).mono ?_
  rintro r W1 ⟨rfl, hW1⟩
  obtain rfl : W0 = W1 := hW1.symm
  clear hW1 HA2
  go_wp2_with fail
  rw [rounds_succ]
  go_wp2
  go_ret2
  exact ⟨rfl, unhide HB⟩

set_option maxRecDepth 100000 in
set_option maxHeartbeats 8000000 in
theorem rp_ever_key {w : World} {R : Nat} {txs : List (List Fop)} {known : Int} (h : RefP w R txs known) (k : Ky) (a b lo hi : Int) (hk : KyOk k) (hkb : keyB k.kind k.a k.word k.b = false) (ha : countErr txs.length known a = 0) (hb : countErr txs.length known b = 0) (ho : ¬ b < a) :
    Calls Tryz.prog 53 #[.pointer (some ⟨R, 0, none⟩), .agg #[.int .i64 k.kind, .int .i64 k.a, .string k.word, .int .i64 k.b], .int .i64 a, .int .i64 b, .agg #[.int .i64 lo, .int .i64 hi]] w fun r w' => r = .returned (.tuple #[.slice none 0 0, .int .i64 1]) ∧ Below w.heap.size w w' := by
  have HB : Hid (Below w.heap.size w (((w.alloc (.cells #[.int .i64 k.kind, .int .i64 k.a, .string k.word, .int .i64 k.b] 32)).alloc (.cells #[.int .i64 lo, .int .i64 hi] 34)).alloc (.cells #[.int .i64 a, .int .i64 b] 3))) := (((Below.refl _ _).alloc (Nat.le_refl _) _).alloc (by simp) _).alloc (by simp; omega) _
  have HP := hide (h.carry (unhide HB))
  have HK : Hid (BoxK w.heap.size k (((w.alloc (.cells #[.int .i64 k.kind, .int .i64 k.a, .string k.word, .int .i64 k.b] 32)).alloc (.cells #[.int .i64 lo, .int .i64 hi] 34)).alloc (.cells #[.int .i64 a, .int .i64 b] 3))) := ((boxK_new w k).below (below_box _ _)).below (below_box _ _)
  have s0 : (((w.alloc (.cells #[.int .i64 k.kind, .int .i64 k.a, .string k.word, .int .i64 k.b] 32)).alloc (.cells #[.int .i64 lo, .int .i64 hi] 34)).alloc (.cells #[.int .i64 a, .int .i64 b] 3)).cell? ⟨w.heap.size + 1, 0, none⟩ = some (.int .i64 lo) := by
    rw [World.cell?_alloc_past _ _ _ (by simp)]
    simp
  have s1 : (((w.alloc (.cells #[.int .i64 k.kind, .int .i64 k.a, .string k.word, .int .i64 k.b] 32)).alloc (.cells #[.int .i64 lo, .int .i64 hi] 34)).alloc (.cells #[.int .i64 a, .int .i64 b] 3)).cell? ⟨w.heap.size + 1, 1, none⟩ = some (.int .i64 hi) := by
    rw [World.cell?_alloc_past _ _ _ (by simp)]
    simp
  have t0 : (((w.alloc (.cells #[.int .i64 k.kind, .int .i64 k.a, .string k.word, .int .i64 k.b] 32)).alloc (.cells #[.int .i64 lo, .int .i64 hi] 34)).alloc (.cells #[.int .i64 a, .int .i64 b] 3)).cell? ⟨w.heap.size + 2, 0, none⟩ = some (.int .i64 a) := by
    rw [World.cell?_alloc_at _ _ _ _ (by simp)]
    rfl
  have t1 : (((w.alloc (.cells #[.int .i64 k.kind, .int .i64 k.a, .string k.word, .int .i64 k.b] 32)).alloc (.cells #[.int .i64 lo, .int .i64 hi] 34)).alloc (.cells #[.int .i64 a, .int .i64 b] 3)).cell? ⟨w.heap.size + 2, 1, none⟩ = some (.int .i64 b) := by
    rw [World.cell?_alloc_at _ _ _ _ (by simp)]
    rfl
  obtain ⟨ad, cap, c0⟩ := (unhide HP).len
  have HA := hide (rp_Ask c0 (unhide HP).c1 a)
  have HA2 := hide (rp_Ask c0 (unhide HP).c1 b)
  have k0 := (unhide HK).c0
  have k1 := (unhide HK).c1
  have k2 := (unhide HK).c2
  have k3 := (unhide HK).c3
  rw [ha] at HA
  rw [hb] at HA2
  have HKy := hide (fun W => ref_Key k.kind k.a k.word k.b W hk.word)
  rw [hkb] at HKy
  clear h c0 hb ha hkb hk
  go_enter Tryz.func53, Tryz.ntmps53
  go_wp2_with fail
  generalize ((w.alloc (.cells #[.int .i64 k.kind, .int .i64 k.a, .string k.word, .int .i64 k.b] 32)).alloc (.cells #[.int .i64 lo, .int .i64 hi] 34)).alloc (.cells #[.int .i64 a, .int .i64 b] 3) = W0 at *
  refine wp_loop_rounds 3 ?_
  rw [rounds_succ]
  go_wp2_with fail
  refine (unhide HA).mono ?_
  rintro r W1 ⟨rfl, hW1⟩
  obtain rfl : W0 = W1 := hW1.symm
  clear hW1 HA
  go_wp2_with fail
  rw [rounds_succ]
  go_wp2_with fail
  refine (unhide HA2).mono ?_
  rintro r W1 ⟨rfl, hW1⟩
  obtain rfl : W0 = W1 := hW1.symm
  clear hW1 HA2
  go_wp2_with fail
  rw [rounds_succ]
  go_wp2_with fail
  refine (unhide HKy _).mono ?_
  rintro e W2 ⟨rfl, hW2⟩
  have b2 : Below W0.heap.size W0 W2 := by rw [hW2]; exact below_box _ _
  have HB2 := hide ((unhide HB).trans (b2.mono (unhide HB).size))
  clear hW2 b2
  go_wp2
  go_ret2
  exact ⟨rfl, unhide HB2⟩

set_option maxRecDepth 100000 in
set_option maxHeartbeats 8000000 in
theorem rp_ever_span {w : World} {R : Nat} {txs : List (List Fop)} {known : Int} (h : RefP w R txs known) (k : Ky) (a b lo hi : Int) (hk : KyOk k) (hkb : keyB k.kind k.a k.word k.b = true) (ha : countErr txs.length known a = 0) (hb : countErr txs.length known b = 0) (ho : ¬ b < a) (hr : rightB lo hi = false) :
    Calls Tryz.prog 53 #[.pointer (some ⟨R, 0, none⟩), .agg #[.int .i64 k.kind, .int .i64 k.a, .string k.word, .int .i64 k.b], .int .i64 a, .int .i64 b, .agg #[.int .i64 lo, .int .i64 hi]] w fun r w' => r = .returned (.tuple #[.slice none 0 0, .int .i64 1]) ∧ Below w.heap.size w w' := by
  have HB : Hid (Below w.heap.size w (((w.alloc (.cells #[.int .i64 k.kind, .int .i64 k.a, .string k.word, .int .i64 k.b] 32)).alloc (.cells #[.int .i64 lo, .int .i64 hi] 34)).alloc (.cells #[.int .i64 a, .int .i64 b] 3))) := (((Below.refl _ _).alloc (Nat.le_refl _) _).alloc (by simp) _).alloc (by simp; omega) _
  have HP := hide (h.carry (unhide HB))
  have HK : Hid (BoxK w.heap.size k (((w.alloc (.cells #[.int .i64 k.kind, .int .i64 k.a, .string k.word, .int .i64 k.b] 32)).alloc (.cells #[.int .i64 lo, .int .i64 hi] 34)).alloc (.cells #[.int .i64 a, .int .i64 b] 3))) := ((boxK_new w k).below (below_box _ _)).below (below_box _ _)
  have s0 : (((w.alloc (.cells #[.int .i64 k.kind, .int .i64 k.a, .string k.word, .int .i64 k.b] 32)).alloc (.cells #[.int .i64 lo, .int .i64 hi] 34)).alloc (.cells #[.int .i64 a, .int .i64 b] 3)).cell? ⟨w.heap.size + 1, 0, none⟩ = some (.int .i64 lo) := by
    rw [World.cell?_alloc_past _ _ _ (by simp)]
    simp
  have s1 : (((w.alloc (.cells #[.int .i64 k.kind, .int .i64 k.a, .string k.word, .int .i64 k.b] 32)).alloc (.cells #[.int .i64 lo, .int .i64 hi] 34)).alloc (.cells #[.int .i64 a, .int .i64 b] 3)).cell? ⟨w.heap.size + 1, 1, none⟩ = some (.int .i64 hi) := by
    rw [World.cell?_alloc_past _ _ _ (by simp)]
    simp
  have t0 : (((w.alloc (.cells #[.int .i64 k.kind, .int .i64 k.a, .string k.word, .int .i64 k.b] 32)).alloc (.cells #[.int .i64 lo, .int .i64 hi] 34)).alloc (.cells #[.int .i64 a, .int .i64 b] 3)).cell? ⟨w.heap.size + 2, 0, none⟩ = some (.int .i64 a) := by
    rw [World.cell?_alloc_at _ _ _ _ (by simp)]
    rfl
  have t1 : (((w.alloc (.cells #[.int .i64 k.kind, .int .i64 k.a, .string k.word, .int .i64 k.b] 32)).alloc (.cells #[.int .i64 lo, .int .i64 hi] 34)).alloc (.cells #[.int .i64 a, .int .i64 b] 3)).cell? ⟨w.heap.size + 2, 1, none⟩ = some (.int .i64 b) := by
    rw [World.cell?_alloc_at _ _ _ _ (by simp)]
    rfl
  obtain ⟨ad, cap, c0⟩ := (unhide HP).len
  have HA := hide (rp_Ask c0 (unhide HP).c1 a)
  have HA2 := hide (rp_Ask c0 (unhide HP).c1 b)
  have k0 := (unhide HK).c0
  have k1 := (unhide HK).c1
  have k2 := (unhide HK).c2
  have k3 := (unhide HK).c3
  rw [ha] at HA
  rw [hb] at HA2
  have HKy := hide (fun W => ref_Key k.kind k.a k.word k.b W hk.word)
  rw [hkb] at HKy
  have HRt := hide (fun W => ref_Right lo hi W)
  rw [hr] at HRt
  clear h c0 hb ha hkb hk hr
  go_enter Tryz.func53, Tryz.ntmps53
  go_wp2_with fail
  generalize ((w.alloc (.cells #[.int .i64 k.kind, .int .i64 k.a, .string k.word, .int .i64 k.b] 32)).alloc (.cells #[.int .i64 lo, .int .i64 hi] 34)).alloc (.cells #[.int .i64 a, .int .i64 b] 3) = W0 at *
  refine wp_loop_rounds 3 ?_
  rw [rounds_succ]
  go_wp2_with fail
  refine (unhide HA).mono ?_
  rintro r W1 ⟨rfl, hW1⟩
  obtain rfl : W0 = W1 := hW1.symm
  clear hW1 HA
  go_wp2_with fail
  rw [rounds_succ]
  go_wp2_with fail
  refine (unhide HA2).mono ?_
  rintro r W1 ⟨rfl, hW1⟩
  obtain rfl : W0 = W1 := hW1.symm
  clear hW1 HA2
  go_wp2_with fail
  rw [rounds_succ]
  go_wp2_with fail
  refine (unhide HKy _).mono ?_
  rintro e W2 ⟨rfl, hW2⟩
  have b2 : Below W0.heap.size W0 W2 := by rw [hW2]; exact below_box _ _
  have HB2 := hide ((unhide HB).trans (b2.mono (unhide HB).size))
  have s0' := there_yet s0 b2
  have s1' := there_yet s1 b2
  clear hW2 b2 s0 s1 k0 k1 k2 k3
  go_wp2_with fail
  refine (unhide HRt _).mono ?_
  rintro e W3 ⟨rfl, hW3⟩
  have b3 : Below W2.heap.size W2 W3 := by rw [hW3]; exact below_box _ _
  have HB3 := hide ((unhide HB2).trans (b3.mono (unhide HB2).size))
  clear b3 hW3
  go_wp2
  go_ret2
  exact ⟨rfl, unhide HB3⟩

end Go.Proofs.YtfoojmflbifkpaaGreatDoor
