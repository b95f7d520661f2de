/- Texts of one proof, one behind the other. -/
import Derived.Test.YtbloahcmakjchabGreatDoorBz
import Derived.Test.YtbloahcmakjchabGreatDoorBv
import Derived.Test.YtbloahcmakjchabGreatDoorBm
import Derived.Deep.DeepCutAuto

/- WalkWays: walked. -/
namespace Go.Proofs.YtbloahcmakjchabGreatDoor
open Go.RowKit Go.Maps

/-- What holds while transactions are committed. -/
structure WyI (w0 : World) (np base : Nat) (C : List (List Fop)) (F : Nat → Prop) (u : Value) (ts : List Value) (W : World) : Prop where
  pw : PastT W (pl0 np) C 0 F
  ok : ∀ l, l ∈ C → okL l
  of : ∀ i, F i → w0.heap.size ≤ i
  low : Below w0.heap.size w0 W
  txs : RowL W base u ts
  tg : ∀ v, v = u ∨ v ∈ ts → ∀ g, v.ownBlock = some g → ¬ F g
  ops : ∀ v, v ∈ ts → ∃ l, okL l ∧ RowO W base v l

section
variable {w0 : World} {np base : Nat} {C : List (List Fop)} {F : Nat → Prop} {u : Value} {ts : List Value} {W : World}

theorem WyI.rows (h : WyI w0 np base C F u ts W) : ∀ v, v = u ∨ v ∈ ts → ∀ g, v.ownBlock = some g → g < W.heap.size := fun v hv g hg => by
  rcases hv with rfl | hv
  · exact (World.ownsRow.lt (show World.ownsRow _ _ _ _ _ _ _ from h.txs) g hg).2
  · obtain ⟨l, _, b⟩ := h.ops v hv
    exact (World.ownsRow.lt (show World.ownsRow _ _ _ _ _ _ _ from b) g hg).2

theorem WyI.said (h : WyI w0 np base C F u ts W) {W' : World} {l : List Fop} (hl : okL l) (hc : ChangedT W (pl0 np) (C ++ [l]) 0 F W') : ∃ F', WyI w0 np base (C ++ [l]) F' u ts W' := by
  obtain ⟨F', pw, g1, g2⟩ := hc
  refine ⟨F', pw, fun m hm => ?_, fun i hi => ?_, h.low.trans (keeps_below g2 h.of h.low.size), ownsRow_keeps h.txs g2 (h.tg u (.inl rfl)), fun v hv g hg q => ?_, fun v hv => ?_⟩
  · rcases List.mem_append.1 hm with q | q
    · exact h.ok m q
    · rw [List.mem_singleton.1 q]
      exact hl
  · rcases g1 i hi with q | q
    · exact h.of i q
    · exact Nat.le_trans h.low.size q
  · rcases g1 g q with r | r
    · exact h.tg v hv g hg r
    · have := h.rows v hv g hg
      omega
  · obtain ⟨m, a, b⟩ := h.ops v hv
    exact ⟨m, a, ownsRow_keeps b g2 (h.tg v (.inr hv))⟩

theorem WyI.begin {w W0 W2 : World} {u : Value} {ts : List Value} (b0 : Below w.heap.size w W0) (b2 : Below (W0.alloc (.cells #[.int .i64 0, .int .i64 0, .map none] 26)).heap.size (W0.alloc (.cells #[.int .i64 0, .int .i64 0, .map none] 26)) W2)
    (q1 : RowL W2 (W0.alloc (.cells #[.int .i64 0, .int .i64 0, .map none] 26)).heap.size u ts) (q3 : ∀ x, x ∈ ts → ∃ l, okL l ∧ RowO W2 (W0.alloc (.cells #[.int .i64 0, .int .i64 0, .map none] 26)).heap.size x l) :
    WyI w W0.heap.size (W0.alloc (.cells #[.int .i64 0, .int .i64 0, .map none] 26)).heap.size [] (pastF (pl0 W0.heap.size) none [] (fun _ _ => False)) u ts W2 := by
  have z1 : (W0.alloc (.cells #[.int .i64 0, .int .i64 0, .map none] 26)).heap.size = W0.heap.size + 1 := by simp
  have b1 := below_box W0 (.cells #[.int .i64 0, .int .i64 0, .map none] 26)
  have c2 := b0.trans ((b1.trans (b2.mono b1.size)).mono b0.size)
  refine ⟨(past_none W0).below b2, fun l hl => absurd hl List.not_mem_nil, fun i hi => by rw [past_noneF hi]; exact b0.size, c2, q1, fun v hv g hg q => ?_, q3⟩
  have e := past_noneF q
  rcases hv with rfl | hv
  · have := (World.ownsRow.lt (show World.ownsRow _ _ _ _ _ _ _ from q1) g hg).1
    omega
  · obtain ⟨l, _, b⟩ := q3 v hv
    have := (World.ownsRow.lt (show World.ownsRow _ _ _ _ _ _ _ from b) g hg).1
    omega
end

theorem edges_of {W : World} {g m : Nat} {V : Ky → ByteArray} {L : List Ky} {X : List (Int × Nat)} {Nd : Nat → Gn} {Fs : Nat → Nat → Prop} (h : GrI W g m V L X Nd Fs) : ∀ x, x ∈ X → (Nd x.2).edges = edgesG L x.1 := fun x hx => by
  rw [h.nd x hx]
  rfl
theorem ids_nodup {W : World} {g m : Nat} {V : Ky → ByteArray} {L : List Ky} {X : List (Int × Nat)} {Nd : Nat → Gn} {Fs : Nat → Nat → Prop} (h : GrI W g m V L X Nd Fs) : (sortedI (X.map (·.1))).Nodup := by
  refine (List.mergeSort_perm _ _).symm.nodup ?_
  unfold List.Nodup
  rw [List.pairwise_map]
  exact h.gx.ids

/-- The edges, of which all is known: each is a key. -/
theorem edge_in {L : List Ky} {N : List Int} {k : Ky} (h : k ∈ N.flatMap (edgesG L)) : k ∈ L := by
  obtain ⟨n, _, h⟩ := List.mem_flatMap.1 h
  exact (mem_edgesG.1 h).1

theorem pairs_take {E : List Ky} {j : Nat} (h : j < E.length) : pairsE (E.take (j + 1)) = pairsE (E.take j) ++ [(E[j].a, E[j].b)] := by
  unfold pairsE
  rw [List.take_succ_eq_append_getElem h, List.map_append]
  rfl

theorem pastW_now {w : World} {P : Pl} {now known bd : Int} {S : Ky → Int → Int → ByteArray} {F : Nat → Prop} (h : PastW w P now known bd S F) : w.cell? ⟨P.b, P.o, none⟩ = some (.int .i64 now) := by
  obtain ⟨_, _, _, _, p, _⟩ := h
  exact p.c0

set_option maxRecDepth 100000 in
set_option maxHeartbeats 16000000 in
theorem walk_ways (l : List SayN) (ad : Option Addr) (cap : Nat) (at_ time : Int) (any : Bool) (w : World) (hS : SaysAt w ad l) (ht : Tab w) (he : ErrorType w) :
    Calls Tryz.prog 3 #[.slice ad l.length cap, .int .i64 at_, .int .i64 time, .bool any] w fun e w' => e = .returned (.bool true) ∧ Below w.heap.size w w' := by
  by_cases hl : l.length ≤ 60
  · have hl' : ¬ (60 : Int) < (l.length : Int) := by omega
    have HS := hide hS
    have HT := hide ht
    have HEr := hide he
    have HWk := hide (walked_ok w ht)
    have HMm := hide (@run_makeMap Tryz.prog)
    clear hS ht he
    go_enter Tryz.func3, Tryz.ntmps3
    go_wp2_with fail
    refine (unhide HWk).mono ?_
    rintro e W0 ⟨rfl, b0⟩
    have HB0 := hide b0
    have hB1 : Below w.heap.size w (W0.alloc (.cells #[.int .i64 0, .int .i64 0, .map none] 26)) := b0.trans ((below_box W0 _).mono b0.size)
    have HOp := hide (keep_ops l ad cap _ hl ((unhide HS).carry hB1))
    clear b0 HWk hB1
    go_wp2_with fail
    refine (unhide HOp).mono ?_
    rintro e W2 ⟨v10, ts, rfl, q1, q2, q3, q4⟩
    have HI0 := hide (WyI.begin (unhide HB0) q4 q1 q3)
    obtain ⟨ad10, cap10, rfl⟩ := row_slice (show World.ownsRow _ _ _ _ _ _ _ from q1)
    have hts : ts.length ≤ 60 := by omega
    clear q1 q2 q3 q4 HOp HS
    generalize (W0.alloc (.cells #[.int .i64 0, .int .i64 0, .map none] 26)).heap.size = base at *
    generalize W0.heap.size = np at *
    clear HB0
    go_wp2
    go_loopw [11] (fun i y => ∃ (C : List (List Fop)) (F : Nat → Prop), C.length ≤ ts.length ∧ i = .int .i64 (C.length : Nat) ∧ WyI w np base C F (.slice ad10 ts.length cap10) ts y) (fun i _ => ts.length - numV i)
    case atStart => exact ⟨[], _, Nat.zero_le _, rfl, unhide HI0⟩
    case round =>
      clear HI0
      obtain ⟨C, F, hj, rfl, hI⟩ := hrel
      have HI := hide hI
      clear hI
      by_cases hlt : C.length < ts.length
      · have hlt' : (C.length : Int) < (ts.length : Int) := by omega
        have hj0 : (0 : Int) ≤ (C.length : Int) := by omega
        obtain ⟨gt, adt, ct, e10, hft⟩ := own1_at (show World.ownsRow _ _ _ _ _ _ _ from (unhide HI).txs)
        obtain ⟨hadt, hct⟩ := hft C.length hlt
        injection e10 with ea _ ec
        subst ec
        rw [hadt] at ea
        subst ea
        rw [List.getElem?_eq_getElem hlt] at hct
        obtain ⟨lo, hlo, hro⟩ := (unhide HI).ops _ (List.getElem_mem hlt)
        obtain ⟨gb, capb, hv, hO, hg⟩ := RowO.at hro (fun e => by have := hlo.1; rw [e] at this; simp at this)
        rw [hv] at hct
        have HC := hide (commit_txs (unhide HI).pw lo gb 0 capb hlo hO (fun q => (unhide HI).tg _ (.inr (List.getElem_mem hlt)) gb (by rw [hv]; rfl) q) ((unhide HT).carry (unhide HI).low) (by omega) (by omega))
        have HLo := hide hlo
        clear hft hro hv hO hg hlo
        generalize lo.length = nlo at *
        go_wp2_with fail
        refine (unhide HC).mono ?_
        rintro e W3 ⟨rfl, hc⟩
        obtain ⟨F3, h3⟩ := (unhide HI).said (unhide HLo) hc
        have HI3 := hide h3
        have HLn : Hid ((C ++ [lo]).length = C.length + 1) := by unfold Hid; simp
        clear hc h3 HC hct HI
        go_wp2
        go_roundw
        case rel => exact ⟨C ++ [lo], F3, by rw [unhide HLn]; omega, by rw [unhide HLn]; go_num, unhide HI3⟩
        case measure => simp [numV]; omega
      · have hlt' : ¬ (C.length : Int) < (ts.length : Int) := by omega
        have hC : C.length ≤ 60 := by omega
        have HNw := hide (past_Now (pastW_now (unhide HI).pw))
        have hpn := pickI_lt at_ ((C.length : Int) + 1) (by omega)
        have hpt := pickI_lt time 70 (by decide)
        have HPk := hide (fun W => keep_pick at_ ((C.length : Int) + 1) W (by omega) (by omega))
        have HPt := hide (fun W => keep_pick time 70 W (by decide) (by decide))
        have HA := hide (walk_At (show PastW wr (pl0 np) ((C.length : Nat) : Int) 0 (24 * ((C.length : Nat) : Int)) (refI C) F from (unhide HI).pw) (by omega) (pickI at_ ((C.length : Int) + 1)) (pickI time 70) (by omega) (by omega) (by omega) (by omega) (by omega) (fun k hk => ref_ok (unhide HI).ok k _ _ hk))
        have HKs := hide (fun k hk => (ref_ok (unhide HI).ok k (pickI at_ ((C.length : Int) + 1)) (pickI time 70) hk).1)
        have HBw := hide (unhide HI).low
        clear HI
        generalize pickI at_ ((C.length : Int) + 1) = pa at *
        generalize pickI time 70 = pt at *
        go_wp2_with fail
        refine (unhide HNw).mono ?_
        rintro e W4 ⟨rfl, hW4⟩
        obtain rfl : wr = W4 := hW4.symm
        clear hW4
        go_wp2_with fail
        refine (unhide HPk _).mono ?_
        rintro e W4 ⟨rfl, hW4⟩
        obtain rfl : wr = W4 := hW4.symm
        clear hW4
        go_wp2_with fail
        refine (unhide HPt _).mono ?_
        rintro e W4 ⟨rfl, hW4⟩
        obtain rfl : wr = W4 := hW4.symm
        clear hW4 HNw HPk HPt
        go_wp2_with fail
        refine (unhide HA).mono ?_
        rintro e W5 ⟨g, m, L, X, Nd, Fs, rfl, hG, hL, hm, hlen, hfr, b5⟩
        have HG := hide hG
        have HKo : Hid (∀ k, k ∈ L → KyOk k) := fun k hk => unhide HKs k ((hm k).1 hk)
        have HB5 := hide ((unhide HBw).trans (b5.mono (unhide HBw).size))
        have HLl := hide hlen
        have HTt : Hid (((sortedI (X.map (·.1))).flatMap (edgesG L)).length ≤ 4000) := Nat.le_trans (edges_total (keys_nodup hL) (ids_nodup hG)) hlen
        clear hG hL hm hfr b5 HA HKs HBw hlen hpn hpt
        generalize refI C = S at *
        go_upto_if 68 with fail
        go_cut [14] (fun s14 wx => (∃ word, s14 = .string word) ∧ wx = W5)
        case first =>
          cases any
          all_goals
            go_wp2
            go_meet
            case rel => exact ⟨⟨_, rfl⟩, rfl⟩
        case rest =>
          obtain ⟨⟨word, rfl⟩, hwc⟩ := hcut
          obtain rfl : W5 = wc := hwc.symm
          clear hwc
          have hmm := unhide HMm
          have HB6 := hide (below_box W5 (.map #[] 0))
          have HEd0 := hide (edg_new W5)
          have HSp5 := hide ((unhide HG).spt (unhide HKo) (unhide HLl) word)
          have HEs := hide (edges_ok ((unhide HG).gx.below (unhide HB6)) (unhide HSp5).wf (unhide HSp5).len (edgesG L) (edges_of (unhide HG)) (unhide HTt))
          go_wp2_with fail
          refine (unhide HEs).mono ?_
          rintro e W7 ⟨v71, rfl, r7, b7⟩
          obtain ⟨ge, ad7, c7, rfl, hf7⟩ := r7.cells
          have hge : ∀ j, j < ((sortedI (X.map (·.1))).flatMap (edgesG L)).length → ge ≠ W5.heap.size := fun j hj => by
            intro e
            have q := (hf7 j hj).1
            rw [q] at r7
            have := (World.ownsRow.lt (show World.ownsRow _ _ _ _ _ _ _ from r7) ge rfl).1
            simp at this
            omega
          have HGe := hide hge
          have HF7 := hide hf7
          have HEd7 := hide ((unhide HEd0).below b7)
          have HB7 := hide ((unhide HB6).trans (b7.mono (unhide HB6).size))
          clear r7 b7 hf7 hge HEs HEd0 hmm HMm HB6
          have HEe : Hid (∀ k, k ∈ (sortedI (X.map (·.1))).flatMap (edgesG L) → k ∈ L) := fun k hk => edge_in hk
          obtain ⟨E, hE⟩ : ∃ E, E = (sortedI (X.map (·.1))).flatMap (edgesG L) := ⟨_, rfl⟩
          rw [← hE] at HGe HF7 HEe HTt
          rw [← hE]
          have HE := hide hE
          have hEl : E.length ≤ 4000 := unhide HTt
          clear hE HTt
          go_wp2
          go_loopw [73] (fun i y => ∃ j : Nat, j ≤ E.length ∧ i = .int .i64 j ∧ EdgW y W5.heap.size (pairsE (E.take j)) ∧ Keeps (fun i => i = W5.heap.size) W7 y) (fun i _ => E.length - numV i)
          case atStart => exact ⟨0, Nat.zero_le _, rfl, unhide HEd7, Keeps.refl _ _⟩
          case round =>
            clear HEd7
            revert wr
            intro wq hrel
            obtain ⟨j, hj, rfl, hEd, hK⟩ := hrel
            have HEd := hide hEd
            have HKp := hide hK
            clear hEd hK
            by_cases hjl : j < E.length
            · have hjl' : (j : Int) < (E.length : Int) := by omega
              have hj0 : (0 : Int) ≤ (j : Int) := by omega
              obtain ⟨rfl, c0, c1, c2, c3⟩ := unhide HF7 j hjl
              have hgn := unhide HGe j hjl
              have z0 := ((unhide HKp).cell (p := ⟨ge, j * 4, none⟩) (lt_of_cell c0) hgn).trans c0
              have z1 := ((unhide HKp).cell (p := ⟨ge, j * 4 + 1, none⟩) (lt_of_cell c1) hgn).trans c1
              have z2 := ((unhide HKp).cell (p := ⟨ge, j * 4 + 2, none⟩) (lt_of_cell c2) hgn).trans c2
              have z3 := ((unhide HKp).cell (p := ⟨ge, j * 4 + 3, none⟩) (lt_of_cell c3) hgn).trans c3
              have HPr := hide (pairs_take hjl)
              have hko := unhide HKo _ (unhide HEe _ (List.getElem_mem hjl))
              generalize E[j] = k at *
              have HPo : Hid (PairOk (k.a, k.b)) := ⟨hko.a, hko.b⟩
              have HBx := hide (below_box wq (.cells #[.int .i64 k.kind, .int .i64 k.a, .string k.word, .int .i64 k.b] 43))
              have HEx := hide ((unhide HEd).below (unhide HBx))
              have HPl : Hid ((pairsE (E.take j)).length ≤ 1000000) := by
                unfold Hid pairsE
                rw [List.length_map, List.length_take]
                omega
              clear c0 c1 c2 c3 hgn hko HEd
              go_wp2_with (first
                | (refine wpList_insP _ rfl (.tmp 77) (.tmp 82) (.const (.bool true)) (.inr rfl) W5.heap.size (pairsE (E.take j)) (k.a, k.b) rfl rfl rfl (unhide HEx) (unhide HPo) (unhide HPl) ?_; intro W8 he8 ht8))
              have HE8 : Hid (EdgW W8 W5.heap.size (pairsE (E.take (j + 1)))) := by
                unfold Hid
                rw [unhide HPr]
                exact he8
              have HK8 : Hid (Keeps (fun i => i = W5.heap.size) W7 W8) := ((unhide HKp).then (Keeps.of_below (fun i => i = W5.heap.size) (unhide HBx) (Nat.le_refl _)) (fun i _ q => q)).then (turned_keeps ht8) (fun i _ q => q)
              clear he8 ht8 HEx HPo HPl HPr z0 z1 z2 z3 HBx HKp
              go_roundw
              case rel => first | exact ⟨j + 1, by omega, by go_num, unhide HE8, unhide HK8⟩ | exact ⟨_, _, ⟨j + 1, by omega, by go_num, unhide HE8, unhide HK8⟩, rfl⟩
              case measure => simp [numV]; omega
            · have hjl' : ¬ (j : Int) < (E.length : Int) := by omega
              obtain rfl : j = E.length := by omega
              have hEq := unhide HEd
              rw [List.take_length] at hEq
              have hBq : Below W5.heap.size W5 wq := (unhide HB7).trans (keeps_below (unhide HKp) (fun i q => by rw [q]; exact Nat.le_refl _) (unhide HB7).size)
              have HEq := hide hEq
              have HNo := hide (nodes_ok ((unhide HG).gx.below hBq) (unhide HSp5).wf (unhide HSp5).len)
              have HBq := hide hBq
              clear hEq hBq HEd HKp HF7 HGe HB7 HEe
              go_wp2_with fail
              refine (unhide HNo).mono ?_
              rintro e W9 ⟨v18, rfl, r9, b9⟩
              have HG9 := hide (((unhide HG).below (unhide HBq)).below b9)
              have HE9 := hide ((unhide HEq).below b9)
              have hB59 : Below W5.heap.size W5 W9 := (unhide HBq).trans (b9.mono (unhide HBq).size)
              have HB9 := hide ((unhide HB5).trans (hB59.mono (unhide HB5).size))
              obtain ⟨gn, ad9, c9, rfl, hf9⟩ := r9.cells
              have HF9 := hide hf9
              have HIn : Hid (∀ b, b ∈ sortedI (X.map (·.1)) ↔ b ∈ nodesG L) := fun b => by rw [mem_sortedI, (unhide HG).ids]
              have HXl := hide (unhide HSp5).len
              have HCl := hide (unhide HSp5).closed
              clear r9 b9 hf9 HNo HEq HBq hB59 HG HSp5 HB5
              obtain ⟨N, hN⟩ : ∃ N, N = sortedI (X.map (·.1)) := ⟨_, rfl⟩
              have HNX : Hid (∀ b, b ∈ N → b ∈ X.map (·.1)) := fun b hb => by rw [hN] at hb; exact mem_sortedI.1 hb
              have HNl : Hid (N.length = X.length) := by unfold Hid; rw [hN, sortedI_length, List.length_map]
              have hnl : N.length ≤ 4000 := by rw [unhide HNl]; exact unhide HXl
              rw [← hN] at HF9 HIn HE
              rw [← hN]
              have HSt : Hid (∀ a c, a ∈ X.map (·.1) → c ∈ nxG L word a → (a, c) ∈ pairsE E) := fun a c ha hc => by
                rw [unhide HE]
                refine step_pair (unhide HIn) ?_ hc
                rw [← (unhide HG9).ids]
                exact ha
              clear hN HIn HE
              go_wp2
              go_loopw [88] (fun i y => ∃ j : Nat, j ≤ N.length ∧ i = .int .i64 j ∧ Below W9.heap.size W9 y) (fun i _ => N.length - numV i)
              case atStart => exact ⟨0, Nat.zero_le _, rfl, Below.refl _ _⟩
              case round =>
                revert wr
                intro wa hrel
                obtain ⟨j, hj, rfl, hba⟩ := hrel
                have HBa := hide hba
                clear hba
                by_cases hjl : j < N.length
                · as_aux_lemma =>
                    have hjl' : (j : Int) < (N.length : Int) := by omega
                    have hj0 : (0 : Int) ≤ (j : Int) := by omega
                    obtain ⟨rfl, hcx⟩ := unhide HF9 j hjl
                    have z0 := there_at hcx (unhide HBa)
                    have hx := unhide HNX _ (List.getElem_mem hjl)
                    generalize N[j] = x at *
                    have HX := hide hx
                    have HHo : Hid (Calls Tryz.prog 19 #[.pointer (some ⟨g, 0, none⟩), .int .i64 x, .string word, .int .i64 1048576] wa (HopsSay wa (cameK (nxG L word) x 1048576))) := hops_ok (((unhide HG9).below (unhide HBa)).spt (unhide HKo) (unhide HLl) word) x hx 1048576 (Nat.le_refl _)
                    have hcl : (cameK (nxG L word) x 1048576).length ≤ 4000 := by
                      have q := (Good.rounds (unhide HCl) hx 1048576).len
                      rw [List.length_map] at q
                      unfold cameK
                      rw [List.length_map]
                      have := unhide HXl
                      omega
                    have HCl2 := hide hcl
                    clear hcx hx hcl
                    go_wp2_with fail
                    refine (unhide HHo).mono ?_
                    rintro e Wb ⟨vb, rfl, rb, bb⟩
                    have HRb := hide rb
                    have HIx : Hid (Calls Tryz.prog 18 #[vb, .int .i64 x] Wb fun e w' => e = .returned (.bool true) ∧ w' = Wb) := by
                      have q := is_ok rb (by rw [sortedI_length]; have := unhide HCl2; omega) x
                      rw [decide_eq_true (mem_sortedI.2 (self_in _ _ _))] at q
                      exact q
                    have HBb := hide ((unhide HBa).trans (bb.mono (unhide HBa).size))
                    obtain ⟨adb, cb, rfl⟩ := row_slice (show World.ownsRow _ _ _ _ _ _ _ from rb)
                    clear rb bb HHo z0
                    go_wp2_with fail
                    refine (unhide HIx).mono ?_
                    rintro e Wb' ⟨rfl, hWb⟩
                    obtain rfl : Wb = Wb' := hWb.symm
                    clear hWb HIx
                    go_wp2
                    go_loopw [110] (fun i y => ∃ j2 : Nat, j2 ≤ N.length ∧ i = .int .i64 j2 ∧ Below Wb.heap.size Wb y) (fun i _ => N.length - numV i)
                    case atStart => exact ⟨0, Nat.zero_le _, rfl, Below.refl _ _⟩
                    case round =>
                      revert wr
                      intro wc2 hrel
                      obtain ⟨j2, hj2, rfl, hbc⟩ := hrel
                      have HBc := hide hbc
                      have HB9c := hide ((unhide HBb).trans (hbc.mono (unhide HBb).size))
                      clear hbc
                      by_cases hj2l : j2 < N.length
                      · have hj2l' : (j2 : Int) < (N.length : Int) := by omega
                        have hj20 : (0 : Int) ≤ (j2 : Int) := by omega
                        obtain ⟨_, hcy⟩ := unhide HF9 j2 hj2l
                        have z1 := there_at hcy (unhide HB9c)
                        have hy := unhide HNX _ (List.getElem_mem hj2l)
                        generalize N[j2] = y at *
                        have hal := all_is (nx := nxG L word) (unhide HX) (unhide HCl) (by rw [List.length_map]; have := unhide HXl; omega)
                        rw [List.length_map] at hal
                        have HSpc := hide (((unhide HG9).below (unhide HB9c)).spt (unhide HKo) (unhide HLl) word)
                        have HY := hide hy
                        clear hcy hy
                        by_cases hyc : y ∈ cameK (nxG L word) x X.length
                        · obtain ⟨i, wy, hi, hw⟩ := way_or _ x y X.length hyc
                          have HWy := hide (way_ok (unhide HSpc) x y (unhide HX) (unhide HY) i wy hw hi)
                          have hi4 : i ≤ 4000 := Nat.le_trans hi (unhide HXl)
                          have HW := hide hw
                          have HYc := hide hyc
                          clear hw hyc hi
                          go_wp2_with fail
                          refine (unhide HWy).mono ?_
                          rintro e Wd ⟨vd, rfl, rd, bd⟩
                          obtain ⟨gw, adw, cw, rfl, hfw⟩ := rd.cells
                          have hwl : wy.length = i + 1 := (unhide HW).len
                          obtain ⟨rfl, hc0⟩ := hfw 0 (by omega)
                          obtain ⟨_, hci⟩ := hfw i (by omega)
                          have hv0 : wy[0]'(by omega) = x := by
                            have q := (unhide HW).first
                            rw [List.getElem?_eq_getElem (by omega)] at q
                            exact Option.some.inj q
                          have hvi : wy[i]'(by omega) = y := by
                            have q := (unhide HW).last
                            rw [List.getElem?_eq_getElem (by omega)] at q
                            exact Option.some.inj q
                          rw [hv0] at hc0
                          rw [hvi] at hci
                          have HFw : Hid (∀ k a, wy[k]? = some a → Wd.cell? ⟨gw, k, none⟩ = some (.int .i64 a)) := fun k a hk => by
                            have hkl : k < wy.length := by
                              rcases Nat.lt_or_ge k wy.length with z | z
                              · exact z
                              · rw [List.getElem?_eq_none z] at hk; cases hk
                            rw [List.getElem?_eq_getElem hkl] at hk
                            have := (hfw k hkl).2
                            rw [Option.some.inj hk] at this
                            exact this
                          have hdr : ∀ n, Below Wd.heap.size Wd (Wd.drewN n) := fun n => ⟨rfl, rfl, rfl, Nat.le_refl _, fun _ _ => rfl⟩
                          have HIy : Hid (∀ n, Calls Tryz.prog 18 #[.slice adb (sortedI (cameK (nxG L word) x 1048576)).length cb, .int .i64 y] (Wd.drewN n) fun e w' => e = .returned (.bool true) ∧ w' = Wd.drewN n) := fun n => by
                            have q := is_ok ((((unhide HRb).carry (unhide HBc)).carry bd).carry (hdr n)) (by rw [sortedI_length]; have := unhide HCl2; omega) y
                            rw [decide_eq_true (mem_sortedI.2 (by rw [hal]; exact unhide HYc))] at q
                            exact q
                          have hbe : ∀ n, Below Wb.heap.size Wb (Wd.drewN n) := fun n => ((unhide HBc).trans (bd.mono (unhide HBc).size)).trans ((hdr n).mono ((unhide HBc).trans (bd.mono (unhide HBc).size)).size)
                          have HBn := hide hbe
                          have HDr := hide hdr
                          obtain ⟨nw, hnw⟩ : ∃ nw, nw = wy.length := ⟨_, rfl⟩
                          rw [← hnw]
                          have hn1 : ¬ (nw : Int) < 1 := by omega
                          have hn2 : (0 : Int) ≤ (i : Int) := by omega
                          have hn3 : (i : Int) < (nw : Int) := by omega
                          have hn4 : nw ≤ 4001 := by omega
                          have hn6 : (0 : Int) < (nw : Int) := by omega
                          have hsub : (nw : Int) - 1 = (i : Int) := by omega
                          have HNw : Hid (nw = i + 1) := by show nw = i + 1; omega
                          have HC0 := hide hc0
                          have HCi := hide hci
                          clear hfw rd hv0 hvi hc0 hci hwl hnw HWy HSpc z1 bd hbe hdr HBc HB9c hal
                          go_wp2
                          go_quiet (first | (go_at_call 18; exact Calls.quiet_of_same (unhide HIy _)))
                          generalize hWe : Wd.drewN _ = We
                          have HBe : Hid (Below Wb.heap.size Wb We) := by rw [← hWe]; exact unhide HBn _
                          have HFe : Hid (∀ k a, wy[k]? = some a → We.cell? ⟨gw, k, none⟩ = some (.int .i64 a)) := fun k a hk => by rw [← hWe]; exact there_at (unhide HFw k a hk) (unhide HDr _)
                          have d0 : We.cell? ⟨gw, 0, none⟩ = some (.int .i64 x) := by rw [← hWe]; exact there_at (unhide HC0) (unhide HDr _)
                          have di : We.cell? ⟨gw, i, none⟩ = some (.int .i64 y) := by rw [← hWe]; exact there_at (unhide HCi) (unhide HDr _)
                          clear hWe HIy HBn HDr HC0 HCi HFw
                          have hd1 : decide ((nw : Int) < 1) = false := decide_eq_false (by omega)
                          go_upto_region 43 with fail
                          clear d0 di hd1 hn1
                          have HB9e := hide ((unhide HBb).trans ((unhide HBe).mono (unhide HBb).size))
                          have HEde := hide ((unhide HE9).below (unhide HB9e))
                          go_wp2
                          go_loopw [28] (fun k z => ∃ q : Nat, 1 ≤ q ∧ q ≤ nw ∧ k = .int .i64 (q : Nat) ∧ Below We.heap.size We z) (fun k _ => nw - numV k)
                          case atStart => exact ⟨1, Nat.le_refl _, by have := unhide HNw; omega, rfl, Below.refl _ _⟩
                          case round =>
                            revert wr
                            intro wz hrel
                            obtain ⟨q, hq1, hqn, rfl, hbz⟩ := hrel
                            have HBz := hide hbz
                            clear hbz
                            by_cases hql : q < nw
                            · have hql' : (q : Int) < (nw : Int) := by omega
                              obtain ⟨p, hp⟩ : ∃ p, q = p + 1 := ⟨q - 1, by omega⟩
                              have hpi : p < i := by have := unhide HNw; omega
                              have hp1 : p < wy.length := by have := (unhide HW).len; omega
                              have hp2 : p + 1 < wy.length := by have := (unhide HW).len; omega
                              have e1 : wy[p]? = some wy[p] := List.getElem?_eq_getElem hp1
                              have e2 : wy[p + 1]? = some wy[p + 1] := List.getElem?_eq_getElem hp2
                              have hst := ((unhide HW).step p _ _ hpi e1 e2).1
                              have hon := (Good.rounds (unhide HCl) (unhide HX) p).ring _ ((unhide HW).on p _ e1)
                              have c1 := there_at (unhide HFe p _ e1) (unhide HBz)
                              have c2 := there_at (unhide HFe (p + 1) _ e2) (unhide HBz)
                              have hpr := unhide HSt _ _ hon hst
                              generalize wy[p] = a at *
                              generalize wy[p + 1] = c at *
                              have hlk := (((unhide HEde).below (unhide HBz)).below (below_drew wz)).look (a, c) hpr
                              have hsb : (q : Int) - 1 = (p : Int) := by omega
                              have hp0 : (0 : Int) ≤ (p : Int) := by omega
                              have hpn : (p : Int) < (nw : Int) := by omega
                              have hq0 : (0 : Int) ≤ (q : Int) := by omega
                              rw [← hp] at c2
                              have HBd := hide ((unhide HBz).trans ((below_drew wz).mono (unhide HBz).size))
                              have hqb : q ≤ 5000 := by omega
                              have hpb : p ≤ 5000 := by omega
                              have hwr : IntKind.i64.wrap (p : Int) = (p : Int) := by rw [IntKind.wrap_i64]; omega
                              clear e1 e2 hst hon hpr hp1 hp2 hp hpi HBz hsub
                              dsimp only at hlk
                              go_wp2
                              refine wp_region_tail (fun x => x = wz.drew) 12 (by kernel_rfl) (by kernel_rfl) rfl (fun hHeld => ?_)
                              refine wpAnyH_take (i := 0) (oi := ?to0_1) (v := ?tv0_1) ?th0_1 (by kernel_rfl) (by kernel_rfl) (by kernel_rfl) ?tq0_1 (Or.inl ⟨?tw0_1, ?ty0_1⟩) (by assumption) ?tr0_1
                              case th0_1 => (simp only [List.getElem?_toArray, List.getElem?_cons_zero]; rfl)
                              case tq0_1 => exact fun _ _ _ h => h
                              case tw0_1 => rfl
                              case ty0_1 => (intro w' hSw; (try dsimp only at hSw); go_simp <;> with_reducible rfl)
                              try simp only [Act.put, List.setIfInBounds_toArray, List.set_cons_zero, List.set_cons_succ]
                              refine wpAnyH_take (i := 1) (oi := ?to1_1) (v := ?tv1_1) ?th1_1 (by kernel_rfl) (by kernel_rfl) (by kernel_rfl) ?tq1_1 (Or.inl ⟨?tw1_1, ?ty1_1⟩) (by assumption) ?tr1_1
                              case th1_1 => (simp only [List.getElem?_toArray, List.getElem?_cons_zero, List.getElem?_cons_succ]; rfl)
                              case tq1_1 => exact fun _ _ _ h => h
                              case tw1_1 => rfl
                              case ty1_1 => (intro w' hSw; (try dsimp only at hSw); go_simp <;> with_reducible rfl)
                              try simp only [Act.put, List.setIfInBounds_toArray, List.set_cons_zero, List.set_cons_succ]
                              refine wpAnyH_take (i := 2) (oi := ?to2_1) (v := ?tv2_1) ?th2_1 (by kernel_rfl) (by kernel_rfl) (by kernel_rfl) ?tq2_1 (Or.inl ⟨?tw2_1, ?ty2_1⟩) (by assumption) ?tr2_1
                              case th2_1 => (simp only [List.getElem?_toArray, List.getElem?_cons_zero, List.getElem?_cons_succ]; rfl)
                              case tq2_1 => exact fun _ _ _ h => h
                              case tw2_1 => rfl
                              case ty2_1 => (intro w' hSw; (try dsimp only at hSw); go_simp <;> with_reducible rfl)
                              try simp only [Act.put, List.setIfInBounds_toArray, List.set_cons_zero, List.set_cons_succ]
                              refine wpAnyH_take (i := 3) (oi := ?to3_1) (v := ?tv3_1) ?th3_1 (by kernel_rfl) (by kernel_rfl) (by kernel_rfl) ?tq3_1 (Or.inl ⟨?tw3_1, ?ty3_1⟩) (by assumption) ?tr3_1
                              case th3_1 => (simp only [List.getElem?_toArray, List.getElem?_cons_zero, List.getElem?_cons_succ]; rfl)
                              case tq3_1 => exact fun _ _ _ h => h
                              case tw3_1 => rfl
                              case ty3_1 => (intro w' hSw; (try dsimp only at hSw); go_simp <;> with_reducible rfl)
                              try simp only [Act.put, List.setIfInBounds_toArray, List.set_cons_zero, List.set_cons_succ]
                              refine wpAnyH_take (i := 4) (oi := ?to4_1) (v := ?tv4_1) ?th4_1 (by kernel_rfl) (by kernel_rfl) (by kernel_rfl) ?tq4_1 (Or.inl ⟨?tw4_1, ?ty4_1⟩) (by assumption) ?tr4_1
                              case th4_1 => (simp only [List.getElem?_toArray, List.getElem?_cons_zero, List.getElem?_cons_succ]; rfl)
                              case tq4_1 => exact fun _ _ _ h => h
                              case tw4_1 => rfl
                              case ty4_1 => (intro w' hSw; (try dsimp only at hSw); go_simp <;> with_reducible rfl)
                              try simp only [Act.put, List.setIfInBounds_toArray, List.set_cons_zero, List.set_cons_succ]
                              refine wpAnyH_take (i := 5) (oi := ?to5_1) (v := ?tv5_1) ?th5_1 (by kernel_rfl) (by kernel_rfl) (by kernel_rfl) ?tq5_1 (Or.inl ⟨?tw5_1, ?ty5_1⟩) (by assumption) ?tr5_1
                              case th5_1 => (simp only [List.getElem?_toArray, List.getElem?_cons_zero, List.getElem?_cons_succ]; rfl)
                              case tq5_1 => exact fun _ _ _ h => h
                              case tw5_1 => rfl
                              case ty5_1 => (intro w' hSw; (try dsimp only at hSw); go_simp <;> with_reducible rfl)
                              try simp only [Act.put, List.setIfInBounds_toArray, List.set_cons_zero, List.set_cons_succ]
                              refine wpAnyH_take (i := 6) (oi := ?to6_1) (v := ?tv6_1) ?th6_1 (by kernel_rfl) (by kernel_rfl) (by kernel_rfl) ?tq6_1 (Or.inl ⟨?tw6_1, ?ty6_1⟩) (by assumption) ?tr6_1
                              case th6_1 => (simp only [List.getElem?_toArray, List.getElem?_cons_zero, List.getElem?_cons_succ]; rfl)
                              case tq6_1 => exact fun _ _ _ h => h
                              case tw6_1 => rfl
                              case ty6_1 => (intro w' hSw; (try dsimp only at hSw); go_simp <;> with_reducible rfl)
                              try simp only [Act.put, List.setIfInBounds_toArray, List.set_cons_zero, List.set_cons_succ]
                              refine wpAnyH_take (i := 7) (oi := ?to7_1) (v := ?tv7_1) ?th7_1 (by kernel_rfl) (by kernel_rfl) (by kernel_rfl) ?tq7_1 (Or.inl ⟨?tw7_1, ?ty7_1⟩) (by assumption) ?tr7_1
                              case th7_1 => (simp only [List.getElem?_toArray, List.getElem?_cons_zero, List.getElem?_cons_succ]; rfl)
                              case tq7_1 => exact fun _ _ _ h => h
                              case tw7_1 => rfl
                              case ty7_1 => (intro w' hSw; (try dsimp only at hSw); go_simp <;> with_reducible rfl)
                              try simp only [Act.put, List.setIfInBounds_toArray, List.set_cons_zero, List.set_cons_succ]
                              refine wpAnyH_take (i := 8) (oi := ?to8_1) (v := ?tv8_1) ?th8_1 (by kernel_rfl) (by kernel_rfl) (by kernel_rfl) ?tq8_1 (Or.inl ⟨?tw8_1, ?ty8_1⟩) (by assumption) ?tr8_1
                              case th8_1 => (simp only [List.getElem?_toArray, List.getElem?_cons_zero, List.getElem?_cons_succ]; rfl)
                              case tq8_1 => exact fun _ _ _ h => h
                              case tw8_1 => rfl
                              case ty8_1 => (intro w' hSw; (try dsimp only at hSw); go_simp <;> with_reducible rfl)
                              try simp only [Act.put, List.setIfInBounds_toArray, List.set_cons_zero, List.set_cons_succ]
                              refine wpAnyH_take (i := 9) (oi := ?to9_1) (v := ?tv9_1) ?th9_1 (by kernel_rfl) (by kernel_rfl) (by kernel_rfl) ?tq9_1 (Or.inl ⟨?tw9_1, ?ty9_1⟩) (by assumption) ?tr9_1
                              case th9_1 => (simp only [List.getElem?_toArray, List.getElem?_cons_zero, List.getElem?_cons_succ]; rfl)
                              case tq9_1 => exact fun _ _ _ h => h
                              case tw9_1 => rfl
                              case ty9_1 => (intro w' hSw; (try dsimp only at hSw); go_simp <;> with_reducible rfl)
                              try simp only [Act.put, List.setIfInBounds_toArray, List.set_cons_zero, List.set_cons_succ]
                              refine wpAnyH_take (i := 10) (oi := ?to10_1) (v := ?tv10_1) ?th10_1 (by kernel_rfl) (by kernel_rfl) (by kernel_rfl) ?tq10_1 (Or.inl ⟨?tw10_1, ?ty10_1⟩) (by assumption) ?tr10_1
                              case th10_1 => (simp only [List.getElem?_toArray, List.getElem?_cons_zero, List.getElem?_cons_succ]; rfl)
                              case tq10_1 => exact fun _ _ _ h => h
                              case tw10_1 => rfl
                              case ty10_1 => (intro w' hSw; (try dsimp only at hSw); go_simp <;> with_reducible rfl)
                              try simp only [Act.put, List.setIfInBounds_toArray, List.set_cons_zero, List.set_cons_succ]
                              refine wpAnyH_take (i := 11) (oi := ?to11_1) (v := ?tv11_1) ?th11_1 (by kernel_rfl) (by kernel_rfl) (by kernel_rfl) ?tq11_1 (Or.inl ⟨?tw11_1, ?ty11_1⟩) (by assumption) ?tr11_1
                              case th11_1 => (simp only [List.getElem?_toArray, List.getElem?_cons_zero, List.getElem?_cons_succ]; rfl)
                              case tq11_1 => exact fun _ _ _ h => h
                              case tw11_1 => rfl
                              case ty11_1 => (intro w' hSw; (try dsimp only at hSw); go_simp <;> with_reducible rfl)
                              try simp only [Act.put, List.setIfInBounds_toArray, List.set_cons_zero, List.set_cons_succ]
                              refine wpAnyH_done (by kernel_rfl) ?_ _
                              show wpList _ _ _ _ _ _
                              clear hHeld hlk c1 c2
                              generalize wz.drew = wz' at *
                              go_wp2
                              go_roundw
                              case rel => exact ⟨q + 1, by omega, by omega, by go_num, unhide HBd⟩
                              case measure => simp [numV]; omega
                            · have hql' : ¬ (q : Int) < (nw : Int) := by omega
                              obtain rfl : q = nw := by omega
                              have hb9z : Below W9.heap.size W9 wz := (unhide HB9e).trans ((unhide HBz).mono (unhide HB9e).size)
                              have HHn := hide (hops_ok (((unhide HG9).below hb9z).spt (unhide HKo) (unhide HLl) word) x (unhide HX) i (by omega))
                              have hcn : (cameK (nxG L word) x i).length ≤ 4000 := by
                                have z := (Good.rounds (unhide HCl) (unhide HX) i).len
                                rw [List.length_map] at z
                                unfold cameK
                                rw [List.length_map]
                                have := unhide HXl
                                omega
                              have HB9z := hide hb9z
                              have HBbz := hide ((unhide HBe).trans ((unhide HBz).mono (unhide HBe).size))
                              clear hb9z HBz HB9e HBe HEde HFe
                              go_wp2_with fail
                              refine (unhide HHn).mono ?_
                              rintro e Wf ⟨vf, rfl, rf, bf⟩
                              have HIn : Hid (Calls Tryz.prog 18 #[vf, .int .i64 y] Wf fun e w' => e = .returned (.bool true) ∧ w' = Wf) := by
                                have z := is_ok rf (by rw [sortedI_length]; omega) y
                                rw [decide_eq_true (mem_sortedI.2 (unhide HW).near)] at z
                                exact z
                              have hb9f : Below W9.heap.size W9 Wf := (unhide HB9z).trans (bf.mono (unhide HB9z).size)
                              have HB9f := hide hb9f
                              have HBbf := hide ((unhide HBbz).trans (bf.mono (unhide HBbz).size))
                              obtain ⟨adf, cf, rfl⟩ := row_slice (show World.ownsRow _ _ _ _ _ _ _ from rf)
                              clear rf bf hb9f HB9z HBbz HHn
                              go_wp2_with fail
                              refine (unhide HIn).mono ?_
                              rintro e Wf' ⟨rfl, hWf⟩
                              obtain rfl : Wf = Wf' := hWf.symm
                              clear hWf HIn
                              by_cases hi0 : i = 0
                              · have hd2 : decide ((1 : Int) < (q : Int)) = false := decide_eq_false (by omega)
                                have hd3 : ¬ (1 : Int) < (q : Int) := by omega
                                clear hsub hn3
                                go_wp2
                                go_roundw
                                case rel => exact ⟨j2 + 1, by omega, by go_num, unhide HBbf⟩
                                case measure => simp [numV]; omega
                              · obtain ⟨i', rfl⟩ : ∃ i', i = i' + 1 := ⟨i - 1, by omega⟩
                                have hd2 : decide ((1 : Int) < (q : Int)) = true := decide_eq_true (by omega)
                                have hd3 : (1 : Int) < (q : Int) := by omega
                                have hsub2 : (q : Int) - 2 = (i' : Int) := by omega
                                have HHl := hide (hops_ok (((unhide HG9).below (unhide HB9f)).spt (unhide HKo) (unhide HLl) word) x (unhide HX) i' (by omega))
                                have hcl2 : (cameK (nxG L word) x i').length ≤ (cameK (nxG L word) x (i' + 1)).length := came_len _ _ _
                                have HNl2 : Hid (y ∉ cameK (nxG L word) x i') := (unhide HW).less
                                clear hsub
                                go_wp2_with fail
                                refine (unhide HHl).mono ?_
                                rintro e Wg ⟨vg, rfl, rg, bg⟩
                                have HIl : Hid (Calls Tryz.prog 18 #[vg, .int .i64 y] Wg fun e w' => e = .returned (.bool false) ∧ w' = Wg) := by
                                  have z := is_ok rg (by rw [sortedI_length]; omega) y
                                  rw [decide_eq_false (fun z => unhide HNl2 (mem_sortedI.1 z))] at z
                                  exact z
                                have HBbg := hide ((unhide HBbf).trans (bg.mono (unhide HBbf).size))
                                obtain ⟨adg, cg, rfl⟩ := row_slice (show World.ownsRow _ _ _ _ _ _ _ from rg)
                                rw [← sortedI_length (cameK (nxG L word) x i'), ← sortedI_length (cameK (nxG L word) x (i' + 1))] at hcl2
                                clear rg bg HHl HBbf HB9f HNl2 hcn
                                generalize (sortedI (cameK (nxG L word) x i')).length = lg at *
                                generalize (sortedI (cameK (nxG L word) x (i' + 1))).length = lf at *
                                have HD4 : Hid (¬ (lf : Int) < (lg : Int)) := by show ¬ _; omega
                                clear hcl2
                                go_wp2_with fail
                                refine (unhide HIl).mono ?_
                                rintro e Wg' ⟨rfl, hWg⟩
                                obtain rfl : Wg = Wg' := hWg.symm
                                clear hWg HIl
                                have hd4 : decide (lf < lg) = false := decide_eq_false (by have := unhide HD4; omega)
                                have hd5 : ¬ lf < lg := by have := unhide HD4; omega
                                clear HD4 hsub2 hd2 hd3 hn2 hn3 hn6 hi0 hqn hq1 hql hql'
                                go_wp2
                                go_roundw
                                case rel => exact ⟨j2 + 1, by omega, by go_num, unhide HBbg⟩
                                case measure => simp [numV]; omega
                        · have HWn := hide (way_none (unhide HSpc) x y (unhide HX) (unhide HY) hyc)
                          have HNy : Hid (¬ y ∈ cameK (nxG L word) x 1048576) := by unfold Hid; rw [hal]; exact hyc
                          clear hyc hal
                          go_wp2_with fail
                          refine (unhide HWn).mono ?_
                          rintro e Wd ⟨rfl, bd⟩
                          have hdr : ∀ n, Below Wd.heap.size Wd (Wd.drewN n) := fun n => ⟨rfl, rfl, rfl, Nat.le_refl _, fun _ _ => rfl⟩
                          have HIy : Hid (∀ n, Calls Tryz.prog 18 #[.slice adb (sortedI (cameK (nxG L word) x 1048576)).length cb, .int .i64 y] (Wd.drewN n) fun e w' => e = .returned (.bool false) ∧ w' = Wd.drewN n) := fun n => by
                            have q := is_ok ((((unhide HRb).carry (unhide HBc)).carry bd).carry (hdr n)) (by rw [sortedI_length]; have := unhide HCl2; omega) y
                            rw [decide_eq_false (fun z => unhide HNy (mem_sortedI.1 z))] at q
                            exact q
                          have hbe : ∀ n, Below Wb.heap.size Wb (Wd.drewN n) := fun n => ((unhide HBc).trans (bd.mono (unhide HBc).size)).trans ((hdr n).mono ((unhide HBc).trans (bd.mono (unhide HBc).size)).size)
                          have HBn := hide hbe
                          clear bd hbe hdr HWn HSpc z1 HBc HB9c HNy
                          go_wp2
                          go_quiet (first | (go_at_call 18; exact Calls.quiet_of_same (unhide HIy _)))
                          generalize hWe : Wd.drewN _ = We
                          have hbe : Below Wb.heap.size Wb We := by rw [← hWe]; exact unhide HBn _
                          have hbw : Below w.heap.size w We := by
                            have q1 := (unhide HB9).trans ((unhide HBb).mono (unhide HB9).size)
                            exact q1.trans (hbe.mono q1.size)
                          have HTl := hide (Tell_errno 8 We (there_at (unhide HEr) hbw))
                          have HBe := hide hbe
                          clear hWe HIy HBn hbe hbw
                          go_wp2_with fail
                          refine (unhide HTl).mono ?_
                          rintro e Wf ⟨rfl, bf⟩
                          have HBf := hide ((unhide HBe).trans (bf.mono (unhide HBe).size))
                          clear bf HTl HBe
                          go_wp2
                          go_roundw
                          case rel => exact ⟨j2 + 1, by omega, by go_num, unhide HBf⟩
                          case measure => simp [numV]; omega
                      · have hj2l' : ¬ (j2 : Int) < (N.length : Int) := by omega
                        have HR : Hid (Below W9.heap.size W9 wc2) := unhide HB9c
                        clear HBc HB9c
                        go_wp2
                        go_roundw
                        case rel => exact ⟨j + 1, by omega, by go_num, unhide HR⟩
                        case measure => simp [numV]; omega
                · have hjl' : ¬ (j : Int) < (N.length : Int) := by omega
                  have HR : Hid (Below w.heap.size w wa) := (unhide HB9).trans ((unhide HBa).mono (unhide HB9).size)
                  go_wp2
                  go_ret
                  exact ⟨rfl, unhide HR⟩
  · have hl' : (60 : Int) < (l.length : Int) := by omega
    clear hl
    go_enter Tryz.func3, Tryz.ntmps3
    go_wp2
    go_ret
    exact ⟨rfl, Below.refl _ _⟩

end Go.Proofs.YtbloahcmakjchabGreatDoor
