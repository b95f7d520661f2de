/- The document's reading, walked. -/
import Derived.Test.YtcgdmehdocaooaaGreatDoorRn3
namespace Go.Proofs.YtcgdmehdocaooaaGreatDoor
open Go.RowKit

/-- What the document's reading gives. -/
def RefReadSays (s : ByteArray) (w : World) (e : Ending) (w' : World) : Prop :=
  ((∃ (q : List Fop) (v : Value), okL q ∧ s.data.toList = opsL q ∧ e = .returned (.tuple #[v, .int .i64 0]) ∧ ReadsOps w' v q) ∨
   ((∀ q, okL q → s.data.toList ≠ opsL q) ∧ e = .returned (.tuple #[.slice none 0 0, .int .i64 3]))) ∧ Below w.heap.size w w'

set_option maxRecDepth 100000 in
set_option maxHeartbeats 2000000 in
theorem ref_Read (s : ByteArray) (w : World) (hs : s.size ≤ 800) (hl : Libs w) (ht : Tab w) :
    Calls Tryz.prog 4 #[.string s] w (RefReadSays s w) := by
  have HSP := hide (split_pieces s w (by omega) hl)
  have hple := piecesR_le s
  have hpsm : ∀ p, p ∈ piecesR s → p.size ≤ 800 := fun p hp => Nat.le_trans (split_small _ _ _ p hp) hs
  have HQ := hide (refOps_of s)
  have HSM := hide (refOps_small s (by omega))
  unfold refOps at HQ HSM
  have HPA := hide (split_at w (piecesR s))
  have hps1 : 1 ≤ (piecesR s).length := by rw [piecesR_len]; omega
  generalize piecesR s = ps at *
  have HL := hide hl
  have HT := hide ht
  have HPS := hide hpsm
  clear hl ht hpsm
  have hn : ps.length ≤ 801 := by omega
  clear hple
  go_enter Tryz.func4, Tryz.ntmps4
  go_wp2_with fail
  refine (unhide HSP).mono ?_
  rintro e w1 ⟨rfl, hw1⟩
  have hz1 : w1.heap.size = w.heap.size + 1 := by rw [hw1]; simp
  have hB1 : Below w.heap.size w w1 := by rw [hw1]; exact (Below.refl _ _).alloc (Nat.le_refl _) _
  rw [← hw1] at HPA
  have HB1 := hide hB1
  have HZ1 := hide hz1
  clear hw1 hB1 HSP hz1
  go_wp2
  go_loopw [4, 14] (fun t i x => ∃ k : Nat, k ≤ ps.length ∧ i = .int .i64 k ∧ x.ownsRow w1.heap.size 44 7 t ((ps.take k).map refOp).length (cellsL ((ps.take k).map refOp)) ∧ Below w1.heap.size w1 x) (fun _ i _ => ps.length - (intOf i).toNat)
  case atStart => exact ⟨0, Nat.zero_le _, rfl, by simpa [cellsL] using World.ownsRow_nil _ _ _ _, Below.refl _ _⟩
  case round =>
    obtain ⟨k, hk, rfl, hown, hb⟩ := hrel
    by_cases hlt : k < ps.length
    · have hlt' : (k : Int) < (ps.length : Int) := by omega
      have hBr := (unhide HB1).trans (hb.mono (unhide HB1).size)
      have c0 : wr.cell? ⟨w.heap.size, k, none⟩ = some (.string ps[k]) := by

        exact ((unhide HPA).carry hb) k _ (List.getElem?_eq_getElem hlt)
      have hpk := unhide HPS _ (List.getElem_mem hlt)
      have HS2 := hide (split_words ps[k] wr (by omega) ((unhide HL).carry hBr))
      have htk : ps.take (k + 1) = ps.take k ++ [ps[k]] := List.take_succ_eq_append_getElem hlt
      have HTK : Hid ((ps.take (k + 1)).map refOp = (ps.take k).map refOp ++ [refOp ps[k]]) := by unfold Hid; rw [htk, List.map_append]; rfl
      have HL1 := hide ((unhide HL).carry (unhide HB1))
      have HT1 := hide ((unhide HT).carry (unhide HB1))
      have hLk : ((ps.take k).map refOp).length ≤ 1000 := by simp; omega
      have HO := hide hown
      have HB := hide hb
      clear hown hb htk HQ HSM HPA HL HT HPS HB1 hBr
      have hF : ∃ F, F = (ps.take k).map refOp := ⟨_, rfl⟩
      obtain ⟨F, hF⟩ := hF
      rw [← hF] at HO HTK hLk
      clear hF
      generalize hp : ps[k] = p at *
      clear hp
      go_wp2_with fail
      refine (unhide HS2).mono ?_
      rintro e w2 ⟨rfl, hw2⟩
      have hws : (wordsR p).length ≤ 801 := Nat.le_trans (wordsR_le p) (by omega)
      have O2 : Hid (w2.ownsRow wr.heap.size 9 1 (.slice (some ⟨wr.heap.size, 0, none⟩) (wordsR p).length (wordsR p).length) (wordsR p).length ((wordsR p).map Value.string)) := by
        unfold Hid
        rw [hw2]
        exact split_row wr _ (by unfold maxLen; omega)
      have B2 : Hid (Below wr.heap.size wr w2) := by
        unfold Hid
        rw [hw2]
        exact (Below.refl _ _).alloc (Nat.le_refl _) _
      have hz2 : w2.heap.size = wr.heap.size + 1 := by rw [hw2]; simp
      have HWS := hide (words7_small p)
      have HTK' : Hid ((ps.take (k + 1)).map refOp = F ++ [opW (wordsR p ++ none7)]) := HTK
      clear hw2 HS2 HTK
      generalize wordsR p = ws at *
      have hws2 : ws.length ≤ 200000 := by omega
      have hbig : 7 ≤ (ws ++ none7).length ∧ (ws ++ none7).length ≤ 200000 := by simp [none7]; omega
      have hP : ∃ PS, PS = ws ++ none7 := ⟨_, rfl⟩
      obtain ⟨PS, hP⟩ := hP
      have HP := hide hP
      rw [← hP] at hbig HWS HTK'
      clear hP
      have HZ2 := hide hz2
      clear hz2
      go_wp2_with (at_builtin; refine wpList_app7 _ rfl (.tmp 19) (.tmp 20) rfl wr.heap.size _ ws rfl ((unhide O2).alloc _) w2.heap.size rfl ?c7 hws2 ?bs PS (unhide HP) ?_)
      case c7 => exact split_at w2 none7
      case bs => have := unhide HZ2; simp; omega
      intro g cap w3 k1 k2
      have B3 : Hid (Below wr.heap.size wr w3) := ((unhide B2).alloc (unhide B2).size _).grown k2 (by have := unhide HZ2; simp; omega) (fun j hj => by simp [Value.ownBlock] at hj; omega)
      have HGW : wr.heap.size ≤ g := by obtain ⟨_, _, e1, e2, _⟩ := k1.form (by omega); simp at e1; omega
      obtain ⟨g', cap', hv, hcap, hgl, hcells⟩ := own_cells k1 (fun e => by rw [e] at hbig; simp at hbig)
      obtain ⟨rfl, rfl⟩ : g = g' ∧ cap = cap' := by simpa using hv
      have HW3 : Hid (WordsAt w3 g PS) := fun j x hj => by have := hcells j x hj; rwa [Nat.zero_add] at this
      clear k1 k2 O2 B2 HZ2 hws hws2 hv hcap hcells HP
      have hwz := (unhide HB).size
      have hgw : wr.heap.size ≤ g := HGW
      have H4 : Hid (RHeld w3.heap.size g PS.length cap (PS.getD 2 ⟨#[]⟩) (PS.getD 6 ⟨#[]⟩) PS w1 (w3.alloc (.cells #[.slice (some ⟨g, 0, none⟩) PS.length cap] 33))) := by
        have hw := (unhide HW3).carry (below_box w3 (.cells #[.slice (some ⟨g, 0, none⟩) PS.length cap] 33))
        have hgetD : ∀ i, i < 7 → PS[i]? = some (PS.getD i ⟨#[]⟩) := fun i hi => by
          have : i < PS.length := by omega
          rw [List.getD_eq_getElem?_getD, List.getElem?_eq_getElem this, Option.getD_some]
        exact ⟨by simp, hw 2 _ (hgetD 2 (by decide)), hw 6 _ (hgetD 6 (by decide)), hw, ((unhide HB).trans ((unhide B3).mono hwz)).alloc (Nat.le_trans hwz (unhide B3).size) _⟩
      have O4 : Hid ((w3.alloc (.cells #[.slice (some ⟨g, 0, none⟩) PS.length cap] 33)).ownsRow w1.heap.size 44 7 u4 F.length (cellsL F)) := (ownsRow_carry (unhide HO) (unhide B3)).alloc _
      have HV : Hid (∀ j, u4.ownBlock = some j → w1.heap.size ≤ j ∧ j < wr.heap.size) := (unhide HO).lt
      have hBw : wr.heap.size ≤ w3.heap.size := (unhide B3).size
      have HPS := hide (fun q hq => Nat.le_trans (unhide HWS q hq) (show p.size ≤ 100000 by omega))
      have HNUM := hide (fun (x : World) (h : RHeld w3.heap.size g PS.length cap (PS.getD 2 ⟨#[]⟩) (PS.getD 6 ⟨#[]⟩) PS w1 x) (i : Int) (h0 : 0 ≤ i) (h1 : i < 7) => h.num (unhide HL1) (unhide HT1) (unhide HPS) rfl hbig.1 i h0 h1)
      have hi2 : (2 : Int) < (PS.length : Int) := by omega
      have hi6 : (6 : Int) < (PS.length : Int) := by omega
      have HOP : Hid (opW PS = ⟨nth PS 0, nth PS 1, textB (PS.getD 2 ⟨#[]⟩), nth PS 3, nth PS 4, nth PS 5, textB (PS.getD 6 ⟨#[]⟩)⟩) := rfl
      rw [unhide HOP] at HTK'
      have HNUM' : Hid (∀ (x : World), RHeld w3.heap.size g PS.length cap (PS.getD 2 ⟨#[]⟩) (PS.getD 6 ⟨#[]⟩) PS w1 x → ∀ i : Int, 0 ≤ i → i < 7 → Calls Tryz.prog 9 #[.int .i64 i, .pointer (some ⟨w3.heap.size, 0, none⟩)] x fun e w' => e = .returned (.int .i64 (nth PS i)) ∧ Below x.heap.size x w') := HNUM
      clear HNUM HOP HPS HWS hwz hgl HO HW3
      generalize PS.getD 2 ⟨#[]⟩ = p2 at *
      generalize PS.getD 6 ⟨#[]⟩ = p6 at *
      go_wp2
      generalize hw4 : w3.alloc (.cells #[.slice (some ⟨g, 0, none⟩) PS.length cap] 33) = w4 at *
      clear hw4
      have O4d : Hid (w4.drew.ownsRow w1.heap.size 44 7 u4 F.length (cellsL F)) := ownsRow_carry (unhide O4) (below_drew _)
      generalize hBx : w3.heap.size = B at *
      clear hBx
      go_region_held3 (fun x => x.cell? ⟨B, 0, none⟩ = some (.slice (some ⟨g, 0, none⟩) PS.length cap) ∧ x.cell? ⟨g, 2, none⟩ = some (.string p2) ∧ x.cell? ⟨g, 6, none⟩ = some (.string p6) ∧ WordsAt x g PS ∧ Below w1.heap.size w1 x)
        (first | exact RHeld.carry (unhide H4) (below_drew _) | exact unhide H4 | (refine RHeld.carry (by assumption) ?_; exact below_box _ _) | (refine RHeld.carry (by assumption) ?_; assumption) | (refine RHeld.grown (by assumption) (unhide HV) hBw hgw ?_; exact unhide (by assumption)) | assumption)
        (first
          | (go_at_call 9; refine (unhide HNUM' _ (by assumption) _ (by decide) (by decide)).mono ?_; rintro e w9 ⟨rfl, b9⟩; have hO9 := hide (ownsRow_carry (unhide (show Hid (World.ownsRow _ w1.heap.size 44 7 u4 F.length (cellsL F)) by assumption)) b9))
          | (go_at_call 11; refine (ref_plain _ _).mono ?_; rintro e w8 ⟨rfl, rfl⟩)
          | (refine step_appO _ _ _ _ _ _ _ _ _ (by rfl) (.tmp 23) (.tmp 45) (by rfl) w1.heap.size u4 F (by rfl) (by assumption) (by rfl) hLk (RHeld.size (B := B) (g := g) (m := PS.length) (cap := cap) (p2 := p2) (p6 := p6) (ps := PS) (by assumption)) ?_; intro v' wn k1 k2))
      rename_i hh
      have HBN : Hid (Below w1.heap.size w1 wn) := hh.2.2.2.2
      have HON : Hid (wn.ownsRow w1.heap.size 44 7 v' ((ps.take (k + 1)).map refOp).length (cellsL ((ps.take (k + 1)).map refOp))) := by unfold Hid; rw [unhide HTK']; exact k1
      clear k1 k2 hh H4 O4 O4d HV HNUM' HTK' HB B3 HL1 HT1 c0 hi2 hi6 hbig hgw hBw HGW
      go_wp2
      go_roundw
      case rel => exact ⟨k + 1, by omega, by go_num, unhide HON, unhide HBN⟩
      case measure => simp [intOf]; omega
    · have hlt' : ¬ (k : Int) < (ps.length : Int) := by omega
      obtain rfl : k = ps.length := by omega
      rw [List.take_length] at hown
      have hR := row_ops hown
      have hBr := (unhide HB1).trans (hb.mono (unhide HB1).size)
      have hLl : (ps.map refOp).length ≤ 1000 := by simp; omega
      have HW := hide (refw_any (ps.map refOp) u4 wr hLl (unhide HSM) hR ((unhide HT).carry hBr))
      obtain ⟨ad, cap, hu4, _⟩ := id hR
      have HR := hide hR
      have HBR := hide hBr
      clear hown hb hR hBr HSM HPA HL HT HPS HB1 HZ1
      generalize ps.map refOp = L at *
      subst hu4
      go_wp2_with fail
      refine (unhide HW).mono ?_
      rintro e w2 ⟨t, n, i, rfl, hcase, b2⟩
      have HR2 := hide ((unhide HR).carry b2)
      have HB2 := hide ((unhide HBR).trans (b2.mono (unhide HBR).size))
      clear HW HR HBR b2
      rcases hcase with ⟨hok, ht, rfl⟩ | ⟨hno, hn4⟩
      · by_cases hts : t.data.toList = s.data.toList
        · have h' : (t.toList == s.toList) = true := by rw [ByteArray.toList_eq, ByteArray.toList_eq]; simpa using hts
          have HOK : Hid (okL L ∧ s.data.toList = opsL L) := ⟨hok, by rw [← hts, ht]⟩
          clear hok ht hts HQ
          go_wp2
          go_ret2
          exact ⟨.inl ⟨L, .slice ad L.length cap, (unhide HOK).1, (unhide HOK).2, rfl, (unhide HR2).carry (below_box _ _)⟩, (unhide HB2).alloc (unhide HB2).size _⟩
        · have h' : (t.toList == s.toList) = false := by rw [ByteArray.toList_eq, ByteArray.toList_eq]; simpa using hts
          have HNO : Hid (∀ q, okL q → s.data.toList ≠ opsL q) := fun q hq e => hts (by rw [ht, e, unhide HQ q hq e])
          clear hok ht hts HQ
          go_wp2
          go_ret2
          exact ⟨.inr ⟨unhide HNO, rfl⟩, (unhide HB2).alloc (unhide HB2).size _⟩
      · have HNO : Hid (∀ q, okL q → s.data.toList ≠ opsL q) := fun q hq e => hno (by rw [unhide HQ q hq e]; exact hq)
        clear HQ hno
        rcases hn4 with rfl | rfl
        · go_wp2
          go_ret2
          exact ⟨.inr ⟨unhide HNO, rfl⟩, (unhide HB2).alloc (unhide HB2).size _⟩
        · go_wp2
          go_ret2
          exact ⟨.inr ⟨unhide HNO, rfl⟩, (unhide HB2).alloc (unhide HB2).size _⟩

end Go.Proofs.YtcgdmehdocaooaaGreatDoor
