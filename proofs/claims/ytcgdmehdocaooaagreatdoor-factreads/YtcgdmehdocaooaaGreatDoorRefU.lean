/- How changes are written: the document's own Write, its loop. -/
import Derived.Test.YtcgdmehdocaooaaGreatDoorRefT
namespace Go.Proofs.YtcgdmehdocaooaaGreatDoor
open Go.RowKit

/-- What the document's Write hands back where the first i changes may be, and none follows, or one that may not be. -/
def RefWrote (w : World) (l : List Fop) (i : Nat) (e : Ending) (w' : World) : Prop :=
  Below w.heap.size w w' ∧ ((i = l.length ∧ e = .returned (.tuple #[.string ⟨(opsL l).toArray⟩, .agg #[.int .i64 0, .int .i64 (-1)]])) ∨ (i < l.length ∧ e = .returned (.tuple #[.string ⟨#[]⟩, .agg #[.int .i64 1, .int .i64 i]])))

theorem plus_size : (⟨#[43]⟩ : ByteArray).size = 1 := rfl

theorem two_set (w : World) (B : Nat) (x y u v : Value) (h0 : w.cell? ⟨B, 0, none⟩ = some u) (h1 : w.cell? ⟨B, 1, none⟩ = some v) :
    ((w.setCell ⟨B, 0, none⟩ x).setCell ⟨B, 1, none⟩ y).cell? ⟨B, 0, none⟩ = some x ∧ ((w.setCell ⟨B, 0, none⟩ x).setCell ⟨B, 1, none⟩ y).cell? ⟨B, 1, none⟩ = some y := by
  constructor
  · rw [World.cell?_setCell_other _ _ _ _ (by simp), World.cell?_setCell_same _ _ _ h0]
  · rw [World.cell?_setCell_same (u := v)]
    rw [World.cell?_setCell_other _ _ _ _ (by simp), h1]

theorem ok_length (o : Fop) (h : opB o = true) : o.word.size ≤ 12 ∧ o.value.size ≤ 12 := by
  obtain ⟨_, _, _, _, h5, h6⟩ := op_parts o h
  constructor
  · rw [size_data]
    rcases h5 with h | h
    · rw [h]; simp
    · exact (word_length _ h).2
  · rw [size_data]
    rcases h6 with h | h
    · rw [h]; simp
    · exact (word_length _ h).2

theorem ok_ints (o : Fop) (h : opB o = true) : (I64 o.kind ∧ I64 o.a ∧ I64 o.b) ∧ I64 o.lo ∧ I64 o.hi := by
  obtain ⟨_, _, _, _, _, _⟩ := op_parts o h
  unfold I64
  omega

set_option maxRecDepth 100000 in
set_option maxHeartbeats 16000000 in
theorem refw_main (l : List Fop) (i0 b off cap : Nat) (w : World) (hl : 1 ≤ l.length ∧ l.length ≤ 8) (hs : ∀ x, x ∈ l → Small x) (h : OpsAt w b off l) (ht : Tab w)
    (hi0 : i0 ≤ l.length) (hgood : ∀ j, (hj : j < l.length) → j < i0 → opB l[j] = true) (hbad : (hj : i0 < l.length) → opB l[i0] = false) :
    Calls Tryz.prog 12 #[.slice (some ⟨b, off, none⟩) l.length cap] w (RefWrote w l i0) := by
  have hi : inB (l.length : Int) 1 8 = true := by unfold inB; simp only [decide_eq_true_eq]; omega
  have HI := hide (fun W => ref_in_is _ _ _ _ hi W)
  have H := hide h
  have HS := hide hs
  have HT := hide ht
  have HG := hide hgood
  have HD := hide hbad
  clear hi h hs ht hgood hbad
  go_enter Tryz.func12, Tryz.ntmps12
  go_wp2_with (go_at_call 21; refine (unhide HI _).mono ?_; rintro e w1 ⟨rfl, rfl⟩)
  go_loopw [4, 14] (fun t i x => ∃ (k : Nat) (s : ByteArray), k ≤ i0 ∧ i = .int .i64 k ∧ t = .string s ∧ s.size ≤ k * 155 ∧ Hid (s.data.toList = opsL (l.take k)) ∧ Place0 w x ∧ Below w.heap.size w x) (fun _ i _ => l.length - (intOf i).toNat)
  case atStart =>
    refine ⟨0, ⟨#[]⟩, Nat.zero_le _, rfl, rfl, Nat.zero_le _, by simp [Hid, opsL, Lib.join_nil], ?_, below_box _ _⟩
    exact ⟨⟨by simp, by simp⟩, by simp, by simp⟩
  case round =>
    obtain ⟨k, s, hk, rfl, rfl, hsz, HE, hpl, hb⟩ := hrel
    by_cases hlt : k < l.length
    · have hlt' : (k : Int) < (l.length : Int) := by omega
      obtain ⟨c0, c1, c2, c3, c4, c5, c6⟩ := ((unhide H).carry hb).2 k hlt
      have hz := hb.size
      have HW := hide (fun o => ref_Op l[k] (wr.alloc o) (unhide HS _ (List.getElem_mem hlt)))
      unfold opV opCells at HW
      have HB := hide hb
      have HP := hide hpl
      clear hb hpl
      by_cases hki : k = i0
      · subst hki
        rw [unhide HD hlt] at HW
        clear HG HD H HS HI HT
        generalize l[k] = o at *
        go_wp2_with fail
        refine (unhide HW _).mono ?_
        rintro e w2 ⟨rfl, b2⟩
        have b2' : Below wr.heap.size wr w2 := ((Below.refl _ _).alloc (Nat.le_refl _) _).trans (b2.mono (by simp))
        obtain ⟨⟨p0, f0⟩, p1, f1⟩ := (unhide HP).carry b2'
        have HB2 := hide ((unhide HB).trans (b2'.mono hz))
        clear b2 b2' HP HB HW
        have q := two_set w2 w.heap.size (.int .i64 1) (.int .i64 k) _ _ p0 p1
        go_wp2
        exact bodyPost_ret (v := .tuple #[.string ⟨#[]⟩, .agg #[.int .i64 1, .int .i64 k]]) (by simp [results, Tryz.results12, go_sem, q.1, q.2]) rfl ⟨((unhide HB2).setCell (Nat.le_refl _) _).setCell (Nat.le_refl _) _, Or.inr ⟨hlt, rfl⟩⟩
      · have hok := unhide HG k hlt (by omega)
        rw [hok] at HW
        have hki1 : k + 1 ≤ i0 := by omega
        have hsn := opsL_snoc l k hlt
        have hol := wr_length l[k] hok
        have hws := ok_length l[k] hok
        have HII := hide (ok_ints l[k] hok)
        have HEQ := hide (opL_key l[k])
        clear hki HG HD H HS HI hok
        have HSN := hide hsn
        clear hsn
        generalize l[k] = o at *
        have hd := dashB_size o.value hws.2
        have HDD := hide (dashB_data o.value)
        go_wp2_with fail
        refine (unhide HW _).mono ?_
        rintro e w2 ⟨rfl, b2⟩
        have b2' : Below wr.heap.size wr w2 := ((Below.refl _ _).alloc (Nat.le_refl _) _).trans (b2.mono (by simp))
        have HP2 := hide ((unhide HP).carry b2')
        have hz2 : wr.heap.size < w2.heap.size := by have := b2.size; simp at this; omega
        have HT2 := hide ((unhide HT).carry ((unhide HB).trans (b2'.mono hz)))
        have HB2 := hide ((unhide HB).trans (b2'.mono hz))
        have HH : Hid (THeld w2 wr.heap.size o w2) := by
          unfold Hid THeld
          have t : ∀ {j : Nat} {v : Value}, (wr.alloc (.cells #[.int .i64 o.kind, .int .i64 o.a, .string o.word, .int .i64 o.b, .int .i64 o.lo, .int .i64 o.hi, .string o.value] 44)).cell? ⟨wr.heap.size, j, none⟩ = some v → w2.cell? ⟨wr.heap.size, j, none⟩ = some v := fun {j v} e => (b2.cell (p := ⟨wr.heap.size, j, none⟩) (by simp)).trans e
          exact ⟨⟨t (by simp), t (by simp), t (by simp), t (by simp)⟩, t (by simp), t (by simp), t (by simp), Below.refl _ _⟩
        clear b2 b2' HP HB HW HT
        rcases Nat.eq_zero_or_pos k with h0 | h0
        · have h0' : ¬ (0 : Int) < (k : Int) := by omega
          go_wp2
          have hpe : ∃ p, p = s := ⟨_, rfl⟩
          obtain ⟨p, hpe⟩ := hpe
          have hsp : p.size + 154 ≤ (k + 1) * 155 := by rw [hpe]; subst h0; omega
          have HPP : Hid (p.data.toList ++ opL o = opsL (l.take (k + 1))) := by
            unfold Hid
            rw [unhide HSN, if_pos h0, hpe, unhide HE, h0]
            simp [opsL, Lib.join_nil]
          rw [← hpe]
          clear hpe HSN HE
          go_region_held3 (fun x => (x.cell? ⟨wr.heap.size, 0, none⟩ = some (.int .i64 o.kind) ∧ x.cell? ⟨wr.heap.size, 1, none⟩ = some (.int .i64 o.a) ∧ x.cell? ⟨wr.heap.size, 2, none⟩ = some (.string o.word) ∧ x.cell? ⟨wr.heap.size, 3, none⟩ = some (.int .i64 o.b)) ∧
              x.cell? ⟨wr.heap.size, 4, none⟩ = some (.int .i64 o.lo) ∧ x.cell? ⟨wr.heap.size, 5, none⟩ = some (.int .i64 o.hi) ∧ x.cell? ⟨wr.heap.size, 6, none⟩ = some (.string o.value) ∧ Below w2.heap.size w2 x)
            (first | exact THeld.carry (unhide HH) (below_drew _) | (refine THeld.carry (by assumption) ?_; exact below_box _ _) | (refine THeld.carry (by assumption) ?_; assumption) | assumption)
            (first
              | (go_at_call 23; refine (ref_KeyText o.kind o.a o.word o.b _ (unhide HII).1.1 (unhide HII).1.2.1 (unhide HII).1.2.2 hws.1 (THeld.tab (B := wr.heap.size) (o := o) (by assumption) (unhide HT2))).mono ?_; rintro e w3 ⟨s1, rfl, hs1, E1, b3⟩; have q1 := fun W => cat (P := Tryz.prog) s1 ⟨#[32]⟩ (by rw [blank_size]; omega) W)
              | (go_at_call 24; refine (words2 o.lo o.hi _ _ _ (unhide HII).2.1 (unhide HII).2.2 (by first | (simp [go_sem]; done) | (rw [b3.cell (by first | (simp; done) | (simp; omega))]; simp [go_sem]; done)) (by first | (simp [go_sem]; done) | (rw [b3.cell (by first | (simp; done) | (simp; omega))]; simp [go_sem]; done)) (THeld.tab (B := wr.heap.size) (o := o) (by assumption) (unhide HT2))).mono ?_; rintro e w4 ⟨s2, rfl, hs2, E2, b4⟩; have q2 := fun W => cat (P := Tryz.prog) (s1 ++ ⟨#[32]⟩) s2 (by rw [ByteArray.size_append, blank_size]; omega) W; have q3 := fun W => cat (P := Tryz.prog) (s1 ++ ⟨#[32]⟩ ++ s2) ⟨#[32]⟩ (by rw [ByteArray.size_append, ByteArray.size_append, blank_size]; omega) W; have q4 := fun W => cat (P := Tryz.prog) (s1 ++ ⟨#[32]⟩ ++ s2 ++ ⟨#[32]⟩) (dashB o.value) (by rw [ByteArray.size_append, ByteArray.size_append, ByteArray.size_append, blank_size]; omega) W; have q5 := fun W => cat (P := Tryz.prog) p (s1 ++ ⟨#[32]⟩ ++ s2 ++ ⟨#[32]⟩ ++ dashB o.value) (by rw [ByteArray.size_append, ByteArray.size_append, ByteArray.size_append, ByteArray.size_append, blank_size]; omega) W)
              | (go_at_call 25; refine (ref_dash _ _).mono ?_; rintro e w5 ⟨rfl, rfl⟩))
          all_goals
            rename_i hh
            have HF := hide (And.intro ((unhide HP2).carry hh.2.2.2.2) ((unhide HB2).trans (hh.2.2.2.2.mono (unhide HB2).size)))
            clear hh q1 q2 q3 q4 q5
            have HD2 : Hid ((p ++ (s1 ++ ⟨#[32]⟩ ++ s2 ++ ⟨#[32]⟩ ++ dashB o.value)).data.toList = opsL (l.take (k + 1))) := by
              unfold Hid
              rw [← unhide HPP, app_data, app_data, app_data, app_data, app_data, unhide E1, unhide E2, unhide HDD, unhide HEQ]
              simp [List.append_assoc]
            have hsz2 : (p ++ (s1 ++ ⟨#[32]⟩ ++ s2 ++ ⟨#[32]⟩ ++ dashB o.value)).size ≤ (k + 1) * 155 := by
              rw [size_data, unhide HD2, ← unhide HPP, List.length_append, ← size_data]; omega
            clear E1 E2 hs1 hs2
            generalize p ++ (s1 ++ ⟨#[32]⟩ ++ s2 ++ ⟨#[32]⟩ ++ dashB o.value) = t at HD2 hsz2 ⊢
            go_wp2
            exact ⟨⟨k + 1, t, hki1, by rw [h0]; rfl, rfl, hsz2, HD2, (unhide HF).1, (unhide HF).2⟩, by simp [intOf]; omega⟩
        · have h0' : (0 : Int) < (k : Int) := by omega
          have q0 := fun W => cat (P := Tryz.prog) s ⟨#[43]⟩ (by rw [plus_size]; omega) W
          go_wp2
          have hpe : ∃ p, p = s ++ ⟨#[43]⟩ := ⟨_, rfl⟩
          obtain ⟨p, hpe⟩ := hpe
          have hsp : p.size + 154 ≤ (k + 1) * 155 := by rw [hpe, ByteArray.size_append, plus_size]; omega
          have HPP : Hid (p.data.toList ++ opL o = opsL (l.take (k + 1))) := by
            unfold Hid
            rw [unhide HSN, if_neg (by omega), hpe, app_data, unhide HE]
          rw [← hpe]
          clear hpe HSN HE q0
          go_region_held3 (fun x => (x.cell? ⟨wr.heap.size, 0, none⟩ = some (.int .i64 o.kind) ∧ x.cell? ⟨wr.heap.size, 1, none⟩ = some (.int .i64 o.a) ∧ x.cell? ⟨wr.heap.size, 2, none⟩ = some (.string o.word) ∧ x.cell? ⟨wr.heap.size, 3, none⟩ = some (.int .i64 o.b)) ∧
              x.cell? ⟨wr.heap.size, 4, none⟩ = some (.int .i64 o.lo) ∧ x.cell? ⟨wr.heap.size, 5, none⟩ = some (.int .i64 o.hi) ∧ x.cell? ⟨wr.heap.size, 6, none⟩ = some (.string o.value) ∧ Below w2.heap.size w2 x)
            (first | exact THeld.carry (unhide HH) (below_drew _) | (refine THeld.carry (by assumption) ?_; exact below_box _ _) | (refine THeld.carry (by assumption) ?_; assumption) | assumption)
            (first
              | (go_at_call 23; refine (ref_KeyText o.kind o.a o.word o.b _ (unhide HII).1.1 (unhide HII).1.2.1 (unhide HII).1.2.2 hws.1 (THeld.tab (B := wr.heap.size) (o := o) (by assumption) (unhide HT2))).mono ?_; rintro e w3 ⟨s1, rfl, hs1, E1, b3⟩; have q1 := fun W => cat (P := Tryz.prog) s1 ⟨#[32]⟩ (by rw [blank_size]; omega) W)
              | (go_at_call 24; refine (words2 o.lo o.hi _ _ _ (unhide HII).2.1 (unhide HII).2.2 (by first | (simp [go_sem]; done) | (rw [b3.cell (by first | (simp; done) | (simp; omega))]; simp [go_sem]; done)) (by first | (simp [go_sem]; done) | (rw [b3.cell (by first | (simp; done) | (simp; omega))]; simp [go_sem]; done)) (THeld.tab (B := wr.heap.size) (o := o) (by assumption) (unhide HT2))).mono ?_; rintro e w4 ⟨s2, rfl, hs2, E2, b4⟩; have q2 := fun W => cat (P := Tryz.prog) (s1 ++ ⟨#[32]⟩) s2 (by rw [ByteArray.size_append, blank_size]; omega) W; have q3 := fun W => cat (P := Tryz.prog) (s1 ++ ⟨#[32]⟩ ++ s2) ⟨#[32]⟩ (by rw [ByteArray.size_append, ByteArray.size_append, blank_size]; omega) W; have q4 := fun W => cat (P := Tryz.prog) (s1 ++ ⟨#[32]⟩ ++ s2 ++ ⟨#[32]⟩) (dashB o.value) (by rw [ByteArray.size_append, ByteArray.size_append, ByteArray.size_append, blank_size]; omega) W; have q5 := fun W => cat (P := Tryz.prog) p (s1 ++ ⟨#[32]⟩ ++ s2 ++ ⟨#[32]⟩ ++ dashB o.value) (by rw [ByteArray.size_append, ByteArray.size_append, ByteArray.size_append, ByteArray.size_append, blank_size]; omega) W)
              | (go_at_call 25; refine (ref_dash _ _).mono ?_; rintro e w5 ⟨rfl, rfl⟩))
          all_goals
            rename_i hh
            have HF := hide (And.intro ((unhide HP2).carry hh.2.2.2.2) ((unhide HB2).trans (hh.2.2.2.2.mono (unhide HB2).size)))
            clear hh q1 q2 q3 q4 q5
            have HD2 : Hid ((p ++ (s1 ++ ⟨#[32]⟩ ++ s2 ++ ⟨#[32]⟩ ++ dashB o.value)).data.toList = opsL (l.take (k + 1))) := by
              unfold Hid
              rw [← unhide HPP, app_data, app_data, app_data, app_data, app_data, unhide E1, unhide E2, unhide HDD, unhide HEQ]
              simp [List.append_assoc]
            have hsz2 : (p ++ (s1 ++ ⟨#[32]⟩ ++ s2 ++ ⟨#[32]⟩ ++ dashB o.value)).size ≤ (k + 1) * 155 := by
              rw [size_data, unhide HD2, ← unhide HPP, List.length_append, ← size_data]; omega
            clear E1 E2 hs1 hs2
            generalize p ++ (s1 ++ ⟨#[32]⟩ ++ s2 ++ ⟨#[32]⟩ ++ dashB o.value) = t at HD2 hsz2 ⊢
            go_wp2
            go_roundw
            case rel => exact ⟨k + 1, t, hki1, by go_num, rfl, hsz2, HD2, (unhide HF).1, (unhide HF).2⟩
            case measure => simp [intOf]; omega
    · have hlt' : ¬ (k : Int) < (l.length : Int) := by omega
      have hkl : l.take k = l := List.take_of_length_le (by omega)
      rw [hkl] at HE
      have hki : i0 = l.length := by omega
      have HR := hide (fun W => ref_Bare 0 W)
      obtain ⟨⟨p0, f0⟩, p1, f1⟩ := hpl.carry (below_box wr (.cells #[.int .i64 0, .int .i64 (-1)] 46))
      have q := two_set _ w.heap.size (.int .i64 0) (.int .i64 (-1)) _ _ p0 p1
      have HB2 := hide (hb.alloc hb.size (.cells #[.int .i64 0, .int .i64 (-1)] 46))
      have hse : s = ⟨(opsL l).toArray⟩ := bytes_ext (by rw [unhide HE])
      subst hse
      clear hb hpl HE HG HD H HS HI HT hkl hsz
      go_wp2_with fail
      refine (unhide HR _).mono ?_
      rintro e w2 ⟨rfl, rfl⟩
      go_wp2
      exact bodyPost_ret (v := .tuple #[.string ⟨(opsL l).toArray⟩, .agg #[.int .i64 0, .int .i64 (-1)]]) (by simp [results, Tryz.results12, go_sem, q.1, q.2]) rfl ⟨((unhide HB2).setCell (Nat.le_refl _) _).setCell (Nat.le_refl _) _, Or.inl ⟨hki, rfl⟩⟩

end Go.Proofs.YtcgdmehdocaooaaGreatDoor
