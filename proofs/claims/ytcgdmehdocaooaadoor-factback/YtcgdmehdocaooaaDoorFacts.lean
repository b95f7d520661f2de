/- FactWrites, walked. -/
import Derived.Test.YtcgdmehdocaooaaDoorBoth
import Derived.Test.YtcgdmehdocaooaaDoorLess
import Derived.Test.YtcgdmehdocaooaaDoorShort
namespace Go.Proofs.YtcgdmehdocaooaaDoor
open Go.RowKit

/-- What the statement's great test reads: two keys, and what the document's Write told. -/
def FwHeld (A B C : Nat) (k a : Int) (s : ByteArray) (b k' a' : Int) (s' : ByteArray) (b' n i : Int) (w0 x : World) : Prop :=
  ((x.cell? ⟨A, 0, none⟩ = some (.int .i64 k) ∧ x.cell? ⟨A, 1, none⟩ = some (.int .i64 a) ∧ x.cell? ⟨A, 2, none⟩ = some (.string s) ∧ x.cell? ⟨A, 3, none⟩ = some (.int .i64 b)) ∧
  (x.cell? ⟨B, 0, none⟩ = some (.int .i64 k') ∧ x.cell? ⟨B, 1, none⟩ = some (.int .i64 a') ∧ x.cell? ⟨B, 2, none⟩ = some (.string s') ∧ x.cell? ⟨B, 3, none⟩ = some (.int .i64 b'))) ∧
  x.cell? ⟨C, 0, none⟩ = some (.int .i64 n) ∧ x.cell? ⟨C, 1, none⟩ = some (.int .i64 i) ∧ Below w0.heap.size w0 x

theorem FwHeld.carry {A B C : Nat} {k a : Int} {s : ByteArray} {b k' a' : Int} {s' : ByteArray} {b' n i : Int} {w0 x y : World} (h : FwHeld A B C k a s b k' a' s' b' n i w0 x) (hb : Below x.heap.size x y) : FwHeld A B C k a s b k' a' s' b' n i w0 y := by
  obtain ⟨⟨⟨h1, h2, h3, h4⟩, h5, h6, h7, h8⟩, h9, h10, h11⟩ := h
  have t : ∀ {p : Addr} {v : Value}, x.cell? p = some v → y.cell? p = some v := fun {p v} e => (hb.cell (p := p) (lt_of_cell e)).trans e
  exact ⟨⟨⟨t h1, t h2, t h3, t h4⟩, t h5, t h6, t h7, t h8⟩, t h9, t h10, h11.trans (hb.mono h11.size)⟩

theorem fw_below {A B C : Nat} {k a : Int} {s : ByteArray} {b k' a' : Int} {s' : ByteArray} {b' n i : Int} {w0 x : World} (h : FwHeld A B C k a s b k' a' s' b' n i w0 x) : Below w0.heap.size w0 x := h.2.2.2

/-- A change's cells, in a slice that came in. -/
def OHeld (b o : Nat) (p : Fop) (w0 x : World) : Prop :=
  (x.cell? ⟨b, o, none⟩ = some (.int .i64 p.kind) ∧ x.cell? ⟨b, o + 1, none⟩ = some (.int .i64 p.a) ∧ x.cell? ⟨b, o + 2, none⟩ = some (.string p.word) ∧ x.cell? ⟨b, o + 3, none⟩ = some (.int .i64 p.b) ∧
  x.cell? ⟨b, o + 4, none⟩ = some (.int .i64 p.lo) ∧ x.cell? ⟨b, o + 5, none⟩ = some (.int .i64 p.hi) ∧ x.cell? ⟨b, o + 6, none⟩ = some (.string p.value)) ∧ Below w0.heap.size w0 x
theorem OHeld.carry {b o : Nat} {p : Fop} {w0 x y : World} (h : OHeld b o p w0 x) (hb : Below x.heap.size x y) : OHeld b o p w0 y := by
  obtain ⟨⟨h1, h2, h3, h4, h5, h6, h7⟩, h8⟩ := h
  have t : ∀ {p : Addr} {v : Value}, x.cell? p = some v → y.cell? p = some v := fun {p v} e => (hb.cell (p := p) (lt_of_cell e)).trans e
  exact ⟨⟨t h1, t h2, t h3, t h4, t h5, t h6, t h7⟩, h8.trans (hb.mono h8.size)⟩

theorem reads_at {w : World} {ad : Option Addr} {n cap : Nat} {l : List Fop} (h : ReadsOps w (.slice ad n cap) l) {j : Nat} (hj : j < l.length) : ∃ b o, ad = some ⟨b, o, none⟩ ∧ OpsAt w b o l := by
  obtain ⟨ad', cap', e, h⟩ := h
  injection e with e1 e2 e3
  subst e1
  rcases h with rfl | ⟨b, o, h1, h2⟩
  · simp at hj
  · exact ⟨b, o, h1, h2⟩

/-- Cells that a world keeps. -/
theorem cells_carry {w w' : World} {B : Nat} {k a : Int} {s : ByteArray} {b : Int} (h : w.cell? ⟨B, 0, none⟩ = some (.int .i64 k) ∧ w.cell? ⟨B, 1, none⟩ = some (.int .i64 a) ∧ w.cell? ⟨B, 2, none⟩ = some (.string s) ∧ w.cell? ⟨B, 3, none⟩ = some (.int .i64 b)) (hb : Below w.heap.size w w') :
    w'.cell? ⟨B, 0, none⟩ = some (.int .i64 k) ∧ w'.cell? ⟨B, 1, none⟩ = some (.int .i64 a) ∧ w'.cell? ⟨B, 2, none⟩ = some (.string s) ∧ w'.cell? ⟨B, 3, none⟩ = some (.int .i64 b) := by
  obtain ⟨h1, h2, h3, h4⟩ := h
  have t : ∀ {p : Addr} {v : Value}, w.cell? p = some v → w'.cell? p = some v := fun {p v} e => (hb.cell (p := p) (lt_of_cell e)).trans e
  exact ⟨t h1, t h2, t h3, t h4⟩

set_option maxRecDepth 100000 in
set_option maxHeartbeats 16000000 in
theorem factWrites_walk (l : List Fop) (v : Value) (k a : Int) (s : ByteArray) (b k' a' : Int) (s' : ByteArray) (b' : Int) (w : World)
    (hn : l.length < 1099511627776) (hs : ∀ x, x ∈ l → Small x) (h : ReadsOps w v l) (hsz : s.size ≤ maxLen) (hsz' : s'.size ≤ maxLen) (ht : Tab w) (hg : ErrorType w) :
    Calls Tryd.prog 4 #[v, .agg #[.int .i64 k, .int .i64 a, .string s, .int .i64 b], .agg #[.int .i64 k', .int .i64 a', .string s', .int .i64 b']] w fun e w' => e = .returned (.bool true) ∧ Below w.heap.size w w' := by
  have HB0 : Hid (Below w.heap.size w ((w.alloc (.cells #[.int .i64 k, .int .i64 a, .string s, .int .i64 b] 49)).alloc (.cells #[.int .i64 k', .int .i64 a', .string s', .int .i64 b'] 49))) :=
    ((Below.refl _ _).alloc (Nat.le_refl _) _).alloc (by simp) _
  have HC0 : Hid ((((w.alloc (.cells #[.int .i64 k, .int .i64 a, .string s, .int .i64 b] 49)).alloc (.cells #[.int .i64 k', .int .i64 a', .string s', .int .i64 b'] 49)).cell? ⟨w.heap.size, 0, none⟩ = some (.int .i64 k) ∧ ((w.alloc (.cells #[.int .i64 k, .int .i64 a, .string s, .int .i64 b] 49)).alloc (.cells #[.int .i64 k', .int .i64 a', .string s', .int .i64 b'] 49)).cell? ⟨w.heap.size, 1, none⟩ = some (.int .i64 a) ∧ ((w.alloc (.cells #[.int .i64 k, .int .i64 a, .string s, .int .i64 b] 49)).alloc (.cells #[.int .i64 k', .int .i64 a', .string s', .int .i64 b'] 49)).cell? ⟨w.heap.size, 2, none⟩ = some (.string s) ∧ ((w.alloc (.cells #[.int .i64 k, .int .i64 a, .string s, .int .i64 b] 49)).alloc (.cells #[.int .i64 k', .int .i64 a', .string s', .int .i64 b'] 49)).cell? ⟨w.heap.size, 3, none⟩ = some (.int .i64 b)) ∧
      ((w.alloc (.cells #[.int .i64 k, .int .i64 a, .string s, .int .i64 b] 49)).alloc (.cells #[.int .i64 k', .int .i64 a', .string s', .int .i64 b'] 49)).cell? ⟨w.heap.size + 1, 0, none⟩ = some (.int .i64 k') ∧ ((w.alloc (.cells #[.int .i64 k, .int .i64 a, .string s, .int .i64 b] 49)).alloc (.cells #[.int .i64 k', .int .i64 a', .string s', .int .i64 b'] 49)).cell? ⟨w.heap.size + 1, 1, none⟩ = some (.int .i64 a') ∧ ((w.alloc (.cells #[.int .i64 k, .int .i64 a, .string s, .int .i64 b] 49)).alloc (.cells #[.int .i64 k', .int .i64 a', .string s', .int .i64 b'] 49)).cell? ⟨w.heap.size + 1, 2, none⟩ = some (.string s') ∧ ((w.alloc (.cells #[.int .i64 k, .int .i64 a, .string s, .int .i64 b] 49)).alloc (.cells #[.int .i64 k', .int .i64 a', .string s', .int .i64 b'] 49)).cell? ⟨w.heap.size + 1, 3, none⟩ = some (.int .i64 b')) := by
    unfold Hid
    refine ⟨⟨?_, ?_, ?_, ?_⟩, ?_, ?_, ?_, ?_⟩
    all_goals simp
  have HSH := hide (fun W (hW : Below w.heap.size w W) => law_short l v W (by unfold maxLen; omega) hs (h.carry hW))
  obtain ⟨t, n, i, hboth⟩ := both l v w hn hs h ht hg
  have HBO := hide hboth
  have hl0 : ∃ ad cap, v = .slice ad l.length cap := by obtain ⟨ad, cap, e, _⟩ := h; exact ⟨ad, cap, e⟩
  obtain ⟨ad, cap, rfl⟩ := hl0
  clear hboth
  have H := hide h
  have HT := hide ht
  have HG := hide hg
  have HS := hide hs
  clear h hs ht hg
  unfold maxLen at hsz hsz'
  go_enter Tryd.func4, Tryd.ntmps4
  go_wp2_with fail
  generalize ((w.alloc (.cells #[.int .i64 k, .int .i64 a, .string s, .int .i64 b] 49)).alloc (.cells #[.int .i64 k', .int .i64 a', .string s', .int .i64 b'] 49)) = W at HB0 HC0 ⊢
  refine (unhide HSH W (unhide HB0)).mono ?_
  rintro e w1 ⟨r, rfl, hr, hw1⟩
  subst hw1
  obtain ⟨⟨x0, x1, x2, x3⟩, y0, y1, y2, y3⟩ := unhide HC0
  cases r with
  | false =>
    go_wp2
    go_ret
    exact ⟨rfl, unhide HB0⟩
  | true =>
    have hsh := hr rfl
    by_cases h60 : 60 < s.size
    · have h60' : 60 < (s.size : Int) := by omega
      go_wp2
      go_ret
      exact ⟨rfl, unhide HB0⟩
    · have h60' : ¬ 60 < (s.size : Int) := by omega
      by_cases g60 : 60 < s'.size
      · have g60' : 60 < (s'.size : Int) := by omega
        go_wp2
        go_ret
        exact ⟨rfl, unhide HB0⟩
      · have g60' : ¬ 60 < (s'.size : Int) := by omega
        have HL := hide (ref_Less k a s b k' a' s' b' w1)
        have HK := keyCmp_is k a s b k' a' s' b'
        have HN := fun W => key_neq k a s b k' a' s' b' W
        have HCC := hide (fun W => fact_Compare k a s b k' a' s' b' W)
        generalize keyCmp k a s b k' a' s' b' = c at HK HCC
        generalize lessB k a s b k' a' s' b' = x at HL HK
        generalize sameKey k a s b k' a' s' b' = y at HN HK
        have hl20 : l.length ≤ 20 := hsh.1
        clear HSH hn hr h60 g60 hsh
        have hs60 : s.size ≤ 60 := by omega
        have hs60' : s'.size ≤ 60 := by omega
        clear hsz hsz'
        cases x with
        | true =>
          simp only [if_true] at HK
          subst HK
          go_wp2_with fail
          refine (unhide HL).mono ?_
          rintro e w2 ⟨rfl, b2⟩
          have B2 := hide ((unhide HB0).trans (b2.mono (unhide HB0).size))
          have C2 := hide (And.intro (cells_carry (unhide HC0).1 b2) (cells_carry (unhide HC0).2 b2))
          clear b2 HL HN x0 x1 x2 x3 y0 y1 y2 y3 HC0 HB0
          have HR := hide (unhide HBO w2 (unhide B2)).1
          unfold RefSays at HR
          go_wp2_with fail
          refine (unhide HR).mono ?_
          rintro e w3 ⟨rfl, b3⟩
          have B3 := hide ((unhide B2).trans (b3.mono (unhide B2).size))
          have HF := hide (unhide HBO (w3.alloc (.cells #[.int .i64 n, .int .i64 i] 25)) ((unhide B3).alloc (unhide B3).size _)).2
          unfold FactSays at HF
          have C3 := hide (And.intro (cells_carry (unhide C2).1 b3) (cells_carry (unhide C2).2 b3))
          clear b3 HR C2 B2 HBO
          go_wp2_with fail
          refine (unhide HF).mono ?_
          rintro e w5 ⟨u, rfl, hpl, b5⟩
          have b35 : Below w3.heap.size w3 w5 := ((Below.refl _ _).alloc (Nat.le_refl _) _).trans (b5.mono (by simp))
          have B5 := hide ((unhide B3).trans (b35.mono (unhide B3).size))
          have HH : Hid (FwHeld w.heap.size (w.heap.size + 1) w3.heap.size k a s b k' a' s' b' n i w5 w5) :=
            ⟨⟨cells_carry (unhide C3).1 b35, cells_carry (unhide C3).2 b35⟩, (b5.cell (p := ⟨w3.heap.size, 0, none⟩) (by simp)).trans (by simp), (b5.cell (p := ⟨w3.heap.size, 1, none⟩) (by simp)).trans (by simp), Below.refl _ _⟩
          have HP := hide hpl
          clear b5 b35 hpl HF C3 B3
          go_wp2
          go_region_held3 (fun x => ((x.cell? ⟨w.heap.size, 0, none⟩ = some (.int .i64 k) ∧ x.cell? ⟨w.heap.size, 1, none⟩ = some (.int .i64 a) ∧ x.cell? ⟨w.heap.size, 2, none⟩ = some (.string s) ∧ x.cell? ⟨w.heap.size, 3, none⟩ = some (.int .i64 b)) ∧
              (x.cell? ⟨w.heap.size + 1, 0, none⟩ = some (.int .i64 k') ∧ x.cell? ⟨w.heap.size + 1, 1, none⟩ = some (.int .i64 a') ∧ x.cell? ⟨w.heap.size + 1, 2, none⟩ = some (.string s') ∧ x.cell? ⟨w.heap.size + 1, 3, none⟩ = some (.int .i64 b'))) ∧
              x.cell? ⟨w3.heap.size, 0, none⟩ = some (.int .i64 n) ∧ x.cell? ⟨w3.heap.size, 1, none⟩ = some (.int .i64 i) ∧ Below w5.heap.size w5 x)
            (first | exact FwHeld.carry (unhide HH) (below_drew _) | (refine FwHeld.carry (by assumption) ?_; exact below_box _ _) | (refine FwHeld.carry (by assumption) ?_; assumption) | assumption)
            (first
              | (go_at_call 10; refine (law_is u n i _ (fun W hW => unhide HP W ((fw_below (by assumption)).trans (hW.mono (fw_below (by assumption)).size)))).mono ?_; rintro e w6 ⟨rfl, b6⟩)
              | (go_at_call 26; refine (fact_Key _ _ _ _ _ (by unfold maxLen; omega)).mono ?_; rintro e w7 ⟨rfl, rfl⟩)
              | (go_at_call 27; refine (ref_Key _ _ _ _ _ (by unfold maxLen; omega)).mono ?_; rintro e w7 ⟨rfl, rfl⟩)
              | (go_at_call 28; refine (fact_Word _ _ (by unfold maxLen; omega)).mono ?_; rintro e w8 ⟨rfl, rfl⟩)
              | (go_at_call 29; refine (ref_Word _ _ (by unfold maxLen; omega)).mono ?_; rintro e w8 ⟨rfl, rfl⟩)
              | (go_at_call 30; refine (unhide HCC _).mono ?_; rintro e w9 ⟨rfl, b9⟩))
          rename_i hh
          have B9 := hide ((unhide B5).trans (hh.2.2.2.mono (unhide B5).size))
          clear hh b6 b9 HH HP HCC B5
          go_wp2
          go_loopw [12] (fun iv x => ∃ j : Nat, iv = .int .i64 j ∧ j ≤ l.length ∧ Below w.heap.size w x) (fun iv _ => l.length - (intOf iv).toNat)
          case atStart => exact ⟨0, rfl, Nat.zero_le _, unhide B9⟩
          case round =>
            obtain ⟨j, rfl, hj, hb⟩ := hrel
            by_cases hlt : j < l.length
            · have hlt' : (j : Int) < (l.length : Int) := by omega
              obtain ⟨b0, o0, had, hO⟩ := reads_at (unhide H) hlt
              subst had
              have hO7 := (hO.carry hb).2 j hlt
              have HSj := hide (unhide HS _ (List.getElem_mem hlt))
              have HB := hide hb
              clear hb hO
              generalize l[j] = o at *
              have HH : Hid (OHeld b0 (o0 + j * 7) o wr wr) := ⟨hO7, Below.refl _ _⟩
              clear hO7
              go_wp2
              go_region_held3 (fun x => (x.cell? ⟨b0, o0 + j * 7, none⟩ = some (.int .i64 o.kind) ∧ x.cell? ⟨b0, o0 + j * 7 + 1, none⟩ = some (.int .i64 o.a) ∧ x.cell? ⟨b0, o0 + j * 7 + 2, none⟩ = some (.string o.word) ∧ x.cell? ⟨b0, o0 + j * 7 + 3, none⟩ = some (.int .i64 o.b) ∧
                  x.cell? ⟨b0, o0 + j * 7 + 4, none⟩ = some (.int .i64 o.lo) ∧ x.cell? ⟨b0, o0 + j * 7 + 5, none⟩ = some (.int .i64 o.hi) ∧ x.cell? ⟨b0, o0 + j * 7 + 6, none⟩ = some (.string o.value)) ∧ Below wr.heap.size wr x)
                (first | exact OHeld.carry (unhide HH) (below_drew _) | (refine OHeld.carry (by assumption) ?_; assumption) | assumption)
                (first
                  | (go_at_call 31; refine (fact_Op o _ (unhide HSj)).mono ?_; rintro e w10 ⟨rfl, b10⟩)
                  | (go_at_call 32; refine (ref_Op o _ (unhide HSj)).mono ?_; rintro e w11 ⟨rfl, b11⟩))
              rename_i hh
              have B11 := hide ((unhide HB).trans (hh.2.mono (unhide HB).size))
              clear hh b10 b11 HH HB
              go_wp2
              go_roundw
              case rel => exact ⟨j + 1, by go_num, by omega, unhide B11⟩
              case measure => simp [intOf]; omega
            · have hlt' : ¬ (j : Int) < (l.length : Int) := by omega
              go_wp2
              go_ret
              exact ⟨rfl, hb⟩
        | false =>
          cases y with
          | true =>
            simp only [if_true, Bool.false_eq_true, if_false] at HK
            subst HK
            go_wp2_with fail
            refine (unhide HL).mono ?_
            rintro e w2 ⟨rfl, b2⟩
            have B2 := hide ((unhide HB0).trans (b2.mono (unhide HB0).size))
            have C2 := hide (And.intro (cells_carry (unhide HC0).1 b2) (cells_carry (unhide HC0).2 b2))
            obtain ⟨⟨u0, u1, u2, u3⟩, v0, v1, v2, v3⟩ := unhide C2
            clear b2 HL x0 x1 x2 x3 y0 y1 y2 y3 HC0 HB0
            have HR := hide (unhide HBO w2 (unhide B2)).1
            unfold RefSays at HR
            go_wp2_with fail
            refine (unhide HR).mono ?_
            rintro e w3 ⟨rfl, b3⟩
            have B3 := hide ((unhide B2).trans (b3.mono (unhide B2).size))
            have HF := hide (unhide HBO (w3.alloc (.cells #[.int .i64 n, .int .i64 i] 25)) ((unhide B3).alloc (unhide B3).size _)).2
            unfold FactSays at HF
            have C3 := hide (And.intro (cells_carry (unhide C2).1 b3) (cells_carry (unhide C2).2 b3))
            clear b3 HR C2 B2 HBO u0 u1 u2 u3 v0 v1 v2 v3 HN
            go_wp2_with fail
            refine (unhide HF).mono ?_
            rintro e w5 ⟨u, rfl, hpl, b5⟩
            have b35 : Below w3.heap.size w3 w5 := ((Below.refl _ _).alloc (Nat.le_refl _) _).trans (b5.mono (by simp))
            have B5 := hide ((unhide B3).trans (b35.mono (unhide B3).size))
            have HH : Hid (FwHeld w.heap.size (w.heap.size + 1) w3.heap.size k a s b k' a' s' b' n i w5 w5) :=
              ⟨⟨cells_carry (unhide C3).1 b35, cells_carry (unhide C3).2 b35⟩, (b5.cell (p := ⟨w3.heap.size, 0, none⟩) (by simp)).trans (by simp), (b5.cell (p := ⟨w3.heap.size, 1, none⟩) (by simp)).trans (by simp), Below.refl _ _⟩
            have HP := hide hpl
            clear b5 b35 hpl HF C3 B3
            go_wp2
            go_region_held3 (fun x => ((x.cell? ⟨w.heap.size, 0, none⟩ = some (.int .i64 k) ∧ x.cell? ⟨w.heap.size, 1, none⟩ = some (.int .i64 a) ∧ x.cell? ⟨w.heap.size, 2, none⟩ = some (.string s) ∧ x.cell? ⟨w.heap.size, 3, none⟩ = some (.int .i64 b)) ∧
                (x.cell? ⟨w.heap.size + 1, 0, none⟩ = some (.int .i64 k') ∧ x.cell? ⟨w.heap.size + 1, 1, none⟩ = some (.int .i64 a') ∧ x.cell? ⟨w.heap.size + 1, 2, none⟩ = some (.string s') ∧ x.cell? ⟨w.heap.size + 1, 3, none⟩ = some (.int .i64 b'))) ∧
                x.cell? ⟨w3.heap.size, 0, none⟩ = some (.int .i64 n) ∧ x.cell? ⟨w3.heap.size, 1, none⟩ = some (.int .i64 i) ∧ Below w5.heap.size w5 x)
              (first | exact FwHeld.carry (unhide HH) (below_drew _) | (refine FwHeld.carry (by assumption) ?_; exact below_box _ _) | (refine FwHeld.carry (by assumption) ?_; assumption) | assumption)
              (first
                | (go_at_call 10; refine (law_is u n i _ (fun W hW => unhide HP W ((fw_below (by assumption)).trans (hW.mono (fw_below (by assumption)).size)))).mono ?_; rintro e w6 ⟨rfl, b6⟩)
                | (go_at_call 26; refine (fact_Key _ _ _ _ _ (by unfold maxLen; omega)).mono ?_; rintro e w7 ⟨rfl, rfl⟩)
                | (go_at_call 27; refine (ref_Key _ _ _ _ _ (by unfold maxLen; omega)).mono ?_; rintro e w7 ⟨rfl, rfl⟩)
                | (go_at_call 28; refine (fact_Word _ _ (by unfold maxLen; omega)).mono ?_; rintro e w8 ⟨rfl, rfl⟩)
                | (go_at_call 29; refine (ref_Word _ _ (by unfold maxLen; omega)).mono ?_; rintro e w8 ⟨rfl, rfl⟩)
                | (go_at_call 30; refine (unhide HCC _).mono ?_; rintro e w9 ⟨rfl, b9⟩))
            rename_i hh
            have B9 := hide ((unhide B5).trans (hh.2.2.2.mono (unhide B5).size))
            clear hh b6 b9 HH HP HCC B5
            go_wp2
            go_loopw [12] (fun iv x => ∃ j : Nat, iv = .int .i64 j ∧ j ≤ l.length ∧ Below w.heap.size w x) (fun iv _ => l.length - (intOf iv).toNat)
            case atStart => exact ⟨0, rfl, Nat.zero_le _, unhide B9⟩
            case round =>
              obtain ⟨j, rfl, hj, hb⟩ := hrel
              by_cases hlt : j < l.length
              · have hlt' : (j : Int) < (l.length : Int) := by omega
                obtain ⟨b0, o0, had, hO⟩ := reads_at (unhide H) hlt
                subst had
                have hO7 := (hO.carry hb).2 j hlt
                have HSj := hide (unhide HS _ (List.getElem_mem hlt))
                have HB := hide hb
                clear hb hO
                generalize l[j] = o at *
                have HH : Hid (OHeld b0 (o0 + j * 7) o wr wr) := ⟨hO7, Below.refl _ _⟩
                clear hO7
                go_wp2
                go_region_held3 (fun x => (x.cell? ⟨b0, o0 + j * 7, none⟩ = some (.int .i64 o.kind) ∧ x.cell? ⟨b0, o0 + j * 7 + 1, none⟩ = some (.int .i64 o.a) ∧ x.cell? ⟨b0, o0 + j * 7 + 2, none⟩ = some (.string o.word) ∧ x.cell? ⟨b0, o0 + j * 7 + 3, none⟩ = some (.int .i64 o.b) ∧
                    x.cell? ⟨b0, o0 + j * 7 + 4, none⟩ = some (.int .i64 o.lo) ∧ x.cell? ⟨b0, o0 + j * 7 + 5, none⟩ = some (.int .i64 o.hi) ∧ x.cell? ⟨b0, o0 + j * 7 + 6, none⟩ = some (.string o.value)) ∧ Below wr.heap.size wr x)
                  (first | exact OHeld.carry (unhide HH) (below_drew _) | (refine OHeld.carry (by assumption) ?_; assumption) | assumption)
                  (first
                    | (go_at_call 31; refine (fact_Op o _ (unhide HSj)).mono ?_; rintro e w10 ⟨rfl, b10⟩)
                    | (go_at_call 32; refine (ref_Op o _ (unhide HSj)).mono ?_; rintro e w11 ⟨rfl, b11⟩))
                rename_i hh
                have B11 := hide ((unhide HB).trans (hh.2.mono (unhide HB).size))
                clear hh b10 b11 HH HB
                go_wp2
                go_roundw
                case rel => exact ⟨j + 1, by go_num, by omega, unhide B11⟩
                case measure => simp [intOf]; omega
              · have hlt' : ¬ (j : Int) < (l.length : Int) := by omega
                go_wp2
                go_ret
                exact ⟨rfl, hb⟩
          | false =>
            simp only [Bool.false_eq_true, if_false] at HK
            subst HK
            go_wp2_with fail
            refine (unhide HL).mono ?_
            rintro e w2 ⟨rfl, b2⟩
            have B2 := hide ((unhide HB0).trans (b2.mono (unhide HB0).size))
            have C2 := hide (And.intro (cells_carry (unhide HC0).1 b2) (cells_carry (unhide HC0).2 b2))
            obtain ⟨⟨u0, u1, u2, u3⟩, v0, v1, v2, v3⟩ := unhide C2
            clear b2 HL x0 x1 x2 x3 y0 y1 y2 y3 HC0 HB0
            have HR := hide (unhide HBO w2 (unhide B2)).1
            unfold RefSays at HR
            go_wp2_with fail
            refine (unhide HR).mono ?_
            rintro e w3 ⟨rfl, b3⟩
            have B3 := hide ((unhide B2).trans (b3.mono (unhide B2).size))
            have HF := hide (unhide HBO (w3.alloc (.cells #[.int .i64 n, .int .i64 i] 25)) ((unhide B3).alloc (unhide B3).size _)).2
            unfold FactSays at HF
            have C3 := hide (And.intro (cells_carry (unhide C2).1 b3) (cells_carry (unhide C2).2 b3))
            clear b3 HR C2 B2 HBO u0 u1 u2 u3 v0 v1 v2 v3 HN
            go_wp2_with fail
            refine (unhide HF).mono ?_
            rintro e w5 ⟨u, rfl, hpl, b5⟩
            have b35 : Below w3.heap.size w3 w5 := ((Below.refl _ _).alloc (Nat.le_refl _) _).trans (b5.mono (by simp))
            have B5 := hide ((unhide B3).trans (b35.mono (unhide B3).size))
            have HH : Hid (FwHeld w.heap.size (w.heap.size + 1) w3.heap.size k a s b k' a' s' b' n i w5 w5) :=
              ⟨⟨cells_carry (unhide C3).1 b35, cells_carry (unhide C3).2 b35⟩, (b5.cell (p := ⟨w3.heap.size, 0, none⟩) (by simp)).trans (by simp), (b5.cell (p := ⟨w3.heap.size, 1, none⟩) (by simp)).trans (by simp), Below.refl _ _⟩
            have HP := hide hpl
            clear b5 b35 hpl HF C3 B3
            go_wp2
            go_region_held3 (fun x => ((x.cell? ⟨w.heap.size, 0, none⟩ = some (.int .i64 k) ∧ x.cell? ⟨w.heap.size, 1, none⟩ = some (.int .i64 a) ∧ x.cell? ⟨w.heap.size, 2, none⟩ = some (.string s) ∧ x.cell? ⟨w.heap.size, 3, none⟩ = some (.int .i64 b)) ∧
                (x.cell? ⟨w.heap.size + 1, 0, none⟩ = some (.int .i64 k') ∧ x.cell? ⟨w.heap.size + 1, 1, none⟩ = some (.int .i64 a') ∧ x.cell? ⟨w.heap.size + 1, 2, none⟩ = some (.string s') ∧ x.cell? ⟨w.heap.size + 1, 3, none⟩ = some (.int .i64 b'))) ∧
                x.cell? ⟨w3.heap.size, 0, none⟩ = some (.int .i64 n) ∧ x.cell? ⟨w3.heap.size, 1, none⟩ = some (.int .i64 i) ∧ Below w5.heap.size w5 x)
              (first | exact FwHeld.carry (unhide HH) (below_drew _) | (refine FwHeld.carry (by assumption) ?_; exact below_box _ _) | (refine FwHeld.carry (by assumption) ?_; assumption) | assumption)
              (first
                | (go_at_call 10; refine (law_is u n i _ (fun W hW => unhide HP W ((fw_below (by assumption)).trans (hW.mono (fw_below (by assumption)).size)))).mono ?_; rintro e w6 ⟨rfl, b6⟩)
                | (go_at_call 26; refine (fact_Key _ _ _ _ _ (by unfold maxLen; omega)).mono ?_; rintro e w7 ⟨rfl, rfl⟩)
                | (go_at_call 27; refine (ref_Key _ _ _ _ _ (by unfold maxLen; omega)).mono ?_; rintro e w7 ⟨rfl, rfl⟩)
                | (go_at_call 28; refine (fact_Word _ _ (by unfold maxLen; omega)).mono ?_; rintro e w8 ⟨rfl, rfl⟩)
                | (go_at_call 29; refine (ref_Word _ _ (by unfold maxLen; omega)).mono ?_; rintro e w8 ⟨rfl, rfl⟩)
                | (go_at_call 30; refine (unhide HCC _).mono ?_; rintro e w9 ⟨rfl, b9⟩))
            rename_i hh
            have B9 := hide ((unhide B5).trans (hh.2.2.2.mono (unhide B5).size))
            clear hh b6 b9 HH HP HCC B5
            go_wp2
            go_loopw [12] (fun iv x => ∃ j : Nat, iv = .int .i64 j ∧ j ≤ l.length ∧ Below w.heap.size w x) (fun iv _ => l.length - (intOf iv).toNat)
            case atStart => exact ⟨0, rfl, Nat.zero_le _, unhide B9⟩
            case round =>
              obtain ⟨j, rfl, hj, hb⟩ := hrel
              by_cases hlt : j < l.length
              · have hlt' : (j : Int) < (l.length : Int) := by omega
                obtain ⟨b0, o0, had, hO⟩ := reads_at (unhide H) hlt
                subst had
                have hO7 := (hO.carry hb).2 j hlt
                have HSj := hide (unhide HS _ (List.getElem_mem hlt))
                have HB := hide hb
                clear hb hO
                generalize l[j] = o at *
                have HH : Hid (OHeld b0 (o0 + j * 7) o wr wr) := ⟨hO7, Below.refl _ _⟩
                clear hO7
                go_wp2
                go_region_held3 (fun x => (x.cell? ⟨b0, o0 + j * 7, none⟩ = some (.int .i64 o.kind) ∧ x.cell? ⟨b0, o0 + j * 7 + 1, none⟩ = some (.int .i64 o.a) ∧ x.cell? ⟨b0, o0 + j * 7 + 2, none⟩ = some (.string o.word) ∧ x.cell? ⟨b0, o0 + j * 7 + 3, none⟩ = some (.int .i64 o.b) ∧
                    x.cell? ⟨b0, o0 + j * 7 + 4, none⟩ = some (.int .i64 o.lo) ∧ x.cell? ⟨b0, o0 + j * 7 + 5, none⟩ = some (.int .i64 o.hi) ∧ x.cell? ⟨b0, o0 + j * 7 + 6, none⟩ = some (.string o.value)) ∧ Below wr.heap.size wr x)
                  (first | exact OHeld.carry (unhide HH) (below_drew _) | (refine OHeld.carry (by assumption) ?_; assumption) | assumption)
                  (first
                    | (go_at_call 31; refine (fact_Op o _ (unhide HSj)).mono ?_; rintro e w10 ⟨rfl, b10⟩)
                    | (go_at_call 32; refine (ref_Op o _ (unhide HSj)).mono ?_; rintro e w11 ⟨rfl, b11⟩))
                rename_i hh
                have B11 := hide ((unhide HB).trans (hh.2.mono (unhide HB).size))
                clear hh b10 b11 HH HB
                go_wp2
                go_roundw
                case rel => exact ⟨j + 1, by go_num, by omega, unhide B11⟩
                case measure => simp [intOf]; omega
              · have hlt' : ¬ (j : Int) < (l.length : Int) := by omega
                go_wp2
                go_ret
                exact ⟨rfl, hb⟩

end Go.Proofs.YtcgdmehdocaooaaDoor
