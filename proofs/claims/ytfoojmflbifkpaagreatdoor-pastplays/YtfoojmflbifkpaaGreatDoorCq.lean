/- Texts of one proof, one behind the other. -/
import Derived.Test.YtfoojmflbifkpaaGreatDoorBh
import Derived.Test.YtfoojmflbifkpaaGreatDoorBw
import Derived.Test.YtfoojmflbifkpaaGreatDoorCp
import Derived.Deep.CutBlock
import Derived.Deep.RegionHeld3

/- What the statements ask of their arguments first: that they are short. And what no error tells. -/
namespace Go.Proofs.YtfoojmflbifkpaaGreatDoor
open Go.RowKit

/-- Short changes: what the statements speak of. -/
def Shorts (l : List Fop) : Prop := l.length ≤ 20 ∧ ∀ x, x ∈ l → x.word.size ≤ 60 ∧ x.value.size ≤ 60

/-- What the asking answers: a bool that, where it is true, tells that the changes are short. -/
def ShortSays (l : List Fop) (w : World) (e : Ending) (w' : World) : Prop := ∃ r, e = .returned (.bool r) ∧ (r = true → Shorts l) ∧ w' = w

theorem law_short_len (l : List Fop) (ad : Option Addr) (cap : Nat) (w : World) (hn : l.length ≤ maxLen) (h : 20 < l.length) :
    Calls Tryz.prog 9 #[.slice ad l.length cap] w fun e w' => e = .returned (.bool false) ∧ w' = w := by
  unfold maxLen at hn
  have h' : 20 < (l.length : Int) := by omega
  go_enter Tryz.func9, Tryz.ntmps9
  go_wp2
  go_ret
  exact ⟨rfl, rfl⟩

theorem law_short_none (ad : Option Addr) (cap : Nat) (w : World) :
    Calls Tryz.prog 9 #[.slice ad 0 cap] w fun e w' => e = .returned (.bool true) ∧ w' = w := by
  go_enter Tryz.func9, Tryz.ntmps9
  go_wp2
  refine wp_loop_rounds 1 ?_
  rw [rounds_succ]
  go_wp2
  go_ret
  exact ⟨rfl, rfl⟩

set_option maxHeartbeats 4000000 in
theorem law_short_at (l : List Fop) (b off cap : Nat) (w : World) (hl : l.length ≤ 20) (hs : ∀ x, x ∈ l → x.word.size ≤ maxLen ∧ x.value.size ≤ maxLen) (h : OpsAt w b off l) :
    Calls Tryz.prog 9 #[.slice (some ⟨b, off, none⟩) l.length cap] w (ShortSays l w) := by
  have H := hide h
  have HS := hide hs
  clear h hs
  have h' : ¬ 20 < (l.length : Int) := by omega
  go_enter Tryz.func9, Tryz.ntmps9
  go_wp2
  go_loop [3] (fun i => ∃ k : Nat, k ≤ l.length ∧ i = .int .i64 k ∧ ∀ j, (hj : j < l.length) → j < k → l[j].word.size ≤ 60 ∧ l[j].value.size ≤ 60) (fun i => l.length - (intOf i).toNat)
  case atStart => exact ⟨0, Nat.zero_le _, rfl, fun j _ h => absurd h (Nat.not_lt_zero _)⟩
  case round =>
    obtain ⟨k, hk, rfl, hz⟩ := hrel
    have HZ := hide hz
    clear hz
    by_cases hlt : k < l.length
    · have hlt' : (k : Int) < (l.length : Int) := by omega
      obtain ⟨_, _, c2, _, _, _, c6⟩ := (unhide H).2 k hlt
      have hq := unhide HS _ (List.getElem_mem hlt)
      unfold maxLen at hq
      by_cases h1 : 60 < l[k].word.size
      · have h1' : 60 < (l[k].word.size : Int) := by omega
        generalize l[k] = o at *
        go_wp2
        go_ret
        exact ⟨false, rfl, (by intro e; cases e), rfl⟩
      · have h1' : ¬ 60 < (l[k].word.size : Int) := by omega
        by_cases h2 : 60 < l[k].value.size
        · have h2' : 60 < (l[k].value.size : Int) := by omega
          generalize l[k] = o at *
          go_wp2
          go_ret
          exact ⟨false, rfl, (by intro e; cases e), rfl⟩
        · have h2' : ¬ 60 < (l[k].value.size : Int) := by omega
          have HN : Hid (∀ j, (hj : j < l.length) → j < k + 1 → l[j].word.size ≤ 60 ∧ l[j].value.size ≤ 60) := by
            intro j hj hjk
            by_cases e : j = k
            · subst e; omega
            · exact unhide HZ j hj (by omega)
          generalize l[k] = o at *
          go_wp2
          go_round
          case rel => exact ⟨k + 1, by omega, by go_num, unhide HN⟩
          case measure => simp [intOf]; omega
    · have hlt' : ¬ (k : Int) < (l.length : Int) := by omega
      have HN : Hid (Shorts l) := ⟨hl, fun x hx => by
        obtain ⟨j, hj, rfl⟩ := List.getElem_of_mem hx
        exact unhide HZ j hj (by omega)⟩
      go_wp2
      go_ret
      exact ⟨true, rfl, fun _ => unhide HN, rfl⟩

/-- Short, or not: the answer true tells that they are. -/
theorem law_short (l : List Fop) (v : Value) (w : World) (hn : l.length ≤ maxLen) (hs : ∀ x, x ∈ l → Small x) (h : ReadsOps w v l) :
    Calls Tryz.prog 9 #[v] w (ShortSays l w) := by
  obtain ⟨ad, cap, rfl, h⟩ := h
  by_cases h20 : 20 < l.length
  · exact (law_short_len l ad cap w hn h20).mono fun e w' ⟨h1, h2⟩ => ⟨false, h1, (by intro e; cases e), h2⟩
  · rcases h with rfl | ⟨b, off, rfl, h⟩
    · exact (law_short_none ad cap w).mono fun e w' ⟨h1, h2⟩ => ⟨true, h1, fun _ => ⟨by simp, by simp⟩, h2⟩
    · exact law_short_at l b off cap w (by omega) hs h

end Go.Proofs.YtfoojmflbifkpaaGreatDoor

/- The law of the past, walked. -/
namespace Go.Proofs.YtfoojmflbifkpaaGreatDoor
open Go.RowKit Go.Maps

/-- One step that was handed in. -/
structure StepN where
  what : Int
  n : Int
  torn : Int
  v : Value
  l : List Fop
def StepsAt (w : World) (ad : Option Addr) (L : List StepN) : Prop :=
  ∀ j, (hj : j < L.length) → ∃ b o, ad = some ⟨b, o, none⟩ ∧ w.cell? ⟨b, o + j * 4, none⟩ = some (.int .i64 L[j].what) ∧ w.cell? ⟨b, o + j * 4 + 1, none⟩ = some (.int .i64 L[j].n) ∧ w.cell? ⟨b, o + j * 4 + 2, none⟩ = some (.int .i64 L[j].torn) ∧ w.cell? ⟨b, o + j * 4 + 3, none⟩ = some L[j].v ∧ ReadsOps w L[j].v L[j].l ∧ L[j].l.length ≤ maxLen ∧ ∀ x, x ∈ L[j].l → Small x
/-- One question that was handed in. -/
structure AskN where
  k : Ky
  a : Int
  b : Int
  t : Int
  lo : Int
  hi : Int
def AsksAt (w : World) (ad : Option Addr) (A : List AskN) : Prop :=
  ∀ j, (hj : j < A.length) → ∃ b o, ad = some ⟨b, o, none⟩ ∧ w.cell? ⟨b, o + j * 9, none⟩ = some (.int .i64 A[j].k.kind) ∧ w.cell? ⟨b, o + j * 9 + 1, none⟩ = some (.int .i64 A[j].k.a) ∧ w.cell? ⟨b, o + j * 9 + 2, none⟩ = some (.string A[j].k.word) ∧ w.cell? ⟨b, o + j * 9 + 3, none⟩ = some (.int .i64 A[j].k.b) ∧ w.cell? ⟨b, o + j * 9 + 4, none⟩ = some (.int .i64 A[j].a) ∧ w.cell? ⟨b, o + j * 9 + 5, none⟩ = some (.int .i64 A[j].b) ∧ w.cell? ⟨b, o + j * 9 + 6, none⟩ = some (.int .i64 A[j].t) ∧ w.cell? ⟨b, o + j * 9 + 7, none⟩ = some (.int .i64 A[j].lo) ∧ w.cell? ⟨b, o + j * 9 + 8, none⟩ = some (.int .i64 A[j].hi) ∧ KyOk A[j].k ∧ -9223372036854775808 ≤ A[j].t ∧ A[j].t ≤ 9223372036854775807

theorem many_eq (a : Int) : wrap64 ((IntKind.u64.wrap a).tmod 151) = pickI a 151 := pick_eq a 151 (by decide) (by decide)

set_option maxRecDepth 100000 in
set_option maxHeartbeats 4000000 in
theorem law_past (w : World) (L : List StepN) (A : List AskN) (many : Int) (ad aa : Option Addr) (cl ca : Nat) (hL : StepsAt w ad L) (hA : AsksAt w aa A) (hl : L.length ≤ 25) (ha : A.length ≤ 15) (ht : Tab w) (hg : ErrorType w) :
    Calls Tryz.prog 3 #[.slice ad L.length cl, .slice aa A.length ca, .int .i64 many] w fun e w' => e = .returned (.bool true) ∧ Below w.heap.size w w' := by
  have HS := hide (pp_start w)
  have HL := hide hL
  have HA := hide hA
  have HT := hide ht
  have HG := hide hg
  have hlz : ¬ (25 : Int) < (L.length : Int) := by omega
  have haz : ¬ (15 : Int) < (A.length : Int) := by omega
  have hm0 := pickI_lt many 151 (by decide)
  have HM := hide (many_eq many)
  clear hL hA ht hg
  obtain ⟨nL, hnL⟩ : ∃ n, n = L.length := ⟨_, rfl⟩
  obtain ⟨nA, hnA⟩ : ∃ n, n = A.length := ⟨_, rfl⟩
  rw [← hnL] at hlz hl ⊢
  rw [← hnA] at haz ha ⊢
  have HNL := hide hnL
  have HNA := hide hnA
  clear hnL hnA
  go_enter Tryz.func3, Tryz.ntmps3
  go_wp2_with fail
  have HE0 : Hid (PpE w (((w.alloc (.cells #[.int .i64 0, .int .i64 0, .map none] 26)).alloc (.cells #[.slice none 0 0, .int .i64 0] 30)).alloc (.cells #[.int .i64 1, .int .i64 7, .string ⟨#[]⟩, .int .i64 0, .int .i64 1, .int .i64 2, .string ⟨#[120]⟩] 36))) := ⟨_, _, _, _, unhide HS⟩
  clear HS
  generalize ((w.alloc (.cells #[.int .i64 0, .int .i64 0, .map none] 26)).alloc (.cells #[.slice none 0 0, .int .i64 0] 30)).alloc (.cells #[.int .i64 1, .int .i64 7, .string ⟨#[]⟩, .int .i64 0, .int .i64 1, .int .i64 2, .string ⟨#[120]⟩] 36) = W0 at *
  go_loopw [10] (fun i y => ∃ k : Nat, (k : Int) ≤ pickI many 151 ∧ i = .int .i64 k ∧ PpE w y) (fun i _ => (pickI many 151).toNat - (intOf i).toNat)
  case atStart => exact ⟨0, hm0.1, rfl, unhide HE0⟩
  case round =>
    obtain ⟨k, hk, rfl, hE⟩ := hrel
    have HE := hide hE
    clear hE HE0
    by_cases hlt : (k : Int) < pickI many 151
    · obtain ⟨txs, known, F, G, hI⟩ := unhide HE
      have HI := hide hI
      have HC := hide (two_commit_one hI (unhide HT) (unhide HG))
      have hlt' : (k : Int) < wrap64 ((IntKind.u64.wrap many).tmod 151) := by rw [unhide HM]; exact hlt
      clear hI hlt
      unfold CommitSays at HC
      go_wp2_with fail
      refine (unhide HC).mono ?_
      rintro e y1 ⟨u, rfl, hk1, hC1⟩
      have HK1 := hide hk1
      have HC1 := hide hC1
      clear hk1 hC1 HC
      go_wp2_with fail
      refine (unhide HC1).mono ?_
      rintro e y2 ⟨n, i, rfl, hk2, hE2, hC2⟩
      have HE2 := hide hE2
      have HC2 := hide hC2
      clear hk2 hE2 hC2 HC1
      go_wp2_with fail
      refine (unhide HC2).mono ?_
      rintro e y3 ⟨rfl, b3⟩
      have HE3 := hide ((unhide HE2).below b3)
      clear b3 HC2 HE2
      go_wp2
      go_roundw
      case rel => exact ⟨k + 1, by have := unhide HM; omega, by go_num, unhide HE3⟩
      case measure => have := unhide HM; simp [intOf]; omega
    · have hlt' : ¬ (k : Int) < wrap64 ((IntKind.u64.wrap many).tmod 151) := by rw [unhide HM]; exact hlt
      clear hlt hk
      go_wp2_with fail
      clear hlt' HM hm0
      go_loopw [11] (fun i y => ∃ k : Nat, k ≤ nL ∧ i = .int .i64 k ∧ PpE w y) (fun i _ => nL - (intOf i).toNat)
      case atStart => exact ⟨0, Nat.zero_le _, rfl, unhide HE⟩
      case round =>
        obtain ⟨k, hk, rfl, hE⟩ := hrel
        have HE1 := hide hE
        clear hE HE
        by_cases hlt : k < nL
        · have hlt' : (k : Int) < (nL : Int) := by omega
          have hk0 : (0 : Int) ≤ (k : Int) := by omega
          have HN1 : Hid (k < L.length) := by rw [← unhide HNL]; exact hlt
          obtain ⟨b, o, rfl, x0, x1, x2, x3, hR, hn, hs⟩ := unhide HL k (unhide HN1)
          have q0 := ((unhide HE1).low.cell (p := _) (lt_of_cell x0)).trans x0
          have q1 := ((unhide HE1).low.cell (p := _) (lt_of_cell x1)).trans x1
          have q2 := ((unhide HE1).low.cell (p := _) (lt_of_cell x2)).trans x2
          have q3 := ((unhide HE1).low.cell (p := _) (lt_of_cell x3)).trans x3
          have HR := hide hR
          have HNm := hide hn
          have HSm := hide hs
          clear x0 x1 x2 x3 hR hn hs
          generalize L[k] = z at *
          obtain ⟨what, xn, torn, v, l⟩ := z
          dsimp only at *
          obtain ⟨ad', cap', hv, _⟩ := unhide HR
          subst hv
          obtain ⟨txs, known, F, G, hI⟩ := unhide HE1
          have hb1 := below_box wr (.cells #[.int .i64 what, .int .i64 xn, .int .i64 torn, .slice ad' l.length cap'] 48)
          have HI1 := hide (hI.below hb1)
          have HFx : Hid (¬ F wr.heap.size) := fun q => absurd (PastW.lt hI.two.p _ q) (Nat.lt_irrefl _)
          have HRx : Hid (¬ wr.heap.size = w.heap.size + 1) := by have := hI.one.1; unfold Hid; omega
          have hsl : ∀ i, i < 4 → (wr.alloc (.cells #[.int .i64 what, .int .i64 xn, .int .i64 torn, .slice ad' l.length cap'] 48)).cell? ⟨wr.heap.size, i, none⟩ = (#[.int .i64 what, .int .i64 xn, .int .i64 torn, .slice ad' l.length cap'] : Array Value)[i]? := fun i _ => by rw [World.cell?_alloc_at _ _ _ _ rfl]
          have c0 := hsl 0 (by decide)
          have c1 := hsl 1 (by decide)
          have c3 := hsl 3 (by decide)
          simp only [List.getElem?_toArray, List.getElem?_cons_zero, List.getElem?_cons_succ] at c0 c1 c3
          clear hI hsl hb1 HE1
          go_upto_region 15 with fail
          generalize wr.alloc (.cells #[.int .i64 what, .int .i64 xn, .int .i64 torn, .slice ad' l.length cap'] 48) = W1 at *
          have HSh := hide (law_short l _ W1 (unhide HNm) (unhide HSm) ((unhide HR).carry (unhide HI1).low))
          go_wp2_with fail
          refine (unhide HSh).mono ?_
          rintro e W2 ⟨r, rfl, hsh, hW2⟩
          obtain rfl : W1 = W2 := hW2.symm
          clear hW2 HSh q0 q1 q2 q3
          cases r with
          | false =>
            clear hsh c0 c1 c3
            go_wp2
            go_roundw
            case rel => exact ⟨k + 1, by omega, by go_num, ⟨_, _, _, _, unhide HI1⟩⟩
            case measure => simp [intOf]; omega
          | true =>
            have HSo := hide (hsh rfl)
            clear hsh
            have HD := hide (below_drew W1)
            have C1 := hide (there_yet c1 (unhide HD))
            have C3 := hide (there_yet c3 (unhide HD))
            go_upto_block 4 with fail
            go_cut [59] (fun s59 wx => PpE w wx)
            case first =>
              by_cases hw0 : what = 0
              · subst hw0
                have hCo := two_commit_in ((unhide HI1).below (unhide HD)) (unhide HT) (unhide HG) l _ (Nat.lt_of_le_of_lt (unhide HSo).1 (by decide)) (unhide HSm) (unhide HR)
                unfold CommitSays at hCo
                have HCo := hide hCo
                clear hCo
                go_upto_region 18 with fail
                refine wp_region_held_drew (S := fun x => x.cell? ⟨wr.heap.size, 3, none⟩ = some (.slice ad' l.length cap')) (by kernel_rfl) (unhide C3) (fun hHeld => ?_)
                refine wpAnyH_take (i := 0) (oi := ?to0_1) (v := ?tv0_1) ?th0_1 (by kernel_rfl) (by kernel_rfl) (by kernel_rfl) ?tq0_1 (Or.inl ⟨?tw0_1, ?ty0_1⟩) (by assumption) ?tr0_1
                case th0_1 => (simp only [List.getElem?_toArray, List.getElem?_cons_zero]; rfl)
                case tq0_1 => exact fun _ _ _ h => h
                case tw0_1 => rfl
                case ty0_1 => (intro w' hSw; (try dsimp only at hSw); go_simp <;> with_reducible rfl)
                try simp only [Act.put, List.setIfInBounds_toArray, List.set_cons_zero, List.set_cons_succ]
                refine wpAnyH_take (i := 1) (oi := ?to1_1) (v := ?tv1_1) ?th1_1 (by kernel_rfl) (by kernel_rfl) (by kernel_rfl) ?tq1_1 (Or.inl ⟨?tw1_1, ?ty1_1⟩) (by assumption) ?tr1_1
                case th1_1 => (simp only [List.getElem?_toArray, List.getElem?_cons_zero, List.getElem?_cons_succ]; rfl)
                case tq1_1 => exact fun _ _ _ h => h
                case tw1_1 => rfl
                case ty1_1 => (intro w' hSw; (try dsimp only at hSw); go_simp <;> with_reducible rfl)
                try simp only [Act.put, List.setIfInBounds_toArray, List.set_cons_zero, List.set_cons_succ]
                refine wpAnyH_take (i := 3) (oi := ?to3_1) (v := ?tv3_1) ?th3_1 (by kernel_rfl) (by kernel_rfl) (by kernel_rfl) ?tq3_1 (Or.inl ⟨?tw3_1, ?ty3_1⟩) (by assumption) ?tr3_1
                case th3_1 => (simp only [List.getElem?_toArray, List.getElem?_cons_zero, List.getElem?_cons_succ]; rfl)
                case tq3_1 => exact fun _ _ _ h => h
                case tw3_1 => rfl
                case ty3_1 => (intro w' hSw; (try dsimp only at hSw); go_simp <;> with_reducible rfl)
                try simp only [Act.put, List.setIfInBounds_toArray, List.set_cons_zero, List.set_cons_succ]
                refine wpAnyH_take (i := 4) (oi := ?to4_1) (v := ?tv4_1) ?th4_1 (by kernel_rfl) (by kernel_rfl) (by kernel_rfl) ?tq4_1 (Or.inl ⟨?tw4_1, ?ty4_1⟩) (by assumption) ?tr4_1
                case th4_1 => (simp only [List.getElem?_toArray, List.getElem?_cons_zero, List.getElem?_cons_succ]; rfl)
                case tq4_1 => exact fun _ _ _ h => h
                case tw4_1 => rfl
                case ty4_1 => (intro w' hSw; (try dsimp only at hSw); go_simp <;> with_reducible rfl)
                try simp only [Act.put, List.setIfInBounds_toArray, List.set_cons_zero, List.set_cons_succ]
                refine wpAnyH_take (i := 5) (oi := ?to5_1) (v := ?tv5_1) ?th5_1 (by kernel_rfl) (by kernel_rfl) (by kernel_rfl) ?tq5_1 (Or.inl ⟨?tw5_1, ?ty5_1⟩) (by assumption) ?tr5_1
                case th5_1 => (simp only [List.getElem?_toArray, List.getElem?_cons_zero, List.getElem?_cons_succ]; rfl)
                case tq5_1 => exact fun _ _ _ h => h
                case tw5_1 => rfl
                case ty5_1 => (intro w' hSw; (try dsimp only at hSw); go_simp <;> with_reducible rfl)
                try simp only [Act.put, List.setIfInBounds_toArray, List.set_cons_zero, List.set_cons_succ]
                refine wpAnyH_ready (rs := [2]) (by kernel_rfl) (by simp) ?_
                refine AllReadyH.cons (o := ?co2) ?ch2 (fun K hK => ?cs2) ?cm2
                case ch2 => (simp only [List.getElem?_toArray, List.getElem?_cons_zero, List.getElem?_cons_succ]; rfl)
                case cm2 => exact AllReadyH.nil
                case cs2 =>
                  go_simp
                  refine (unhide HCo).mono ?_
                  rintro e y1 ⟨u, rfl, hk1, hC1⟩
                  have HX1 : Hid (y1.cell? ⟨wr.heap.size, 3, none⟩ = some (.slice ad' l.length cap')) := (hk1.cell (p := ⟨wr.heap.size, 3, none⟩) (lt_of_cell (unhide C3)) (unhide HFx)).trans (unhide C3)
                  have HC1 := hide hC1
                  clear hk1 hC1
                  refine hK.out _ _ (unhide HX1) (fun hHeld => ?_)
                  clear hK K
                  try simp only [Act.put, List.setIfInBounds_toArray, List.set_cons_zero, List.set_cons_succ]
                  refine wpAnyH_ready (rs := [6]) (by kernel_rfl) (by simp) ?_
                  refine AllReadyH.cons (o := ?co6) ?ch6 (fun K hK => ?cs6) ?cm6
                  case ch6 => (simp only [List.getElem?_toArray, List.getElem?_cons_zero, List.getElem?_cons_succ]; rfl)
                  case cm6 => exact AllReadyH.nil
                  case cs6 =>
                    go_simp
                    refine (unhide HC1).mono ?_
                    rintro e y2 ⟨n, i, rfl, hk2, hE2, hC2⟩
                    have HX2 : Hid (y2.cell? ⟨wr.heap.size, 3, none⟩ = some (.slice ad' l.length cap')) := (hk2.cell (p := ⟨wr.heap.size, 3, none⟩) (lt_of_cell (unhide HX1)) (unhide HRx)).trans (unhide HX1)
                    have HE2 := hide hE2
                    have HC2 := hide hC2
                    clear hk2 hE2 hC2
                    refine hK.out _ _ (unhide HX2) (fun hHeld => ?_)
                    clear hK K
                    try simp only [Act.put, List.setIfInBounds_toArray, List.set_cons_zero, List.set_cons_succ]
                    refine wpAnyH_ready (rs := [7]) (by kernel_rfl) (by simp) ?_
                    refine AllReadyH.cons (o := ?co7) ?ch7 (fun K hK => ?cs7) ?cm7
                    case ch7 => (simp only [List.getElem?_toArray, List.getElem?_cons_zero, List.getElem?_cons_succ]; rfl)
                    case cm7 => exact AllReadyH.nil
                    case cs7 =>
                      go_simp
                      refine (unhide HC2).mono ?_
                      rintro e y3 ⟨rfl, b3⟩
                      have HE3 := hide ((unhide HE2).below b3)
                      have HX3 := hide (there_yet (unhide HX2) b3)
                      clear b3
                      refine hK.out _ _ (unhide HX3) (fun hHeld => ?_)
                      clear hK K
                      try simp only [Act.put, List.setIfInBounds_toArray, List.set_cons_zero, List.set_cons_succ]
                      refine wpAnyH_take (i := 8) (oi := ?to8_2) (v := ?tv8_2) ?th8_2 (by kernel_rfl) (by kernel_rfl) (by kernel_rfl) ?tq8_2 (Or.inl ⟨?tw8_2, ?ty8_2⟩) (by assumption) ?tr8_2
                      case th8_2 => (simp only [List.getElem?_toArray, List.getElem?_cons_zero, List.getElem?_cons_succ]; rfl)
                      case tq8_2 => exact fun _ _ _ h => h
                      case tw8_2 => rfl
                      case ty8_2 => (intro w' hSw; (try dsimp only at hSw); go_simp <;> with_reducible rfl)
                      try simp only [Act.put, List.setIfInBounds_toArray, List.set_cons_zero, List.set_cons_succ]
                      refine wpAnyH_done (by kernel_rfl) ?_ _
                      clear hHeld
                      go_wp2
                      go_meet
                      case rel => exact unhide HE3
              · by_cases hw1 : what = 1
                · subst hw1
                  have hCo := two_forget ((unhide HI1).below (unhide HD)) (unhide HG) xn
                  unfold ForgetSays at hCo
                  have HCo := hide hCo
                  clear hCo
                  go_upto_region 21 with fail
                  refine wp_region_held_drew (S := fun x => x.cell? ⟨wr.heap.size, 1, none⟩ = some (.int .i64 xn)) (by kernel_rfl) (unhide C1) (fun hHeld => ?_)
                  refine wpAnyH_take (i := 0) (oi := ?to0_3) (v := ?tv0_3) ?th0_3 (by kernel_rfl) (by kernel_rfl) (by kernel_rfl) ?tq0_3 (Or.inl ⟨?tw0_3, ?ty0_3⟩) (by assumption) ?tr0_3
                  case th0_3 => (simp only [List.getElem?_toArray, List.getElem?_cons_zero]; rfl)
                  case tq0_3 => exact fun _ _ _ h => h
                  case tw0_3 => rfl
                  case ty0_3 => (intro w' hSw; (try dsimp only at hSw); go_simp <;> with_reducible rfl)
                  try simp only [Act.put, List.setIfInBounds_toArray, List.set_cons_zero, List.set_cons_succ]
                  refine wpAnyH_take (i := 1) (oi := ?to1_3) (v := ?tv1_3) ?th1_3 (by kernel_rfl) (by kernel_rfl) (by kernel_rfl) ?tq1_3 (Or.inl ⟨?tw1_3, ?ty1_3⟩) (by assumption) ?tr1_3
                  case th1_3 => (simp only [List.getElem?_toArray, List.getElem?_cons_zero, List.getElem?_cons_succ]; rfl)
                  case tq1_3 => exact fun _ _ _ h => h
                  case tw1_3 => rfl
                  case ty1_3 => (intro w' hSw; (try dsimp only at hSw); go_simp <;> with_reducible rfl)
                  try simp only [Act.put, List.setIfInBounds_toArray, List.set_cons_zero, List.set_cons_succ]
                  refine wpAnyH_take (i := 3) (oi := ?to3_3) (v := ?tv3_3) ?th3_3 (by kernel_rfl) (by kernel_rfl) (by kernel_rfl) ?tq3_3 (Or.inl ⟨?tw3_3, ?ty3_3⟩) (by assumption) ?tr3_3
                  case th3_3 => (simp only [List.getElem?_toArray, List.getElem?_cons_zero, List.getElem?_cons_succ]; rfl)
                  case tq3_3 => exact fun _ _ _ h => h
                  case tw3_3 => rfl
                  case ty3_3 => (intro w' hSw; (try dsimp only at hSw); go_simp <;> with_reducible rfl)
                  try simp only [Act.put, List.setIfInBounds_toArray, List.set_cons_zero, List.set_cons_succ]
                  refine wpAnyH_take (i := 4) (oi := ?to4_3) (v := ?tv4_3) ?th4_3 (by kernel_rfl) (by kernel_rfl) (by kernel_rfl) ?tq4_3 (Or.inl ⟨?tw4_3, ?ty4_3⟩) (by assumption) ?tr4_3
                  case th4_3 => (simp only [List.getElem?_toArray, List.getElem?_cons_zero, List.getElem?_cons_succ]; rfl)
                  case tq4_3 => exact fun _ _ _ h => h
                  case tw4_3 => rfl
                  case ty4_3 => (intro w' hSw; (try dsimp only at hSw); go_simp <;> with_reducible rfl)
                  try simp only [Act.put, List.setIfInBounds_toArray, List.set_cons_zero, List.set_cons_succ]
                  refine wpAnyH_take (i := 5) (oi := ?to5_3) (v := ?tv5_3) ?th5_3 (by kernel_rfl) (by kernel_rfl) (by kernel_rfl) ?tq5_3 (Or.inl ⟨?tw5_3, ?ty5_3⟩) (by assumption) ?tr5_3
                  case th5_3 => (simp only [List.getElem?_toArray, List.getElem?_cons_zero, List.getElem?_cons_succ]; rfl)
                  case tq5_3 => exact fun _ _ _ h => h
                  case tw5_3 => rfl
                  case ty5_3 => (intro w' hSw; (try dsimp only at hSw); go_simp <;> with_reducible rfl)
                  try simp only [Act.put, List.setIfInBounds_toArray, List.set_cons_zero, List.set_cons_succ]
                  refine wpAnyH_ready (rs := [2]) (by kernel_rfl) (by simp) ?_
                  refine AllReadyH.cons (o := ?fo2) ?fh2 (fun K hK => ?fs2) ?fm2
                  case fh2 => (simp only [List.getElem?_toArray, List.getElem?_cons_zero, List.getElem?_cons_succ]; rfl)
                  case fm2 => exact AllReadyH.nil
                  case fs2 =>
                    go_simp
                    refine (unhide HCo).mono ?_
                    rintro e y1 ⟨u, rfl, hk1, hC1⟩
                    have HX1 : Hid (y1.cell? ⟨wr.heap.size, 1, none⟩ = some (.int .i64 xn)) := (hk1.cell (p := ⟨wr.heap.size, 1, none⟩) (lt_of_cell (unhide C1)) (unhide HFx)).trans (unhide C1)
                    have HC1 := hide hC1
                    clear hk1 hC1
                    refine hK.out _ _ (unhide HX1) (fun hHeld => ?_)
                    clear hK K
                    try simp only [Act.put, List.setIfInBounds_toArray, List.set_cons_zero, List.set_cons_succ]
                    refine wpAnyH_ready (rs := [6]) (by kernel_rfl) (by simp) ?_
                    refine AllReadyH.cons (o := ?fo6) ?fh6 (fun K hK => ?fs6) ?fm6
                    case fh6 => (simp only [List.getElem?_toArray, List.getElem?_cons_zero, List.getElem?_cons_succ]; rfl)
                    case fm6 => exact AllReadyH.nil
                    case fs6 =>
                      go_simp
                      refine (unhide HC1).mono ?_
                      rintro e y2 ⟨n, rfl, hk2, hE2, hC2⟩
                      have HX2 : Hid (y2.cell? ⟨wr.heap.size, 1, none⟩ = some (.int .i64 xn)) := (hk2.cell (p := ⟨wr.heap.size, 1, none⟩) (lt_of_cell (unhide HX1)) (unhide HRx)).trans (unhide HX1)
                      have HE2 := hide hE2
                      have HC2 := hide hC2
                      clear hk2 hE2 hC2
                      refine hK.out _ _ (unhide HX2) (fun hHeld => ?_)
                      clear hK K
                      try simp only [Act.put, List.setIfInBounds_toArray, List.set_cons_zero, List.set_cons_succ]
                      refine wpAnyH_ready (rs := [7]) (by kernel_rfl) (by simp) ?_
                      refine AllReadyH.cons (o := ?fo7) ?fh7 (fun K hK => ?fs7) ?fm7
                      case fh7 => (simp only [List.getElem?_toArray, List.getElem?_cons_zero, List.getElem?_cons_succ]; rfl)
                      case fm7 => exact AllReadyH.nil
                      case fs7 =>
                        go_simp
                        refine (unhide HC2).mono ?_
                        rintro e y3 ⟨rfl, b3⟩
                        have HE3 := hide ((unhide HE2).below b3)
                        have HX3 := hide (there_yet (unhide HX2) b3)
                        clear b3
                        refine hK.out _ _ (unhide HX3) (fun hHeld => ?_)
                        clear hK K
                        try simp only [Act.put, List.setIfInBounds_toArray, List.set_cons_zero, List.set_cons_succ]
                        refine wpAnyH_take (i := 8) (oi := ?to8_4) (v := ?tv8_4) ?th8_4 (by kernel_rfl) (by kernel_rfl) (by kernel_rfl) ?tq8_4 (Or.inl ⟨?tw8_4, ?ty8_4⟩) (by assumption) ?tr8_4
                        case th8_4 => (simp only [List.getElem?_toArray, List.getElem?_cons_zero, List.getElem?_cons_succ]; rfl)
                        case tq8_4 => exact fun _ _ _ h => h
                        case tw8_4 => rfl
                        case ty8_4 => (intro w' hSw; (try dsimp only at hSw); go_simp <;> with_reducible rfl)
                        try simp only [Act.put, List.setIfInBounds_toArray, List.set_cons_zero, List.set_cons_succ]
                        refine wpAnyH_done (by kernel_rfl) ?_ _
                        clear hHeld
                        go_wp2
                        go_meet
                        case rel => exact unhide HE3
                · go_wp2
                  go_meet
                  case rel => exact ⟨_, _, _, _, unhide HI1⟩
            case rest =>
            have HE4 := hide hcut
            clear hcut HI1 HFx HRx HSo HD C1 C3 c0 c1 c3 HNm HSm HR
            by_cases hA0 : nA = 0
            · subst hA0
              go_wp2
              go_roundw
              case rel => exact ⟨k + 1, by omega, by go_num, unhide HE4⟩
              case measure => simp [intOf]; omega
            · have hA1 : (0 : Int) < (nA : Int) := by omega
              have hA2 : ¬ (nA : Int) = 0 := by omega
              have hrm : (k : Int).tmod (nA : Int) = ((k % nA : Nat) : Int) := by
                rw [Int.tmod_eq_emod_of_nonneg (by omega)]
                exact (Int.natCast_emod k nA).symm
              have hjl : k % nA < nA := Nat.mod_lt _ (by omega)
              have hj1 : ((k % nA : Nat) : Int) < (nA : Int) := by omega
              have hj0 : (0 : Int) ≤ ((k % nA : Nat) : Int) := by omega
              have HNj : Hid (k % nA < A.length) := by rw [← unhide HNA]; exact hjl
              generalize k % nA = j at *
              obtain ⟨b', o', rfl, a0, a1, a2, a3, a4, a5, a6, a7, a8, hky, ht0, ht1⟩ := unhide HA j (unhide HNj)
              have p0 := ((unhide HE4).low.cell (p := _) (lt_of_cell a0)).trans a0
              have p1 := ((unhide HE4).low.cell (p := _) (lt_of_cell a1)).trans a1
              have p2 := ((unhide HE4).low.cell (p := _) (lt_of_cell a2)).trans a2
              have p3 := ((unhide HE4).low.cell (p := _) (lt_of_cell a3)).trans a3
              have p4 := ((unhide HE4).low.cell (p := _) (lt_of_cell a4)).trans a4
              have p5 := ((unhide HE4).low.cell (p := _) (lt_of_cell a5)).trans a5
              have p6 := ((unhide HE4).low.cell (p := _) (lt_of_cell a6)).trans a6
              have p7 := ((unhide HE4).low.cell (p := _) (lt_of_cell a7)).trans a7
              have p8 := ((unhide HE4).low.cell (p := _) (lt_of_cell a8)).trans a8
              clear a0 a1 a2 a3 a4 a5 a6 a7 a8
              generalize A[j] = z at *
              obtain ⟨ky, qa, qb, qt, qlo, qhi⟩ := z
              dsimp only at *
              obtain ⟨txs', known', F', G', hI'⟩ := unhide HE4
              have HTl := hide (law_tells hI'.two ((unhide HG).carry hI'.low) ky hky qa qb qt qlo qhi ht0 ht1)
              clear hI' hky ht0 ht1
              go_wp2_with fail
              refine (unhide HTl).mono ?_
              rintro e y5 ⟨rfl, b5⟩
              have HE5 := hide ((unhide HE4).below b5)
              clear b5 HTl
              go_wp2
              go_roundw
              case rel => exact ⟨k + 1, by omega, by go_num, unhide HE5⟩
              case measure => simp [intOf]; omega
        · have hlt' : ¬ (k : Int) < (nL : Int) := by omega
          clear hlt hk
          go_wp2_with fail
          clear hlt'
          go_loopw [13] (fun i y => ∃ k : Nat, k ≤ nA ∧ i = .int .i64 k ∧ PpE w y) (fun i _ => nA - (intOf i).toNat)
          case atStart => exact ⟨0, Nat.zero_le _, rfl, unhide HE1⟩
          case round =>
            obtain ⟨k, hk, rfl, hE⟩ := hrel
            have HE4 := hide hE
            clear hE HE1
            by_cases hlt : k < nA
            · have hlt' : (k : Int) < (nA : Int) := by omega
              have hk0 : (0 : Int) ≤ (k : Int) := by omega
              have HNj : Hid (k < A.length) := by rw [← unhide HNA]; exact hlt
              obtain ⟨b', o', rfl, a0, a1, a2, a3, a4, a5, a6, a7, a8, hky, ht0, ht1⟩ := unhide HA k (unhide HNj)
              have p0 := ((unhide HE4).low.cell (p := _) (lt_of_cell a0)).trans a0
              have p1 := ((unhide HE4).low.cell (p := _) (lt_of_cell a1)).trans a1
              have p2 := ((unhide HE4).low.cell (p := _) (lt_of_cell a2)).trans a2
              have p3 := ((unhide HE4).low.cell (p := _) (lt_of_cell a3)).trans a3
              have p4 := ((unhide HE4).low.cell (p := _) (lt_of_cell a4)).trans a4
              have p5 := ((unhide HE4).low.cell (p := _) (lt_of_cell a5)).trans a5
              have p6 := ((unhide HE4).low.cell (p := _) (lt_of_cell a6)).trans a6
              have p7 := ((unhide HE4).low.cell (p := _) (lt_of_cell a7)).trans a7
              have p8 := ((unhide HE4).low.cell (p := _) (lt_of_cell a8)).trans a8
              clear a0 a1 a2 a3 a4 a5 a6 a7 a8
              generalize A[k] = z at *
              obtain ⟨ky, qa, qb, qt, qlo, qhi⟩ := z
              dsimp only at *
              obtain ⟨txs', known', F', G', hI'⟩ := unhide HE4
              have HTl := hide (law_tells hI'.two ((unhide HG).carry hI'.low) ky hky qa qb qt qlo qhi ht0 ht1)
              clear hI' hky ht0 ht1
              go_wp2_with fail
              refine (unhide HTl).mono ?_
              rintro e y5 ⟨rfl, b5⟩
              have HE5 := hide ((unhide HE4).below b5)
              clear b5 HTl
              go_wp2
              go_roundw
              case rel => exact ⟨k + 1, by omega, by go_num, unhide HE5⟩
              case measure => simp [intOf]; omega
            · have hlt' : ¬ (k : Int) < (nA : Int) := by omega
              go_wp2
              go_ret
              exact ⟨rfl, (unhide HE4).low⟩

end Go.Proofs.YtfoojmflbifkpaaGreatDoor
