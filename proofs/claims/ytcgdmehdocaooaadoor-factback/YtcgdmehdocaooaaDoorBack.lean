/- FactBack, walked. -/
import Derived.Test.YtcgdmehdocaooaaDoorKShort
import Derived.Test.YtcgdmehdocaooaaDoorKCmp
import Derived.Test.YtcgdmehdocaooaaDoorFacts
namespace Go.Proofs.YtcgdmehdocaooaaDoor
open Go.RowKit

def keyV (k a : Int) (s : ByteArray) (b : Int) : Value := .agg #[.int .i64 k, .int .i64 a, .string s, .int .i64 b]
def keyO (k a : Int) (s : ByteArray) (b : Int) : Obj := .cells #[.int .i64 k, .int .i64 a, .string s, .int .i64 b] 49

theorem opB_small (o : Fop) (h : opB o = true) : Small o := by
  obtain ⟨_, _, _, _, h1, h2⟩ := op_parts o h
  have key : ∀ (s : ByteArray), WordOrNone s.data.toList → s.size ≤ maxLen := fun s hs => by
    have e : s.data.toList.length = s.size := Array.length_toList
    rcases hs with hs | hs
    · rw [hs] at e
      rw [← e]
      exact Nat.zero_le _
    · have := (word_length _ hs).2
      unfold maxLen
      omega
  exact ⟨key _ h1, key _ h2⟩

theorem key_same (k a : Int) (s : ByteArray) (b k' a' : Int) (s' : ByteArray) (b' : Int) : sameKey k a s b k' a' s' b' = decide (keyCmp k a s b k' a' s' b' = 0) := by
  have h := key_zero k a s b k' a' s' b'
  unfold sameKey
  by_cases e : keyCmp k a s b k' a' s' b' = 0
  · obtain ⟨h1, h2, h3, h4⟩ := h.1 e
    rw [decide_eq_true e, decide_eq_true h1, decide_eq_true h2, decide_eq_true h3, decide_eq_true h4]
    rfl
  · have : ¬ (k = k' ∧ a = a' ∧ s.toList = s'.toList ∧ b = b') := fun g => e (h.2 g)
    simp only [e, decide_false]
    cases hb : (decide (k = k') && (decide (a = a') && (decide (s.toList = s'.toList) && decide (b = b')))) with
    | false => rfl
    | true =>
      simp only [Bool.and_eq_true, decide_eq_true_eq] at hb
      exact absurd hb this

theorem key_eql (k a : Int) (s : ByteArray) (b k' a' : Int) (s' : ByteArray) (b' : Int) (w : World) :
    (binOp .eql 49 (.agg #[.int .i64 k, .int .i64 a, .string s, .int .i64 b]) (.agg #[.int .i64 k', .int .i64 a', .string s', .int .i64 b'])).run Tryd.prog w = .ok (.bool (sameKey k a s b k' a' s' b')) w := by
  unfold sameKey
  simp [go_sem]
  split
  · split
    · split
      · split <;> simp_all
      · simp_all
    · simp_all
  · simp_all

/-- The three keys' boxes. -/
def Keys3 (k a : Int) (s : ByteArray) (b k' a' : Int) (s' : ByteArray) (b' k'' a'' : Int) (s'' : ByteArray) (b'' : Int) (w x : World) : Prop :=
  (x.cell? ⟨w.heap.size, 0, none⟩ = some (.int .i64 k) ∧ x.cell? ⟨w.heap.size, 1, none⟩ = some (.int .i64 a) ∧ x.cell? ⟨w.heap.size, 2, none⟩ = some (.string s) ∧ x.cell? ⟨w.heap.size, 3, none⟩ = some (.int .i64 b)) ∧
  (x.cell? ⟨w.heap.size + 1, 0, none⟩ = some (.int .i64 k') ∧ x.cell? ⟨w.heap.size + 1, 1, none⟩ = some (.int .i64 a') ∧ x.cell? ⟨w.heap.size + 1, 2, none⟩ = some (.string s') ∧ x.cell? ⟨w.heap.size + 1, 3, none⟩ = some (.int .i64 b')) ∧
  (x.cell? ⟨w.heap.size + 1 + 1, 0, none⟩ = some (.int .i64 k'') ∧ x.cell? ⟨w.heap.size + 1 + 1, 1, none⟩ = some (.int .i64 a'') ∧ x.cell? ⟨w.heap.size + 1 + 1, 2, none⟩ = some (.string s'') ∧ x.cell? ⟨w.heap.size + 1 + 1, 3, none⟩ = some (.int .i64 b'')) ∧ Below w.heap.size w x

theorem Keys3.carry {k a : Int} {s : ByteArray} {b k' a' : Int} {s' : ByteArray} {b' k'' a'' : Int} {s'' : ByteArray} {b'' : Int} {w x y : World} (h : Keys3 k a s b k' a' s' b' k'' a'' s'' b'' w x) (hb : Below x.heap.size x y) : Keys3 k a s b k' a' s' b' k'' a'' s'' b'' w y :=
  ⟨cells_carry h.1 hb, cells_carry h.2.1 hb, cells_carry h.2.2.1 hb, h.2.2.2.trans (hb.mono h.2.2.2.size)⟩

theorem keys3_new (k a : Int) (s : ByteArray) (b k' a' : Int) (s' : ByteArray) (b' k'' a'' : Int) (s'' : ByteArray) (b'' : Int) (w : World) : Keys3 k a s b k' a' s' b' k'' a'' s'' b'' w (((w.alloc (keyO k a s b)).alloc (keyO k' a' s' b')).alloc (keyO k'' a'' s'' b'')) := by
  unfold Keys3 keyO
  refine ⟨⟨?_, ?_, ?_, ?_⟩, ⟨?_, ?_, ?_, ?_⟩, ⟨?_, ?_, ?_, ?_⟩, (((Below.refl _ _).alloc (Nat.le_refl _) _).alloc (by simp) _).alloc (by simp; omega) _⟩
  all_goals simp [go_sem]

set_option maxRecDepth 100000 in
set_option maxHeartbeats 4000000 in
theorem factBack_walk (l : List Fop) (v : Value) (t : ByteArray) (k a : Int) (s : ByteArray) (b k' a' : Int) (s' : ByteArray) (b' k'' a'' : Int) (s'' : ByteArray) (b'' : Int) (w : World)
    (hn : l.length ≤ maxLen) (hs : ∀ x, x ∈ l → Small x) (h : ReadsOps w v l) (htz : t.size ≤ maxLen) (ht : Tab w) (hl : Libs w) :
    Calls Tryd.prog 5 #[v, .string t, .agg #[.int .i64 k, .int .i64 a, .string s, .int .i64 b], .agg #[.int .i64 k', .int .i64 a', .string s', .int .i64 b'], .agg #[.int .i64 k'', .int .i64 a'', .string s'', .int .i64 b'']] w fun e w' => e = .returned (.bool true) ∧ Below w.heap.size w w' := by
  have HSH := hide (fun W (hW : Below w.heap.size w W) => keep_short l v W hn hs (h.carry hW))
  have hl0 : ∃ ad cap, v = .slice ad l.length cap := by obtain ⟨ad, cap, e, _⟩ := h; exact ⟨ad, cap, e⟩
  obtain ⟨ad, cap, rfl⟩ := hl0
  have H := hide h
  have HT := hide ht
  have HL := hide hl
  have HS := hide hs
  clear h hs ht hl
  unfold maxLen at htz
  go_enter Tryd.func5, Tryd.ntmps5
  go_wp2_with fail
  have hK0 := keys3_new k a s b k' a' s' b' k'' a'' s'' b'' w
  unfold keyO at hK0
  generalize (((w.alloc (.cells #[.int .i64 k, .int .i64 a, .string s, .int .i64 b] 49)).alloc (.cells #[.int .i64 k', .int .i64 a', .string s', .int .i64 b'] 49)).alloc (.cells #[.int .i64 k'', .int .i64 a'', .string s'', .int .i64 b''] 49)) = W at hK0 ⊢
  have HK0 := hide hK0
  refine (unhide HSH W hK0.2.2.2).mono ?_
  rintro e w1 ⟨r, rfl, hr, hw1⟩
  subst hw1
  obtain ⟨⟨x0, x1, x2, x3⟩, ⟨y0, y1, y2, y3⟩, ⟨z0, z1, z2, z3⟩, hBel⟩ := hK0
  have HBel := hide hBel
  clear hBel HSH
  cases r with
  | false =>
    go_wp2
    go_ret
    exact ⟨rfl, unhide HBel⟩
  | true =>
    have hsh := hr rfl
    clear hr
    by_cases h800 : 800 < t.size
    · have h800' : 800 < (t.size : Int) := by omega
      go_wp2
      go_ret
      exact ⟨rfl, unhide HBel⟩
    · have h800' : ¬ 800 < (t.size : Int) := by omega
      by_cases h180 : 180 < wrap64 (wrap64 ((s.size : Int) + (s'.size : Int)) + (s''.size : Int))
      · have h180' : ¬ wrap64 (wrap64 ((s.size : Int) + (s'.size : Int)) + (s''.size : Int)) ≤ 180 := by omega
        go_wp2
        go_ret
        exact ⟨rfl, unhide HBel⟩
      · have h180' : wrap64 (wrap64 ((s.size : Int) + (s'.size : Int)) + (s''.size : Int)) ≤ 180 := by omega
        have HW := hide (keep_written w1 ((unhide HT).carry (unhide HK0).2.2.2))
        go_wp2_with fail
        refine (unhide HW).mono ?_
        rintro e w2 ⟨rfl, b2⟩
        have HK2 := hide ((unhide HK0).carry b2)
        clear HW b2 HK0 x0 x1 x2 x3 y0 y1 y2 y3 z0 z1 z2 z3 HBel h180' h800' htz
        have HW := hide (write_any l _ w2 (by have := hsh.1; omega) (unhide HS) ((unhide H).carry (unhide HK2).2.2.2) ((unhide HT).carry (unhide HK2).2.2.2))
        go_wp2_with fail
        rename_i KB hKB K1 hK1 K0 hK0
        have TB : ∀ (y0 y2 y3 y4 y5 y6 y10 y11 y12 y13 y14 y15 y16 y17 y18 y19 y20 y21 y22 y23 y24 y25 y26 y27 y28 y29 y30 y31 y32 y33 y34 y35 y36 y37 y38 y39 y40 y41 y42 y43 y44 y45 y46 y47 y48 y49 y50 y51 y52 y53 y54 y55 y56 y57 y58 y59 y60 y61 y62 y63 y64 y65 y66 y67 y68 y69 y70 y71 y72 y73 y74 y75 y76 y77 y78 y79 y80 y81 y82 y83 y84 y85 y86 y87 y88 y89 y90 y91 y92 y93 y94 y95 y96 y97 y98 y99 y100 y101 y102 y103 y104 y105 y106 y107 y108 y109 y110 y111 y112 y113 y114 y115 y116 y117 y118 y119 : Value) (W : World), Keys3 k a s b k' a' s' b' k'' a'' s'' b'' w W → KB { tmps := #[y0, .string t, y2, y3, y4, y5, y6, .pointer (some ⟨w.heap.size, 0, none⟩), .pointer (some ⟨w.heap.size + 1, 0, none⟩), .pointer (some ⟨w.heap.size + 1 + 1, 0, none⟩), y10, y11, y12, y13, y14, y15, y16, y17, y18, y19, y20, y21, y22, y23, y24, y25, y26, y27, y28, y29, y30, y31, y32, y33, y34, y35, y36, y37, y38, y39, y40, y41, y42, y43, y44, y45, y46, y47, y48, y49, y50, y51, y52, y53, y54, y55, y56, y57, y58, y59, y60, y61, y62, y63, y64, y65, y66, y67, y68, y69, y70, y71, y72, y73, y74, y75, y76, y77, y78, y79, y80, y81, y82, y83, y84, y85, y86, y87, y88, y89, y90, y91, y92, y93, y94, y95, y96, y97, y98, y99, y100, y101, y102, y103, y104, y105, y106, y107, y108, y109, y110, y111, y112, y113, y114, y115, y116, y117, y118, y119], defers := [] } W := by
          clear hK1 hK0 HW HK2
          intro y0 y2 y3 y4 y5 y6 y10 y11 y12 y13 y14 y15 y16 y17 y18 y19 y20 y21 y22 y23 y24 y25 y26 y27 y28 y29 y30 y31 y32 y33 y34 y35 y36 y37 y38 y39 y40 y41 y42 y43 y44 y45 y46 y47 y48 y49 y50 y51 y52 y53 y54 y55 y56 y57 y58 y59 y60 y61 y62 y63 y64 y65 y66 y67 y68 y69 y70 y71 y72 y73 y74 y75 y76 y77 y78 y79 y80 y81 y82 y83 y84 y85 y86 y87 y88 y89 y90 y91 y92 y93 y94 y95 y96 y97 y98 y99 y100 y101 y102 y103 y104 y105 y106 y107 y108 y109 y110 y111 y112 y113 y114 y115 y116 y117 y118 y119 W hW
          have HKW := hide hW
          have HR := hide (fact_Read t W (by omega) ((unhide HL).carry hW.2.2.2) ((unhide HT).carry hW.2.2.2))
          clear hW
          refine hKB _ _ ?_
          clear hKB
          go_wp2_with fail
          rename_i KC hKC K1 hK1 K0 hK0
          have TC : ∀ (z0 z2 z3 z4 z5 z6 z10 z11 z12 z13 z14 z15 z16 z17 z18 z19 z20 z21 z22 z23 z24 z25 z26 z27 z28 z29 z30 z31 z32 z33 z34 z35 z36 z37 z38 z39 z40 z41 z42 z43 z44 z45 z46 z47 z48 z49 z50 z51 z52 z53 z54 z55 z56 z57 z58 z59 z60 z61 z62 z63 z64 z65 z66 z67 z68 z69 z70 z71 z72 z73 z74 z75 z76 z77 z78 z79 z80 z81 z82 z83 z84 z85 z86 z87 z88 z89 z90 z91 z92 z93 z94 z95 z96 z97 z98 z99 z100 z101 z102 z103 z104 z105 z106 z107 z108 z109 z110 z111 z112 z113 z114 z115 z116 z117 z118 z119 : Value) (W : World), Keys3 k a s b k' a' s' b' k'' a'' s'' b'' w W → KC { tmps := #[z0, .string t, z2, z3, z4, z5, z6, .pointer (some ⟨w.heap.size, 0, none⟩), .pointer (some ⟨w.heap.size + 1, 0, none⟩), .pointer (some ⟨w.heap.size + 1 + 1, 0, none⟩), z10, z11, z12, z13, z14, z15, z16, z17, z18, z19, z20, z21, z22, z23, z24, z25, z26, z27, z28, z29, z30, z31, z32, z33, z34, z35, z36, z37, z38, z39, z40, z41, z42, z43, z44, z45, z46, z47, z48, z49, z50, z51, z52, z53, z54, z55, z56, z57, z58, z59, z60, z61, z62, z63, z64, z65, z66, z67, z68, z69, z70, z71, z72, z73, z74, z75, z76, z77, z78, z79, z80, z81, z82, z83, z84, z85, z86, z87, z88, z89, z90, z91, z92, z93, z94, z95, z96, z97, z98, z99, z100, z101, z102, z103, z104, z105, z106, z107, z108, z109, z110, z111, z112, z113, z114, z115, z116, z117, z118, z119], defers := [] } W := by
            clear hK1 hK0 HR HKW
            intro z0 z2 z3 z4 z5 z6 z10 z11 z12 z13 z14 z15 z16 z17 z18 z19 z20 z21 z22 z23 z24 z25 z26 z27 z28 z29 z30 z31 z32 z33 z34 z35 z36 z37 z38 z39 z40 z41 z42 z43 z44 z45 z46 z47 z48 z49 z50 z51 z52 z53 z54 z55 z56 z57 z58 z59 z60 z61 z62 z63 z64 z65 z66 z67 z68 z69 z70 z71 z72 z73 z74 z75 z76 z77 z78 z79 z80 z81 z82 z83 z84 z85 z86 z87 z88 z89 z90 z91 z92 z93 z94 z95 z96 z97 z98 z99 z100 z101 z102 z103 z104 z105 z106 z107 z108 z109 z110 z111 z112 z113 z114 z115 z116 z117 z118 z119 W hW
            have HKW := hide hW
            refine hKC _ _ ?_
            clear hKC hW
            have HEQ := fun W => key_eql k a s b k' a' s' b' W
            have HSAME := hide (key_same k a s b k' a' s' b')
            generalize sameKey k a s b k' a' s' b' = y at HSAME HEQ
            go_wp2
            go_region_held3 (fun x => (x.cell? ⟨w.heap.size, 0, none⟩ = some (.int .i64 k) ∧ x.cell? ⟨w.heap.size, 1, none⟩ = some (.int .i64 a) ∧ x.cell? ⟨w.heap.size, 2, none⟩ = some (.string s) ∧ x.cell? ⟨w.heap.size, 3, none⟩ = some (.int .i64 b)) ∧
                (x.cell? ⟨w.heap.size + 1, 0, none⟩ = some (.int .i64 k') ∧ x.cell? ⟨w.heap.size + 1, 1, none⟩ = some (.int .i64 a') ∧ x.cell? ⟨w.heap.size + 1, 2, none⟩ = some (.string s') ∧ x.cell? ⟨w.heap.size + 1, 3, none⟩ = some (.int .i64 b')) ∧
                (x.cell? ⟨w.heap.size + 1 + 1, 0, none⟩ = some (.int .i64 k'') ∧ x.cell? ⟨w.heap.size + 1 + 1, 1, none⟩ = some (.int .i64 a'') ∧ x.cell? ⟨w.heap.size + 1 + 1, 2, none⟩ = some (.string s'') ∧ x.cell? ⟨w.heap.size + 1 + 1, 3, none⟩ = some (.int .i64 b'')) ∧ Below w.heap.size w x)
              (first | exact Keys3.carry (unhide HKW) (below_drew _) | (refine Keys3.carry (by assumption) ?_; assumption) | assumption)
              (first | (go_at_call 30; refine (fact_Compare _ _ _ _ _ _ _ _ _).mono ?_; rintro e w9 ⟨rfl, b9⟩))
            rename_i hh
            have HK9 : Hid (Keys3 k a s b k' a' s' b' k'' a'' s'' b'' w _) := hh
            have hturn := key_turn k' a' s' b' k a s b
            have htri := key_tri k a s b k' a' s' b' k'' a'' s'' b''
            have p1 := key_small k a s b k' a' s' b'
            have q1 := key_small k' a' s' b' k'' a'' s'' b''
            have hz := unhide HSAME
            have HC4 := hide (fun W => fact_Compare k' a' s' b' k a s b W)
            clear hh HSAME b9
            generalize keyCmp k' a' s' b' k a s b = c at HC4 hturn
            generalize keyCmp k a s b k' a' s' b' = p at hturn htri hz p1 ⊢
            generalize keyCmp k' a' s' b' k'' a'' s'' b'' = q at htri q1 ⊢
            generalize keyCmp k a s b k'' a'' s'' b'' = r at htri ⊢
            subst hz
            rcases (by omega : p = -1 ∨ p = 0 ∨ p = 1) with rfl | rfl | rfl
            · obtain rfl : c = 1 := by omega
              by_cases hq : 0 < q
              · obtain rfl : q = 1 := by omega
                clear hturn htri p1 q1 hq
                obtain ⟨⟨g0, g1, g2, g3⟩, ⟨i0, i1, i2, i3⟩, _, _⟩ := unhide HK9
                go_wp2_with fail
                refine (unhide HC4 _).mono ?_
                rintro e w10 ⟨rfl, b10⟩
                have HK10 := hide ((unhide HK9).carry b10)
                clear b10 HK9 HC4 g0 g1 g2 g3 i0 i1 i2 i3
                obtain ⟨⟨g0, g1, g2, g3⟩, ⟨i0, i1, i2, i3⟩, _, hb⟩ := unhide HK10
                go_wp2
                go_ret
                exact ⟨rfl, hb⟩
              · have hr : r ≤ 0 := (htri.1 (by omega) (by omega)).1
                clear hturn htri p1 q1
                obtain ⟨⟨g0, g1, g2, g3⟩, ⟨i0, i1, i2, i3⟩, _, _⟩ := unhide HK9
                go_wp2_with fail
                refine (unhide HC4 _).mono ?_
                rintro e w10 ⟨rfl, b10⟩
                have HK10 := hide ((unhide HK9).carry b10)
                clear b10 HK9 HC4 g0 g1 g2 g3 i0 i1 i2 i3
                obtain ⟨⟨g0, g1, g2, g3⟩, ⟨i0, i1, i2, i3⟩, _, hb⟩ := unhide HK10
                go_wp2
                go_ret
                exact ⟨rfl, hb⟩
            · obtain rfl : c = 0 := by omega
              by_cases hq : 0 < q
              · obtain rfl : q = 1 := by omega
                clear hturn htri p1 q1 hq
                obtain ⟨⟨g0, g1, g2, g3⟩, ⟨i0, i1, i2, i3⟩, _, _⟩ := unhide HK9
                go_wp2_with fail
                refine (unhide HC4 _).mono ?_
                rintro e w10 ⟨rfl, b10⟩
                have HK10 := hide ((unhide HK9).carry b10)
                clear b10 HK9 HC4 g0 g1 g2 g3 i0 i1 i2 i3
                obtain ⟨⟨g0, g1, g2, g3⟩, ⟨i0, i1, i2, i3⟩, _, hb⟩ := unhide HK10
                go_wp2
                go_ret
                exact ⟨rfl, hb⟩
              · have hr : r ≤ 0 := (htri.1 (by omega) (by omega)).1
                clear hturn htri p1 q1
                obtain ⟨⟨g0, g1, g2, g3⟩, ⟨i0, i1, i2, i3⟩, _, _⟩ := unhide HK9
                go_wp2_with fail
                refine (unhide HC4 _).mono ?_
                rintro e w10 ⟨rfl, b10⟩
                have HK10 := hide ((unhide HK9).carry b10)
                clear b10 HK9 HC4 g0 g1 g2 g3 i0 i1 i2 i3
                obtain ⟨⟨g0, g1, g2, g3⟩, ⟨i0, i1, i2, i3⟩, _, hb⟩ := unhide HK10
                go_wp2
                go_ret
                exact ⟨rfl, hb⟩
            · obtain rfl : c = -1 := by omega
              clear hturn htri p1 q1
              obtain ⟨⟨g0, g1, g2, g3⟩, ⟨i0, i1, i2, i3⟩, _, _⟩ := unhide HK9
              go_wp2_with fail
              refine (unhide HC4 _).mono ?_
              rintro e w10 ⟨rfl, b10⟩
              have HK10 := hide ((unhide HK9).carry b10)
              clear b10 HK9 HC4 g0 g1 g2 g3 i0 i1 i2 i3
              obtain ⟨⟨g0, g1, g2, g3⟩, ⟨i0, i1, i2, i3⟩, _, hb⟩ := unhide HK10
              go_wp2
              go_ret
              exact ⟨rfl, hb⟩
          have HTC := hide TC
          clear TC hKC
          refine (unhide HR).mono ?_
          rintro e w4 ⟨⟨q, v', hq, hqs, rfl, hrd⟩ | ⟨hno, rfl⟩, b4⟩
          · have HK4 := hide ((unhide HKW).carry b4)
            have hqt : (⟨(opsL q).toArray⟩ : ByteArray) = t := by rw [← hqs]
            have hqsm : ∀ x, x ∈ q → Small x := fun x hx => opB_small x (hq.2.2 x hx)
            have HW := hide (write_ok q v' w4 hqsm hrd hq ((unhide HT).carry (unhide HK4).2.2.2))
            rw [hqt] at HW
            obtain ⟨ad', cap', rfl, _⟩ := hrd
            clear HR HKW b4 hq hqs hqt hqsm
            go_wp2_with fail
            refine (unhide HW).mono ?_
            rintro e w5 ⟨rfl, b5⟩
            have HK5 := hide ((unhide HK4).carry b5)
            clear HW HK4 b5
            go_wp2
            exact unhide HTC _ _ _ _ _ _ _ _ _ _ _ _ _ _ _ _ _ _ _ _ _ _ _ _ _ _ _ _ _ _ _ _ _ _ _ _ _ _ _ _ _ _ _ _ _ _ _ _ _ _ _ _ _ _ _ _ _ _ _ _ _ _ _ _ _ _ _ _ _ _ _ _ _ _ _ _ _ _ _ _ _ _ _ _ _ _ _ _ _ _ _ _ _ _ _ _ _ _ _ _ _ _ _ _ _ _ _ _ _ _ _ _ _ _ _ _ w5 (unhide HK5)
          · have HK4 := hide ((unhide HKW).carry b4)
            clear HR HKW b4 hno
            go_wp2
            exact unhide HTC _ _ _ _ _ _ _ _ _ _ _ _ _ _ _ _ _ _ _ _ _ _ _ _ _ _ _ _ _ _ _ _ _ _ _ _ _ _ _ _ _ _ _ _ _ _ _ _ _ _ _ _ _ _ _ _ _ _ _ _ _ _ _ _ _ _ _ _ _ _ _ _ _ _ _ _ _ _ _ _ _ _ _ _ _ _ _ _ _ _ _ _ _ _ _ _ _ _ _ _ _ _ _ _ _ _ _ _ _ _ _ _ _ _ _ _ w4 (unhide HK4)
        have HTB := hide TB
        clear TB hKB
        refine (unhide HW).mono ?_
        rintro e w3 ⟨x, u, rfl, hcase, b3⟩
        have HK3 := hide ((unhide HK2).carry b3)
        clear HW HK2 b3
        rcases hcase with ⟨hok, rfl, rfl⟩ | ⟨hno, rfl | ⟨bb, rfl⟩⟩
        · have hxs : (⟨(opsL l).toArray⟩ : ByteArray).size ≤ 100000 := by
            have h1 := wrs_length_le l hok.2.2
            have h2 := hok.2.1
            show (opsL l).toArray.size ≤ 100000
            rw [List.size_toArray]
            omega
          have hxd : (⟨(opsL l).toArray⟩ : ByteArray).data.toList = opsL l := rfl
          have HR := hide (fact_Read ⟨(opsL l).toArray⟩ w3 hxs ((unhide HL).carry (unhide HK3).2.2.2) ((unhide HT).carry (unhide HK3).2.2.2))
          have HOK := hide hok
          clear hxs hok
          generalize (⟨(opsL l).toArray⟩ : ByteArray) = x at hxd HR ⊢
          have HXD := hide hxd
          clear hxd
          go_wp2_with fail
          refine (unhide HR).mono ?_
          rintro e w4 ⟨⟨q, v', hq, hqs, rfl, hrd⟩ | ⟨hno, rfl⟩, b4⟩
          · obtain rfl : q = l := wrs_inj q l hq (unhide HOK) (hqs.symm.trans (unhide HXD))
            have HK4 := hide ((unhide HK3).carry b4)
            have HSM := hide (same_ops q v' _ w4 (by have := hq.2.1; omega) hrd ((unhide H).carry (unhide HK4).2.2.2))
            obtain ⟨ad', cap', rfl, _⟩ := hrd
            clear HR HK3 b4 hq hqs HXD HOK
            go_wp2_with fail
            refine (unhide HSM).mono ?_
            rintro e w5 ⟨rfl, b5⟩
            have HK5 := hide ((unhide HK4).carry b5)
            clear HSM HK4 b5
            go_wp2
            exact unhide HTB _ _ _ _ _ _ _ _ _ _ _ _ _ _ _ _ _ _ _ _ _ _ _ _ _ _ _ _ _ _ _ _ _ _ _ _ _ _ _ _ _ _ _ _ _ _ _ _ _ _ _ _ _ _ _ _ _ _ _ _ _ _ _ _ _ _ _ _ _ _ _ _ _ _ _ _ _ _ _ _ _ _ _ _ _ _ _ _ _ _ _ _ _ _ _ _ _ _ _ _ _ _ _ _ _ _ _ _ _ _ _ _ _ _ _ _ w5 (unhide HK5)
          · exact absurd (unhide HXD) (hno l (unhide HOK))
        · go_wp2
          exact unhide HTB _ _ _ _ _ _ _ _ _ _ _ _ _ _ _ _ _ _ _ _ _ _ _ _ _ _ _ _ _ _ _ _ _ _ _ _ _ _ _ _ _ _ _ _ _ _ _ _ _ _ _ _ _ _ _ _ _ _ _ _ _ _ _ _ _ _ _ _ _ _ _ _ _ _ _ _ _ _ _ _ _ _ _ _ _ _ _ _ _ _ _ _ _ _ _ _ _ _ _ _ _ _ _ _ _ _ _ _ _ _ _ _ _ _ _ _ w3 (unhide HK3)
        · go_wp2
          exact unhide HTB _ _ _ _ _ _ _ _ _ _ _ _ _ _ _ _ _ _ _ _ _ _ _ _ _ _ _ _ _ _ _ _ _ _ _ _ _ _ _ _ _ _ _ _ _ _ _ _ _ _ _ _ _ _ _ _ _ _ _ _ _ _ _ _ _ _ _ _ _ _ _ _ _ _ _ _ _ _ _ _ _ _ _ _ _ _ _ _ _ _ _ _ _ _ _ _ _ _ _ _ _ _ _ _ _ _ _ _ _ _ _ _ _ _ _ _ w3 (unhide HK3)

end Go.Proofs.YtcgdmehdocaooaaDoor
