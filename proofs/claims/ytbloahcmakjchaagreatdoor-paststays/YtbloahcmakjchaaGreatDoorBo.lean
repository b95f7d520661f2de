/- Texts of one proof, one behind the other. -/
import Derived.Test.YtbloahcmakjchaaGreatDoorBn
import Derived.Deep.DeepCutAuto

/- PastStays: walked. -/
namespace Go.Proofs.YtbloahcmakjchaaGreatDoor
open Go.RowKit Go.Maps

set_option maxRecDepth 100000 in
set_option maxHeartbeats 4000000 in
theorem stays_row {w : World} {P : Pl} {bx : Nat} {now known bd : Int} {S : Ky → Int → Int → ByteArray} {F : Nat → Prop} (h : PastW w P now known bd S F) (hb1 : bd ≤ 4000) (k : Ky) (hbx : BoxK bx k w) (hk : KyOk k) (hkb : keyB k.kind k.a k.word k.b = true) (at_ : Int) (h0 : 0 ≤ at_) (h1 : known ≤ at_) (h2 : at_ ≤ now) :
    Calls Tryz.prog 21 #[.int .i64 at_, .pointer (some ⟨P.b, P.o, none⟩), .pointer (some ⟨bx, 0, none⟩)] w fun e w' => ∃ v, e = .returned (.tuple #[v, .bool true]) ∧ RowS w' w.heap.size v (rowOf (S k at_) 75) ∧ Below w.heap.size w w' := by
  have HP := hide h
  have HK := hide hbx
  clear h hbx
  go_enter Tryz.func21, Tryz.ntmps21
  go_wp2
  go_loopw [6, 7] (fun o i y => ∃ j : Nat, j ≤ 75 ∧ i = .int .i64 j ∧ RowS y w.heap.size o (rowOf (S k at_) j) ∧ Below w.heap.size w y) (fun _ i _ => 75 - (intOf i).toNat)
  case atStart => exact ⟨0, Nat.zero_le _, rfl, World.ownsRow_nil _ _ _ _, Below.refl _ _⟩
  case round =>
    obtain ⟨j, hj, rfl, hown, hb⟩ := hrel
    have HO := hide hown
    have HBr := hide hb
    clear hown hb
    by_cases hlt : j < 75
    · have hlt' : (j : Int) < 75 := by omega
      have hKr := (unhide HK).below (unhide HBr)
      have k0 := hKr.c0
      have k1 := hKr.c1
      have k2 := hKr.c2
      have k3 := hKr.c3
      have HV := hide (value_ok ((unhide HP).below (unhide HBr)) hb1 k hk hkb at_ (j : Int) h0 h1 h2 (by omega) (by omega))
      have HTk := hide (rowOf_succ (S k at_) j)
      have hLl : (rowOf (S k at_) j).length ≤ 4000 := by rw [rowOf_length]; omega
      have hWr : w.heap.size ≤ wr.heap.size := (unhide HBr).size
      clear hKr
      generalize rowOf (S k at_) j = L at *
      generalize S k at_ (j : Int) = x at *
      go_wp2_with fail
      refine (unhide HV).mono ?_
      rintro e W1 ⟨rfl, b1⟩
      have HB6 := hide (below_box W1 (.cells #[.string x] 9))
      have HO6 := hide (((unhide HO).carry b1).carry (unhide HB6))
      have HBx := hide (((unhide HBr).trans (b1.mono hWr)).trans ((unhide HB6).mono (Nat.le_trans hWr b1.size)))
      have hW1 : w.heap.size ≤ W1.heap.size := Nat.le_trans hWr b1.size
      have HOl := hide (World.ownsRow.lt (unhide HO))
      clear HO HBr HB6 b1 HV k0 k1 k2 k3
      go_wp2_with (first
        | (at_builtin; refine wpList_appS _ rfl (.tmp 23) (.tmp 25) rfl w.heap.size _ L rfl (unhide HO6) W1.heap.size x rfl ?d0 ?d1 ?d2 ?_))
      case d0 => simp
      case d1 => omega
      case d2 => have := (unhide HBx).size; omega
      intro v2 w2 p1 p2
      have HP1 : Hid (RowS w2 w.heap.size v2 (rowOf (S k at_) (j + 1))) := by
        unfold Hid
        rw [unhide HTk]
        unfold RowS
        rw [List.length_append, List.map_append]
        exact p1
      have HP2 : Hid (Below w.heap.size w w2) := (unhide HBx).grown p2 (by simp; omega) (fun i hi => (unhide HOl i hi).1)
      clear p1 p2 HO6 HBx HTk
      obtain ⟨ad2, n2, cap2, rfl⟩ : ∃ ad n cap, v2 = .slice ad n cap := by
        obtain ⟨ad, cap, e⟩ := row_slice (show World.ownsRow _ _ _ _ _ _ _ from unhide HP1)
        exact ⟨ad, _, cap, e⟩
      go_wp2
      go_roundw
      case rel => exact ⟨j + 1, by omega, by go_num, unhide HP1, unhide HP2⟩
      case measure => simp [intOf]; omega
    · obtain rfl : j = 75 := by omega
      have HG : Hid (∃ v, Ending.returned (.tuple #[u6, .bool true]) = .returned (.tuple #[v, .bool true]) ∧ RowS wr w.heap.size v (rowOf (S k at_) 75) ∧ Below w.heap.size w wr) := ⟨_, rfl, unhide HO, unhide HBr⟩
      clear HO HBr
      go_wp2
      go_ret2
      exact unhide HG

/-- A new past, a key's box behind it. -/
theorem St.begin2 {w W : World} (k : Ky) (ht : Tab w) (hb : Below (w.alloc (.cells #[.int .i64 0, .int .i64 0, .map none] 37)).heap.size (w.alloc (.cells #[.int .i64 0, .int .i64 0, .map none] 37)) W) : St w.heap.size W.heap.size k 0 noneS w (W.alloc (.cells #[.int .i64 k.kind, .int .i64 k.a, .string k.word, .int .i64 k.b] 43)) (pastF (pl0 w.heap.size) none [] (fun _ _ => False)) := by
  have b1 := below_box w (.cells #[.int .i64 0, .int .i64 0, .map none] 37)
  have e1 : (w.alloc (.cells #[.int .i64 0, .int .i64 0, .map none] 37)).heap.size = w.heap.size + 1 := by simp
  have b2 := below_box W (.cells #[.int .i64 k.kind, .int .i64 k.a, .string k.word, .int .i64 k.b] 43)
  have hs := hb.size
  rw [e1] at hs
  refine ⟨((past_new w).below hb).below b2, fun i q => ?_, boxK_new W k, ht, Nat.le_refl _, (b1.trans (hb.mono b1.size)).trans (b2.mono (by omega)), by simp, by simp; omega⟩
  rcases q with q | q | ⟨x, hx, _⟩
  · have q' : i = w.heap.size := q
    omega
  · cases q
  · cases hx

theorem rowOf_at (f : Int → ByteArray) (n t : Nat) (h : t < n) : ((rowOf f n).map Value.string)[t]? = some (.string (f (t : Int))) := by
  unfold rowOf
  rw [List.map_map, List.getElem?_map, List.getElem?_range h]
  rfl
/-- Where a row of values lies. -/
theorem RowS.cells {W : World} {base : Nat} {v : Value} {f : Int → ByteArray} (h : RowS W base v (rowOf f 75)) : ∃ g c, v = .slice (some ⟨g, 0, none⟩) 75 c ∧ ∀ t : Nat, t < 75 → W.cell? ⟨g, t, none⟩ = some (.string (f (t : Int))) := by
  obtain ⟨g, ad, c, e, hf⟩ := own1_at (show World.ownsRow _ _ _ _ _ _ _ from h)
  rw [rowOf_length] at e hf
  obtain ⟨rfl, _⟩ := hf 0 (by decide)
  exact ⟨g, c, e, fun t ht => (hf t ht).2.trans (rowOf_at f 75 t ht)⟩
/-- What was there is there. -/
theorem there_yet {w w' : World} {p : Addr} {v : Value} (h : w.cell? p = some v) (hb : Below w.heap.size w w') : w'.cell? p = some v := (hb.cell (lt_of_cell h)).trans h

theorem key_of {o : Fop} {k : Ky} (h0 : o.kind = k.kind) (h1 : o.a = k.a) (h2 : o.word.toList = k.word.toList) (h3 : o.b = k.b) : kyO o = k := by
  obtain ⟨a, b, c, d⟩ := k
  dsimp only at h0 h1 h2 h3
  rw [ByteArray.toList_eq, ByteArray.toList_eq] at h2
  have e : o.word = c := ByteArray.ext (Array.toList_inj.1 h2)
  unfold kyO
  rw [h0, h1, e, h3]

theorem row_max {w : World} {base : Nat} {e : TypeId} {size : Nat} {v : Value} {n : Nat} {xs : List Value} (h : w.ownsRow base e size v n xs) : n ≤ 9223372036854775807 := by
  rcases h.2 with ⟨_, h0⟩ | ⟨_, cap, _, _, _, _, h1, h2, _⟩
  · omega
  · unfold maxLen at h2
    omega

/-- The piece ahead, in its box. -/
def lastP (ps : List (Int × Int × ByteArray)) (m : Nat) : Int × Int × ByteArray := if m = 0 then (0, 0, ⟨#[]⟩) else ps.getD (m - 1) (0, 0, ⟨#[]⟩)
structure LastAt (y : World) (lb : Nat) (p : Int × Int × ByteArray) : Prop where
  c0 : y.cell? ⟨lb, 0, none⟩ = some (.int .i64 p.1)
  c1 : y.cell? ⟨lb, 1, none⟩ = some (.int .i64 p.2.1)
  c2 : y.cell? ⟨lb, 2, none⟩ = some (.string p.2.2)
  f : ∀ i, y.frozen? ⟨lb, i, none⟩ = false
theorem LastAt.keeps {y y' : World} {lb : Nat} {p : Int × Int × ByteArray} {F : Nat → Prop} (h : LastAt y lb p) (hk : Keeps F y y') (hf : ¬ F lb) : LastAt y' lb p := by
  have hl : lb < y.heap.size := lt_of_cell h.c0
  exact ⟨(hk.cell (p := ⟨lb, 0, none⟩) hl hf).trans h.c0, (hk.cell (p := ⟨lb, 1, none⟩) hl hf).trans h.c1, (hk.cell (p := ⟨lb, 2, none⟩) hl hf).trans h.c2, fun i => (hk.frozen (p := ⟨lb, i, none⟩) hl hf).trans (h.f i)⟩
theorem LastAt.below {y y' : World} {lb : Nat} {p : Int × Int × ByteArray} (h : LastAt y lb p) (hb : Below y.heap.size y y') : LastAt y' lb p := h.keeps (Keeps.of_below (fun _ => False) hb (Nat.le_refl _)) (fun q => q)
theorem LastAt.set {W : World} {lb : Nat} {x : Int × Int × ByteArray} (h : LastAt W lb x) (lo hi : Int) (val : ByteArray) : LastAt (((W.setCell ⟨lb, 0, none⟩ (.int .i64 lo)).setCell ⟨lb, 1, none⟩ (.int .i64 hi)).setCell ⟨lb, 2, none⟩ (.string val)) lb (lo, hi, val) ∧ Keeps (fun i => i = lb) W (((W.setCell ⟨lb, 0, none⟩ (.int .i64 lo)).setCell ⟨lb, 1, none⟩ (.int .i64 hi)).setCell ⟨lb, 2, none⟩ (.string val)) := by
  have a1 : (W.setCell ⟨lb, 0, none⟩ (.int .i64 lo)).cell? ⟨lb, 1, none⟩ = some (.int .i64 x.2.1) := by rw [World.cell?_setCell_other _ _ _ _ (by simp)]; exact h.c1
  have a2 : ((W.setCell ⟨lb, 0, none⟩ (.int .i64 lo)).setCell ⟨lb, 1, none⟩ (.int .i64 hi)).cell? ⟨lb, 2, none⟩ = some (.string x.2.2) := by rw [World.cell?_setCell_other _ _ _ _ (by simp), World.cell?_setCell_other _ _ _ _ (by simp)]; exact h.c2
  refine ⟨⟨?_, ?_, World.cell?_setCell_same _ _ _ a2, fun i => by simp only [World.frozen?_setCell]; exact h.f i⟩, ((keeps_set W lb 0 _).then (keeps_set _ lb 1 _) (fun _ _ q => q)).then (keeps_set _ lb 2 _) (fun _ _ q => q)⟩
  · rw [World.cell?_setCell_other _ _ _ _ (by simp), World.cell?_setCell_other _ _ _ _ (by simp)]
    exact World.cell?_setCell_same _ _ _ h.c0
  · rw [World.cell?_setCell_other _ _ _ _ (by simp)]
    exact World.cell?_setCell_same _ _ _ a1
theorem not_empty {val : ByteArray} (h : val ≠ ByteArray.empty) : val.toList.isEmpty = false ∧ (val.toList == []) = false := by
  have e : val.toList ≠ [] := fun q => by
    rw [ByteArray.toList_eq] at q
    exact h (ByteArray.ext (Array.toList_inj.1 (by rw [q]; rfl)))
  constructor
  · cases q : val.toList with
    | nil => exact absurd q e
    | cons a b => rfl
  · simpa using e

theorem lastP_succ (ps : List (Int × Int × ByteArray)) (m : Nat) (h : m < ps.length) : lastP ps (m + 1) = ps[m] := by
  unfold lastP
  rw [if_neg (by omega)]
  simp [h]
theorem lastP_at (ps : List (Int × Int × ByteArray)) (m : Nat) (h : m < ps.length) (h0 : m ≠ 0) (hc : Canon ps) : (lastP ps m).2.1 ≤ ps[m].1 ∧ ¬ ((lastP ps m).2.1 = ps[m].1 ∧ (lastP ps m).2.2 = ps[m].2.2) := by
  obtain ⟨i, rfl⟩ : ∃ i, m = i + 1 := ⟨m - 1, by omega⟩
  rw [lastP_succ ps i (by omega)]
  exact ⟨List.pairwise_iff_getElem.1 hc.rise i (i + 1) (by omega) h (by omega), hc.parted i h⟩

/-- What is found of a time, among the first pieces. -/
def VaI (ps : List (Int × Int × ByteArray)) (m : Nat) (t : Int) (f x : ByteArray) : Prop := (x = ⟨#[]⟩ ∧ ∀ j, (hj : j < ps.length) → j < m → ¬ (ps[j].1 ≤ t ∧ t < ps[j].2.1)) ∨ x = f
theorem VaI.start (ps : List (Int × Int × ByteArray)) (t : Int) (f : ByteArray) : VaI ps 0 t f ⟨#[]⟩ := .inl ⟨rfl, fun _ _ h => absurd h (Nat.not_lt_zero _)⟩
theorem VaI.next {ps : List (Int × Int × ByteArray)} {m : Nat} {t : Int} {f x : ByteArray} (h : VaI ps m t f x) (hm : m < ps.length) (hn : ¬ (ps[m].1 ≤ t ∧ t < ps[m].2.1)) : VaI ps (m + 1) t f x := by
  rcases h with ⟨e, q⟩ | e
  · refine .inl ⟨e, fun j hj hlt => ?_⟩
    by_cases ej : j = m
    · subst ej; exact hn
    · exact q j hj (by omega)
  · exact .inr e
theorem VaI.done {ps : List (Int × Int × ByteArray)} {t : Int} {f : Int → ByteArray} {x : ByteArray} (h : VaI ps ps.length t (f t) x) (hc : Covers ps f) : x = f t := by
  rcases h with ⟨rfl, q⟩ | e
  · rcases Classical.em (f t = ByteArray.empty) with z | z
    · rw [z]; rfl
    · obtain ⟨p, hp, h1, h2⟩ := (hc t).2 z
      obtain ⟨j, hj, rfl⟩ := List.getElem_of_mem hp
      exact absurd ⟨h1, h2⟩ (q j hj hj)
  · exact e

/-- Whether changes touch a key, at a time. -/
def touchB (k : Ky) (t : Int) (l : List Fop) : Bool := l.any fun o => sameK (kyO o) k && decide (o.lo ≤ t ∧ t < o.hi)
theorem touchB_snoc (k : Ky) (t : Int) (l : List Fop) (o : Fop) : touchB k t (l ++ [o]) = (touchB k t l || (sameK (kyO o) k && decide (o.lo ≤ t ∧ t < o.hi))) := by simp [touchB]
theorem touchB_none {k : Ky} {t : Int} {l : List Fop} (h : touchB k t l = false) : ∀ o, o ∈ l → ¬ (kyO o = k ∧ o.lo ≤ t ∧ t < o.hi) := fun o ho q => by
  have := List.any_eq_false.1 h o ho
  simp [sameK_iff.2 q.1, q.2] at this

set_option maxRecDepth 100000 in
set_option maxHeartbeats 16000000 in
theorem past_stays (l : List SayN) (ad : Option Addr) (cap : Nat) (key : Int) (w : World) (hS : SaysAt w ad l) (ht : Tab w) :
    Calls Tryz.prog 5 #[.slice ad l.length cap, .int .i64 key] w fun e w' => e = .returned (.bool true) ∧ Below w.heap.size w w' := by
  by_cases hl : l.length ≤ 50
  · have hl' : ¬ (50 : Int) < (l.length : Int) := by omega
    have HS := hide hS
    have HSd := hide (said_ok w ht)
    have HT := hide ht
    have HKy := hide (fun W => keep_keyOf key W)
    obtain ⟨hko, hkb⟩ := kyN_ok key
    have HKo := hide hko
    have HKb := hide hkb
    clear hS ht hko hkb
    generalize kyN key = k at *
    go_enter Tryz.func5, Tryz.ntmps5
    go_wp2_with fail
    refine (unhide HSd).mono ?_
    rintro e W1 ⟨rfl, b1⟩
    have HB1 := hide b1
    clear b1 HSd
    go_wp2_with fail
    refine (unhide HKy _).mono ?_
    rintro e W2 ⟨rfl, b2⟩
    have HSt := hide (St.begin2 k ((unhide HT).carry (unhide HB1)) b2)
    have HB2 := hide b2
    clear b2
    have HRw := hide (stays_row (unhide HSt).past (by decide) k (unhide HSt).box (unhide HKo) (unhide HKb) 0 (by decide) (by decide) (by decide))
    go_wp2_with fail
    refine (unhide HRw).mono ?_
    rintro e W3 ⟨v9, rfl, r9, b3⟩
    obtain ⟨ad9, cap9, rfl⟩ := row_slice (show World.ownsRow _ _ _ _ _ _ _ from r9)
    rw [rowOf_length] at *
    have HR9 := hide r9
    have HSt3 := hide ((unhide HSt).below b3)
    have e2 : (W2.alloc (.cells #[.int .i64 k.kind, .int .i64 k.a, .string k.word, .int .i64 k.b] 43)).heap.size = W2.heap.size + 1 := by simp
    rw [e2] at HR9
    have hs3 : W2.heap.size + 1 ≤ W3.heap.size := by rw [← e2]; exact b3.size
    have hs12 : W1.heap.size < W2.heap.size := by have := (unhide HB2).size; simp at this; omega
    clear r9 b3 HRw HSt e2
    go_wp2_with (first
      | (at_builtin; refine wpList_appV _ rfl (.tmp 51) (.tmp 53) rfl (W2.heap.size + 1) _ [] rfl (World.ownsRow_nil _ _ _ _) W3.heap.size ad9 75 cap9 rfl ?d0 ?d1 ?d2 ?_))
    case d0 => simp
    case d1 => decide
    case d2 => simp; omega
    intro v7 W4 p1 p2 p3
    have b4 : Below W3.heap.size W3 W4 := (below_box W3 _).trans ((below_grown_none p2).mono (by simp))
    have HSt4 := hide ((unhide HSt3).below b4)
    have HR4 := hide ((show RowS W3 (W2.heap.size + 1) (.slice ad9 75 cap9) _ from unhide HR9).carry b4)
    have HV4 := hide p1
    obtain ⟨ad7, cap7, rfl⟩ := row_slice (show World.ownsRow _ _ _ _ _ _ _ from p1)
    have HB4 := hide ((unhide HB1).trans ((unhide HSt4).low.mono (unhide HB1).size))
    have hs4 : W2.heap.size + 1 ≤ W4.heap.size := Nat.le_trans hs3 b4.size
    have HOp := hide (keep_ops l ad cap W4 (by omega) ((unhide HS).carry (unhide HB4)))
    clear p1 p2 p3 b4 HSt3 HR9 HS
    go_wp2_with fail
    refine (unhide HOp).mono ?_
    rintro e W5 ⟨v11, ts, rfl, q1, q2, q3, q4⟩
    obtain ⟨ad11, cap11, rfl⟩ := row_slice (show World.ownsRow _ _ _ _ _ _ _ from q1)
    have hF : ∀ i, pastF (pl0 W1.heap.size) none [] (fun _ _ => False) i → i < W2.heap.size + 1 := fun i q => by
      rcases q with q | q | ⟨x, hx, _⟩
      · have q' : i = W1.heap.size := q
        omega
      · cases q
      · cases hx
    have HSy : Hid (SyI W1 W1.heap.size W2.heap.size (W2.heap.size + 1) k 0 noneS (pastF (pl0 W1.heap.size) none [] (fun _ _ => False)) (.slice ad7 1 cap7) [.slice ad9 75 cap9] (.slice ad11 ts.length cap11) ts W5) := by
      have hout : ∀ {e : TypeId} {size : Nat} {v : Value} {n : Nat} {xs : List Value} {b : Nat}, W5.ownsRow b e size v n xs → W2.heap.size + 1 ≤ b → Out (pastF (pl0 W1.heap.size) none [] (fun _ _ => False)) v := fun h hb g hv q => by
        have := (World.ownsRow.lt h g hv).1
        have := hF g q
        omega
      have hv5 : RowV W5 (W2.heap.size + 1) (.slice ad7 1 cap7) [.slice ad9 75 cap9] := ownsRow_carry (unhide HV4) q4
      have hr5 : RowS W5 (W2.heap.size + 1) (.slice ad9 75 cap9) (rowOf (noneS k 0) 75) := (unhide HR4).carry q4
      refine ⟨(unhide HSt4).below q4, by omega, by omega, Nat.le_trans hs4 q4.size, hv5, hout hv5 (Nat.le_refl _), fun v hv => ?_, fun v hv => ?_, fun i hi => ?_, ownsRow_rebase q1 hs4, hout q1 hs4, fun v hv => ?_, fun _ _ _ => by unfold noneS; decide⟩
      · obtain rfl := List.mem_singleton.1 hv
        exact ⟨_, hr5⟩
      · obtain rfl := List.mem_singleton.1 hv
        exact hout hr5 (Nat.le_refl _)
      · obtain rfl : i = 0 := by simp at hi; omega
        exact hr5
      · obtain ⟨L, a1, a2⟩ := q3 v hv
        exact ⟨hout a2 hs4, L, a1, ownsRow_rebase a2 hs4⟩
    have hts : ts.length ≤ 50 := by omega
    clear q1 q2 q3 q4 hF HOp HSt4 HR4 HV4 HB4 HB2 hs12 hs3 hs4 HKy HT
    generalize hn : W1.heap.size = n at *
    generalize hbx : W2.heap.size = bx at *
    clear hbx
    go_wp2
    go_loopw [7, 12] (fun u7 i y => ∃ (j : Nat) (S : Ky → Int → Int → ByteArray) (F : Nat → Prop) (vs : List Value) (c7 : Nat) (a7 : Option Addr), i = .int .i64 j ∧ j ≤ ts.length ∧ vs.length = j + 1 ∧ u7 = .slice a7 (j + 1) c7 ∧ SyI W1 n bx (bx + 1) k (j : Int) S F u7 vs (.slice ad11 ts.length cap11) ts y) (fun _ i _ => ts.length - (intOf i).toNat)
    case atStart => exact ⟨0, _, _, _, _, _, rfl, Nat.zero_le _, rfl, rfl, unhide HSy⟩
    case round =>
      clear HSy
      obtain ⟨j, S, F, vs, c7, a7, rfl, hj, hvl, rfl, hI⟩ := hrel
      have HI := hide hI
      have HVl := hide hvl
      clear hI hvl
      by_cases hlt : j < ts.length
      · have hlt' : (j : Int) < (ts.length : Int) := by omega
        have hj0 : (0 : Int) ≤ (j : Int) := by omega
        obtain ⟨l1, ok1, ro1, hc1⟩ := (unhide HI).commit (List.getElem_mem hlt) hj0 (by omega) (by rw [unhide HVl]; omega)
        obtain ⟨g11, _, _, e11, hf11⟩ := own1_at (unhide HI).txs
        injection e11 with e11 e11b e11c
        subst e11 e11c
        clear e11b
        obtain ⟨rfl, t11⟩ := hf11 j hlt
        rw [List.getElem?_eq_getElem hlt] at t11
        have hne : l1 ≠ [] := fun e => by
          have := ok1.1
          rw [e] at this
          simp at this
        obtain ⟨g1, cap1, ev, _, _⟩ := ro1.at hne
        rw [ev] at hc1 t11
        have HC1 := hide hc1
        have HOk1 := hide ok1
        clear hc1 ok1 ro1 hf11
        go_wp2_with fail
        refine (unhide HC1).mono ?_
        rintro e W6 ⟨rfl, ro6, F6, sy6⟩
        have HRo6 := hide ro6
        have HSy6 := hide sy6
        have HRw := hide (stays_row sy6.st.past (by omega) k sy6.st.box (unhide HKo) (unhide HKb) ((j : Int) + 1) (by omega) (by omega) (by omega))
        clear ro6 sy6 HC1 t11 HI
        go_wp2_with fail
        refine (unhide HRw).mono ?_
        rintro e W7 ⟨v13, rfl, r13, b7⟩
        obtain ⟨g13, c13, rfl, hr13⟩ := r13.cells
        have HSy7 := hide ((unhide HSy6).below b7)
        have HRo7 := hide ((unhide HRo6).carry b7)
        have HR13 := hide r13
        have HC13 := hide hr13
        have h67 : W6.heap.size ≤ W7.heap.size := b7.size
        have h6b : bx + 1 ≤ W6.heap.size := (unhide HSy6).bW
        have HF13 : Hid (Out F6 (.slice (some ⟨g13, 0, none⟩) 75 c13)) := Out.new (w := W6) r13 (unhide HSy6).st.past.lt (Nat.le_refl _)
        obtain ⟨_, _, ev', hat1, _⟩ := (unhide HRo7).at hne
        injection ev' with ev1 ev2 ev3
        clear ev2
        injection ev1 with ev1
        injection ev1 with ev1
        subst ev1 ev3
        have HAt := hide hat1
        obtain ⟨_, _, _, e11, hf11⟩ := own1_at (unhide HSy7).txs
        injection e11 with e11 e11b e11c
        subst e11 e11c
        clear e11b
        obtain ⟨e12, t11⟩ := hf11 j hlt
        injection e12 with e12
        injection e12 with e12
        subst e12
        rw [List.getElem?_eq_getElem hlt, ev] at t11
        have HT11 := hide t11
        obtain ⟨g7, _, _, e7, hf7⟩ := own1_at (unhide HSy7).was
        have hvl : vs.length = j + 1 := unhide HVl
        have hvj : j < vs.length := by omega
        injection e7 with e7 e7b e7c
        subst e7 e7c
        clear e7b
        obtain ⟨rfl, t7⟩ := hf7 j hvj
        rw [List.getElem?_eq_getElem hvj] at t7
        obtain ⟨gj, cj, ej, hrj⟩ := ((unhide HSy7).rowsS j hvj).cells
        rw [ej] at t7
        have HT7 := hide t7
        have HCj := hide hrj
        clear r13 b7 HRw HSy6 HRo6 hr13 hat1 hf11 t11 t7 hrj hf7 hvl
        go_wp2
        go_loopw [15] (fun i y => ∃ t : Nat, t ≤ 75 ∧ i = .int .i64 t ∧ Below W7.heap.size W7 y) (fun i _ => 75 - (intOf i).toNat)
        case atStart => exact ⟨0, Nat.zero_le _, rfl, Below.refl _ _⟩
        case round =>
          obtain ⟨t, ht, rfl, hb⟩ := hrel
          have HBt := hide hb
          clear hb
          by_cases htl : t < 75
          · have htl' : (t : Int) < 75 := by omega
            have ht0 : (0 : Int) ≤ (t : Int) := by omega
            have t11 := there_yet (unhide HT11) (unhide HBt)
            go_wp2
            go_loopw [16, 87] (fun b m y => ∃ m' : Nat, m' ≤ l1.length ∧ m = .int .i64 m' ∧ b = .bool (touchB k (t : Int) (l1.take m')) ∧ Below W7.heap.size W7 y) (fun _ m _ => l1.length - (intOf m).toNat)
            case atStart => exact ⟨0, Nat.zero_le _, rfl, rfl, unhide HBt⟩
            case round =>
              obtain ⟨m, hm, rfl, rfl, hb⟩ := hrel
              have HBm := hide hb
              clear hb t11
              have hl8 : l1.length ≤ 8 := (unhide HOk1).2.1
              by_cases hml : m < l1.length
              · have hml' : (m : Int) < (l1.length : Int) := by omega
                have hm0 : (0 : Int) ≤ (m : Int) := by omega
                obtain ⟨a0, a1, a2, a3, a4, a5, a6⟩ := (unhide HAt).2 m hml
                have HSn : Hid (touchB k (t : Int) (l1.take (m + 1)) = (touchB k (t : Int) (l1.take m) || (sameK (kyO l1[m]) k && decide (l1[m].lo ≤ (t : Int) ∧ (t : Int) < l1[m].hi)))) := by
                  unfold Hid
                  rw [List.take_succ_eq_append_getElem hml, touchB_snoc]
                obtain ⟨o, ho⟩ : ∃ o, o = l1[m] := ⟨_, rfl⟩
                rw [← ho] at a0 a1 a2 a3 a4 a5 a6 HSn
                rw [Nat.zero_add] at a0 a1 a2 a3 a4 a5 a6
                have z0 := there_yet a0 (unhide HBm)
                have z1 := there_yet a1 (unhide HBm)
                have z2 := there_yet a2 (unhide HBm)
                have z3 := there_yet a3 (unhide HBm)
                have z4 := there_yet a4 (unhide HBm)
                have z5 := there_yet a5 (unhide HBm)
                have z6 := there_yet a6 (unhide HBm)
                have HB8 := hide (below_box wr (.cells #[.int .i64 o.kind, .int .i64 o.a, .string o.word, .int .i64 o.b, .int .i64 o.lo, .int .i64 o.hi, .string o.value] 47))
                have k0 := there_yet (unhide HSy7).st.box.c0 (unhide HBm)
                have k1 := there_yet (unhide HSy7).st.box.c1 (unhide HBm)
                have k2 := there_yet (unhide HSy7).st.box.c2 (unhide HBm)
                have k3 := there_yet (unhide HSy7).st.box.c3 (unhide HBm)
                clear a0 a1 a2 a3 a4 a5 a6 ho
                go_upto_region 29 with fail
                have y0 : (wr.alloc (.cells #[.int .i64 o.kind, .int .i64 o.a, .string o.word, .int .i64 o.b, .int .i64 o.lo, .int .i64 o.hi, .string o.value] 47)).cell? ⟨wr.heap.size, 0, none⟩ = some (.int .i64 o.kind) := by simp
                have y1 : (wr.alloc (.cells #[.int .i64 o.kind, .int .i64 o.a, .string o.word, .int .i64 o.b, .int .i64 o.lo, .int .i64 o.hi, .string o.value] 47)).cell? ⟨wr.heap.size, 1, none⟩ = some (.int .i64 o.a) := by simp
                have y2 : (wr.alloc (.cells #[.int .i64 o.kind, .int .i64 o.a, .string o.word, .int .i64 o.b, .int .i64 o.lo, .int .i64 o.hi, .string o.value] 47)).cell? ⟨wr.heap.size, 2, none⟩ = some (.string o.word) := by simp
                have y3 : (wr.alloc (.cells #[.int .i64 o.kind, .int .i64 o.a, .string o.word, .int .i64 o.b, .int .i64 o.lo, .int .i64 o.hi, .string o.value] 47)).cell? ⟨wr.heap.size, 3, none⟩ = some (.int .i64 o.b) := by simp
                have y4 : (wr.alloc (.cells #[.int .i64 o.kind, .int .i64 o.a, .string o.word, .int .i64 o.b, .int .i64 o.lo, .int .i64 o.hi, .string o.value] 47)).cell? ⟨wr.heap.size, 4, none⟩ = some (.int .i64 o.lo) := by simp
                have y5 : (wr.alloc (.cells #[.int .i64 o.kind, .int .i64 o.a, .string o.word, .int .i64 o.b, .int .i64 o.lo, .int .i64 o.hi, .string o.value] 47)).cell? ⟨wr.heap.size, 5, none⟩ = some (.int .i64 o.hi) := by simp
                have k0' := there_yet k0 (unhide HB8)
                have k1' := there_yet k1 (unhide HB8)
                have k2' := there_yet k2 (unhide HB8)
                have k3' := there_yet k3 (unhide HB8)
                have HB9 := hide ((unhide HBm).trans ((unhide HB8).mono (unhide HBm).size))
                clear z0 z1 z2 z3 z4 z5 z6 k0 k1 k2 k3 HB8 HBm
                generalize wr.alloc (.cells #[.int .i64 o.kind, .int .i64 o.a, .string o.word, .int .i64 o.b, .int .i64 o.lo, .int .i64 o.hi, .string o.value] 47) = W9 at *
                generalize wr.heap.size = gb at *
                cases htb : touchB k (t : Int) (l1.take m) with
                | true =>
                  rw [htb] at HSn
                  go_wp2
                  go_roundw
                  case rel => exact ⟨m + 1, by omega, by go_num, by rw [unhide HSn]; rfl, unhide HB9⟩
                  case measure => simp [intOf]; omega
                | false =>
                  rw [htb] at HSn
                  by_cases hsk : kyO o = k
                  · have HHas := hide (fun W => span_Has o.lo o.hi (t : Int) W)
                    have HE := hide (sameK_iff.2 hsk)
                    have HE2 := hide hsk
                    have hk0 : k.kind = o.kind := by rw [← hsk]; rfl
                    have hk1 : k.a = o.a := by rw [← hsk]; rfl
                    have hk2 : k.word = o.word := by rw [← hsk]; rfl
                    have hk3 : k.b = o.b := by rw [← hsk]; rfl
                    rw [hk0] at k0'
                    rw [hk1] at k1'
                    rw [hk2] at k2'
                    rw [hk3] at k3'
                    clear hsk hk0 hk1 hk2 hk3
                    go_wp2_with fail
                    refine (unhide HHas _).mono ?_
                    rintro e Wh ⟨rfl, bh⟩
                    have HB10 := hide ((unhide HB9).trans (bh.mono (unhide HB9).size))
                    clear bh
                    go_wp2
                    go_roundw
                    case rel => exact ⟨m + 1, by omega, by go_num, by rw [unhide HSn, unhide HE]; simp, unhide HB10⟩
                    case measure => simp [intOf]; omega
                  · have HE : Hid (sameK (kyO o) k = false) := by
                      unfold Hid
                      cases e : sameK (kyO o) k with
                      | false => rfl
                      | true => exact absurd (sameK_iff.1 e) hsk
                    go_upto_region 30 with fail
                    all_goals (try (exfalso; exact hsk (key_of (by assumption) (by assumption) (by assumption) (by assumption))))
                    · go_wp2
                      go_roundw
                      case rel => exact ⟨m + 1, by omega, by go_num, by rw [unhide HSn, unhide HE]; rfl, unhide HB9⟩
                      case measure => simp [intOf]; omega
                    · go_wp2
                      go_roundw
                      case rel => exact ⟨m + 1, by omega, by go_num, by rw [unhide HSn, unhide HE]; rfl, unhide HB9⟩
                      case measure => simp [intOf]; omega
                    · go_wp2
                      go_roundw
                      case rel => exact ⟨m + 1, by omega, by go_num, by rw [unhide HSn, unhide HE]; rfl, unhide HB9⟩
                      case measure => simp [intOf]; omega
                    · go_wp2
                      go_roundw
                      case rel => exact ⟨m + 1, by omega, by go_num, by rw [unhide HSn, unhide HE]; rfl, unhide HB9⟩
                      case measure => simp [intOf]; omega
              · obtain rfl : m = l1.length := by omega
                have hlt3 : ¬ (l1.length : Int) < (l1.length : Int) := by omega
                rw [List.take_length]
                have HTb : Hid (touchB k (t : Int) l1 = false → sayL (nextS S (j : Int)) ((j : Int) + 1) l1 k ((j : Int) + 1) (t : Int) = S k (j : Int) (t : Int)) := fun h => said_same S (j : Int) l1 k (t : Int) (touchB_none h)
                have HOl := hide (said_old S (j : Int) l1 k (j : Int) (t : Int) (Int.le_refl _))
                have c1 := there_yet (unhide HC13 t htl) (unhide HBm)
                have c2 := there_yet (unhide HT7) (unhide HBm)
                have c3 := there_yet (unhide HCj t htl) (unhide HBm)
                rw [unhide HOl] at c3
                cases htb : touchB k (t : Int) l1 with
                | true =>
                  go_upto_region 31 with fail
                  go_quiet (fail)
                  go_wp2
                  go_roundw
                  case rel => exact ⟨t + 1, by omega, by go_num, (unhide HBm).trans ((below_drewN _ _).mono (unhide HBm).size)⟩
                  case measure => simp [intOf]; omega
                | false =>
                  rw [unhide HTb htb] at c1
                  generalize S k (j : Int) (t : Int) = x at *
                  go_upto_region 31 with fail
                  go_quiet (fail)
                  go_wp2
                  go_roundw
                  case rel => exact ⟨t + 1, by omega, by go_num, (unhide HBm).trans ((below_drewN _ _).mono (unhide HBm).size)⟩
                  case measure => simp [intOf]; omega
          · obtain rfl : t = 75 := by omega
            have HB8 := hide (below_box wr (.cells #[.slice (some ⟨g13, 0, none⟩) 75 c13] 68))
            have HSy8 := hide (((unhide HSy7).below (unhide HBt)).below (unhide HB8))
            have HR8 := hide (((show RowS W7 W6.heap.size _ _ from unhide HR13).carry (unhide HBt)).carry (unhide HB8))
            have hvl : vs.length = j + 1 := unhide HVl
            have hv50 : vs.length ≤ 1000 := by omega
            have hlen2 : (vs ++ [(.slice (some ⟨g13, 0, none⟩) 75 c13 : Value)]).length = j + 1 + 1 := by rw [List.length_append, hvl]; rfl
            have HLen := hide hlen2
            clear hvl hlen2
            go_wp2_with (first
              | (at_builtin; refine wpList_appV _ rfl (.tmp 121) (.tmp 123) rfl (bx + 1) _ vs rfl (unhide HSy8).was wr.heap.size (some ⟨g13, 0, none⟩) 75 c13 rfl ?d0 ?d1 ?d2 ?_))
            case d0 => simp
            case d1 => exact hv50
            case d2 => exact (unhide HSy8).bW
            intro v7 W10 p1 p2 p3
            have HSy9 := hide ((unhide HSy8).push (by rw [unhide HVl]; exact ownsRow_rebase (unhide HR8) h6b) (unhide HF13) p2 p1 (by simpa using p3))
            obtain ⟨ad10, cap10, e10⟩ := row_slice (show World.ownsRow _ _ _ _ _ _ _ from p1)
            rw [unhide HLen] at e10
            subst e10
            clear p1 p2 p3 HSy7 HSy8 HR8 HB8
            go_wp2
            go_roundw
            case rel =>
              exact ⟨j + 1, _, _, _, cap10, ad10, by go_num, by omega, unhide HLen, rfl, unhide HSy9⟩
            case measure => simp [intOf]; omega
      · obtain rfl : j = ts.length := by omega
        have hlt' : ¬ (ts.length : Int) < (ts.length : Int) := by omega
        obtain ⟨V0, rfl⟩ : ∃ V0, V0 = wr := ⟨_, rfl⟩
        have hvl : vs.length = ts.length + 1 := unhide HVl
        obtain ⟨g7, _, _, e7, hf7⟩ := own1_at (unhide HI).was
        injection e7 with e7 e7b e7c
        subst e7 e7c
        clear e7b
        obtain ⟨rfl, _⟩ := hf7 0 (by omega)
        have HW7 : Hid (∀ a, (h : a < vs.length) → ∃ ga ca, V0.cell? ⟨g7, a, none⟩ = some (.slice (some ⟨ga, 0, none⟩) 75 ca) ∧ ∀ t : Nat, t < 75 → V0.cell? ⟨ga, t, none⟩ = some (.string (S k (a : Int) (t : Int)))) := fun a ha => by
          obtain ⟨ga, ca, ea, hra⟩ := ((unhide HI).rowsS a ha).cells
          have := (hf7 a ha).2
          rw [List.getElem?_eq_getElem ha, ea] at this
          exact ⟨ga, ca, this, hra⟩
        have hv51 : ts.length + 1 ≤ 51 := by omega
        clear hf7 hvl
        go_wp2
        go_loopw [19] (fun i y => ∃ a : Nat, a ≤ ts.length + 1 ∧ i = .int .i64 a ∧ Below V0.heap.size V0 y) (fun i _ => ts.length + 1 - (intOf i).toNat)
        case atStart => exact ⟨0, Nat.zero_le _, rfl, Below.refl _ _⟩
        case round =>
          obtain ⟨a, ha, rfl, hb⟩ := hrel
          have HBa := hide hb
          clear hb
          by_cases hal : a < ts.length + 1
          · have hal' : (a : Int) < ((ts.length + 1 : Nat) : Int) := by omega
            have ha0 : (0 : Int) ≤ (a : Int) := by omega
            have HSa := hide ((unhide HI).st.below (unhide HBa))
            have HRw := hide (stays_row (unhide HSa).past (by omega) k (unhide HSa).box (unhide HKo) (unhide HKb) (a : Int) (by omega) (by omega) (by omega))
            go_wp2_with fail
            refine (unhide HRw).mono ?_
            rintro e V1 ⟨v20, rfl, r20, b1⟩
            obtain ⟨g20, c20, rfl, hr20⟩ := r20.cells
            have HC20 := hide hr20
            have HSb := hide ((unhide HSa).below b1)
            have HB1' := hide ((unhide HBa).trans (b1.mono (unhide HBa).size))
            have HPc := hide (pieces_ok (unhide HSb).past (by omega) k (unhide HKo) (unhide HKb) (a : Int) (by omega) (by omega) (by omega))
            have k0 := (unhide HSb).box.c0
            have k1 := (unhide HSb).box.c1
            have k2 := (unhide HSb).box.c2
            have k3 := (unhide HSb).box.c3
            clear r20 hr20 b1 HRw HSa HBa
            go_wp2_with fail
            refine (unhide HPc).mono ?_
            rintro e V2 ⟨v22, ps, rfl, hps, hca, hco, b2⟩
            obtain ⟨g22, ad22, c22, rfl, hf22⟩ := own_pieces hps
            have HCa := hide hca
            have HCo := hide hco
            have HB2' := hide ((unhide HB1').trans (b2.mono (unhide HB1').size))
            have hps4 := row_max hps
            clear hps hca hco HPc k0 k1 k2 k3
            go_upto_region 42 with fail
            have HB3 := hide (below_box V2 (.cells #[.int .i64 0, .int .i64 0, .string ⟨#[]⟩] 79))
            have HF22 : Hid (∀ j, (hj : j < ps.length) → ad22 = some ⟨g22, 0, none⟩ ∧ g22 < V2.heap.size ∧ V2.cell? ⟨g22, j * 3, none⟩ = some (.int .i64 ps[j].1) ∧ V2.cell? ⟨g22, j * 3 + 1, none⟩ = some (.int .i64 ps[j].2.1) ∧ V2.cell? ⟨g22, j * 3 + 2, none⟩ = some (.string ps[j].2.2)) := fun j hj => ⟨(hf22 j hj).1, lt_of_cell (hf22 j hj).2.2.1, (hf22 j hj).2.2⟩
            have HL0 : Hid (LastAt (V2.alloc (.cells #[.int .i64 0, .int .i64 0, .string ⟨#[]⟩] 79)) V2.heap.size (lastP ps 0)) := ⟨by simp [lastP], by simp [lastP], by simp [lastP], fun i => by simp⟩
            have HC20' := hide (fun t ht => there_yet (unhide HC20 t ht) b2)
            clear b2 hf22 HC20 HSb HB1'
            generalize hV3 : V2.alloc (.cells #[.int .i64 0, .int .i64 0, .string ⟨#[]⟩] 79) = V3 at *
            clear hV3
            go_wp2
            go_loopw [25] (fun i y => ∃ m : Nat, m ≤ ps.length ∧ i = .int .i64 m ∧ Keeps (fun i => i = V2.heap.size) V3 y ∧ LastAt y V2.heap.size (lastP ps m)) (fun i _ => ps.length - (intOf i).toNat)
            case atStart => exact ⟨0, Nat.zero_le _, rfl, Keeps.refl _ _, unhide HL0⟩
            case round =>
              clear HL0
              obtain ⟨m, hm, rfl, hk, hl⟩ := hrel
              have HKp := hide hk
              have HLa := hide hl
              clear hk hl
              by_cases hml : m < ps.length
              · have hml' : (m : Int) < (ps.length : Int) := by omega
                have hm0 : (0 : Int) ≤ (m : Int) := by omega
                obtain ⟨rfl, q0, q1, q2, q3⟩ := unhide HF22 m hml
                have hpw := lastP_at ps m hml
                have HR := hide ((unhide HCa).right _ (List.getElem_mem hml))
                have HNx := hide (lastP_succ ps m hml)
                obtain ⟨p, hp⟩ : ∃ p, p = ps[m] := ⟨_, rfl⟩
                rw [← hp] at q1 q2 q3 hpw HR HNx
                have t : ∀ {o : Nat} {v : Value}, V2.cell? ⟨g22, o, none⟩ = some v → wr.cell? ⟨g22, o, none⟩ = some v := fun {o v} e => ((unhide HKp).cell (p := ⟨g22, o, none⟩) (lt_of_cell (there_yet e (unhide HB3))) (fun e' => by have : g22 = V2.heap.size := e'; omega)).trans (there_yet e (unhide HB3))
                have z0 := t q1
                have z1 := t q2
                have z2 := t q3
                have HL := hide hpw
                obtain ⟨x, hx⟩ : ∃ x, x = lastP ps m := ⟨_, rfl⟩
                rw [← hx] at HL HLa
                clear t q1 q2 q3 hpw hp hx
                obtain ⟨lo, hi, val⟩ := p
                obtain ⟨xl, xh, xv⟩ := x
                dsimp only at z0 z1 z2 HL HR HLa
                have HB4 := hide (below_box wr (.cells #[.int .i64 lo, .int .i64 hi, .string val] 79))
                obtain ⟨hv1, hv2⟩ := not_empty (unhide HR).2
                have HRt := hide (fun W => span_Right lo hi W)
                rw [(unhide HR).1] at HRt
                go_upto_region 46 with fail
                have y0 : (wr.alloc (.cells #[.int .i64 lo, .int .i64 hi, .string val] 79)).cell? ⟨wr.heap.size, 0, none⟩ = some (.int .i64 lo) := by simp
                have y1 : (wr.alloc (.cells #[.int .i64 lo, .int .i64 hi, .string val] 79)).cell? ⟨wr.heap.size, 1, none⟩ = some (.int .i64 hi) := by simp
                have y2 : (wr.alloc (.cells #[.int .i64 lo, .int .i64 hi, .string val] 79)).cell? ⟨wr.heap.size, 2, none⟩ = some (.string val) := by simp
                have HLb := hide ((unhide HLa).below (unhide HB4))
                have HKq := hide ((unhide HKp).then (Keeps.of_below (fun i => i = V2.heap.size) (unhide HB4) (Nat.le_refl _)) (fun _ _ q => q))
                clear z0 z1 z2 HB4 HLa HKp
                generalize wr.alloc (.cells #[.int .i64 lo, .int .i64 hi, .string val] 79) = V4 at *
                generalize wr.heap.size = gb at *
                go_cut [197] (fun s197 wx => s197 = .bool false ∧ Below V4.heap.size V4 wx)
                case first =>
                  have l1 := (unhide HLb).c1
                  have l2 := (unhide HLb).c2
                  have Y0 := hide y0
                  by_cases em : m = 0
                  · subst em
                    go_wp2_with fail
                    refine (unhide HRt _).mono ?_
                    rintro e V5 ⟨rfl, hV5⟩
                    have b5 : Below V4.heap.size V4 V5 := by rw [hV5]; exact below_box _ _
                    have HB5 := hide b5
                    clear hV5 b5
                    go_wp2
                    go_meet
                    case rel => exact ⟨rfl, unhide HB5⟩
                  · obtain ⟨i1, i2⟩ := unhide HL em (unhide HCa)
                    have hm1 : (0 : Int) < (m : Int) := by omega
                    have i1' : ¬ lo < xh := by omega
                    have Yl := hide i2
                    clear i2 i1
                    go_wp2_with fail
                    refine (unhide HRt _).mono ?_
                    rintro e V5 ⟨rfl, hV5⟩
                    have b5 : Below V4.heap.size V4 V5 := by rw [hV5]; exact below_box _ _
                    have HB5 := hide b5
                    have w0 := there_yet (unhide Y0) b5
                    have w1 := there_yet l1 b5
                    have w2 := there_yet l2 b5
                    have w3 := there_yet y2 b5
                    clear hV5 b5 l1 l2 y0 y1 y2
                    by_cases ee : xh = lo
                    · have ev : ¬ xv = val := fun q => unhide Yl ⟨ee, q⟩
                      have ev' : (xv.toList == val.toList) = false := by
                        rw [ByteArray.toList_eq, ByteArray.toList_eq]
                        simp only [beq_eq_false_iff_ne, ne_eq]
                        exact fun q => ev (ByteArray.ext (Array.toList_inj.1 q))
                      subst ee
                      clear ev
                      go_wp2
                      go_meet
                      case rel => exact ⟨rfl, unhide HB5⟩
                    · go_wp2
                      go_meet
                      case rel => exact ⟨by simp; omega, unhide HB5⟩
                case rest =>
                  obtain ⟨rfl, b5⟩ := hcut
                  have HLc := hide ((unhide HLb).below b5)
                  have HKr := hide ((unhide HKq).then (Keeps.of_below (fun i => i = V2.heap.size) b5 (Nat.le_refl _)) (fun _ _ q => q))
                  have w0 := there_yet y0 b5
                  have w1 := there_yet y1 b5
                  have w2 := there_yet y2 b5
                  obtain ⟨hls, hks⟩ := (unhide HLc).set lo hi val
                  have HLs := hide hls
                  have HKs := hide ((unhide HKr).then hks (fun _ _ q => q))
                  have l0 := (unhide HLc).c0
                  have l1 := (unhide HLc).c1
                  have l2 := (unhide HLc).c2
                  have f0 := (unhide HLc).f 0
                  have f1 := (unhide HLc).f 1
                  have f2 := (unhide HLc).f 2
                  clear hls hks y0 y1 y2 b5 HLb HKq HLc HKr
                  go_wp2
                  go_roundw
                  case rel => exact ⟨m + 1, by omega, by go_num, unhide HKs, by rw [unhide HNx]; exact unhide HLs⟩
                  case measure => simp [intOf]; omega
              · obtain rfl : m = ps.length := by omega
                have hlt5 : ¬ (ps.length : Int) < (ps.length : Int) := by omega
                obtain ⟨V4, rfl⟩ : ∃ V4, V4 = wr := ⟨_, rfl⟩
                have kp : ∀ {p : Addr} {v : Value}, V2.cell? p = some v → V4.cell? p = some v := fun {p v} e => ((unhide HKp).cell (lt_of_cell (there_yet e (unhide HB3))) (fun q => by have := lt_of_cell e; have q' : p.block = V2.heap.size := q; omega)).trans (there_yet e (unhide HB3))
                have HC20w : Hid (∀ t : Nat, t < 75 → V4.cell? ⟨g20, t, none⟩ = some (.string (S k (a : Int) (t : Int)))) := fun t ht => kp (unhide HC20' t ht)
                obtain ⟨ga, ca, e7a, hra⟩ := unhide HW7 a (by rw [unhide HVl]; exact hal)
                have HT7 := hide (kp (there_yet e7a (unhide HB2')))
                have HCa7 : Hid (∀ t : Nat, t < 75 → V4.cell? ⟨ga, t, none⟩ = some (.string (S k (a : Int) (t : Int)))) := fun t ht => kp (there_yet (hra t ht) (unhide HB2'))
                have HF4 : Hid (∀ j, (hj : j < ps.length) → ad22 = some ⟨g22, 0, none⟩ ∧ V4.cell? ⟨g22, j * 3, none⟩ = some (.int .i64 ps[j].1) ∧ V4.cell? ⟨g22, j * 3 + 1, none⟩ = some (.int .i64 ps[j].2.1) ∧ V4.cell? ⟨g22, j * 3 + 2, none⟩ = some (.string ps[j].2.2)) := fun j hj => by
                  obtain ⟨q, _, q1, q2, q3⟩ := unhide HF22 j hj
                  exact ⟨q, kp q1, kp q2, kp q3⟩
                have HB4 : Hid (Below V0.heap.size V0 V4) := by
                  have b3 := (unhide HB2').trans ((unhide HB3).mono (unhide HB2').size)
                  exact b3.trans (keeps_below (unhide HKp) (fun i q => by have q' : i = V2.heap.size := q; rw [q']; exact (unhide HB2').size) b3.size)
                clear e7a hra kp HKp HLa HF22 HC20' HB3 HB2' 
                go_wp2
                go_loopw [27] (fun i y => ∃ t : Nat, t ≤ 75 ∧ i = .int .i64 t ∧ Below V4.heap.size V4 y) (fun i _ => 75 - (intOf i).toNat)
                case atStart => exact ⟨0, Nat.zero_le _, rfl, Below.refl _ _⟩
                case round =>
                  obtain ⟨t, ht, rfl, hb⟩ := hrel
                  have HBt := hide hb
                  clear hb
                  by_cases htl : t < 75
                  · have htl' : (t : Int) < 75 := by omega
                    have ht0 : (0 : Int) ≤ (t : Int) := by omega
                    have c1 := there_yet (unhide HC20w t htl) (unhide HBt)
                    have c2 := there_yet (unhide HT7) (unhide HBt)
                    have c3 := there_yet (unhide HCa7 t htl) (unhide HBt)
                    have HCov : Hid (∀ j, (hj : j < ps.length) → ps[j].1 ≤ (t : Int) ∧ (t : Int) < ps[j].2.1 → ps[j].2.2 = S k (a : Int) (t : Int)) := fun j hj q => ((unhide HCo) (t : Int)).1 _ (List.getElem_mem hj) q.1 q.2
                    have HDn : Hid (∀ x, VaI ps ps.length (t : Int) (S k (a : Int) (t : Int)) x → x = S k (a : Int) (t : Int)) := fun x h => h.done (unhide HCo)
                    obtain ⟨f, hf⟩ : ∃ f, f = S k (a : Int) (t : Int) := ⟨_, rfl⟩
                    rw [← hf] at c1 c3 HCov HDn
                    have HRt : Hid (V4.cell? ⟨g20, t, none⟩ = some (.string f)) := by rw [hf]; exact unhide HC20w t htl
                    clear hf
                    go_upto_region 52 with fail
                    go_quiet (fail)
                    have HBq := hide ((unhide HBt).trans ((below_drewN wr nq).mono (unhide HBt).size))
                    clear c1 c2 c3
                    generalize wr.drewN nq = V5 at *
                    go_wp2
                    go_loopw [28, 29] (fun v i y => ∃ (m : Nat) (x : ByteArray), m ≤ ps.length ∧ i = .int .i64 m ∧ v = .string x ∧ VaI ps m (t : Int) f x ∧ Below V4.heap.size V4 y) (fun _ i _ => ps.length - (intOf i).toNat)
                    case atStart => exact ⟨0, _, Nat.zero_le _, rfl, rfl, VaI.start _ _ _, unhide HBq⟩
                    case round =>
                      clear HBq HBt
                      obtain ⟨m, x, hm, rfl, rfl, hva, hb⟩ := hrel
                      have HVa := hide hva
                      have HBm := hide hb
                      clear hva hb
                      by_cases hml : m < ps.length
                      · have hml' : (m : Int) < (ps.length : Int) := by omega
                        have hm0 : (0 : Int) ≤ (m : Int) := by omega
                        obtain ⟨rfl, q1, q2, q3⟩ := unhide HF4 m hml
                        have z1 := there_yet q1 (unhide HBm)
                        have z2 := there_yet q2 (unhide HBm)
                        have HHas := hide (fun W => span_Has ps[m].1 ps[m].2.1 (t : Int) W)
                        have HC1 := hide (unhide HCov m hml)
                        have HNx := hide ((unhide HVa).next hml)
                        obtain ⟨p, hp⟩ : ∃ p, p = ps[m] := ⟨_, rfl⟩
                        rw [← hp] at q3 z1 z2 HHas HC1 HNx
                        clear q1 q2 hp
                        have Q3 := hide q3
                        clear q3
                        go_wp2_with fail
                        refine (unhide HHas _).mono ?_
                        rintro e V6 ⟨rfl, b6⟩
                        have HB6 := hide ((unhide HBm).trans (b6.mono (unhide HBm).size))
                        clear b6 z1 z2 HBm
                        by_cases hh : p.1 ≤ (t : Int) ∧ (t : Int) < p.2.1
                        · rw [decide_eq_true hh]
                          have z3 := there_yet (unhide Q3) (unhide HB6)
                          rw [unhide HC1 hh] at z3
                          clear hh
                          go_wp2
                          go_roundw
                          case rel => exact ⟨m + 1, f, by omega, by go_num, rfl, .inr rfl, unhide HB6⟩
                          case measure => simp [intOf]; omega
                        · rw [decide_eq_false hh]
                          have HN := hide (unhide HNx hh)
                          clear hh
                          go_wp2
                          go_roundw
                          case rel => exact ⟨m + 1, x, by omega, by go_num, rfl, unhide HN, unhide HB6⟩
                          case measure => simp [intOf]; omega
                      · obtain rfl : m = ps.length := by omega
                        have hlt7 : ¬ (ps.length : Int) < (ps.length : Int) := by omega
                        obtain rfl := unhide HDn x (unhide HVa)
                        have z3 := there_yet (unhide HRt) (unhide HBm)
                        go_wp2
                        go_roundw
                        case rel => exact ⟨t + 1, by omega, by go_num, unhide HBm⟩
                        case measure => simp [intOf]; omega
                  · obtain rfl : t = 75 := by omega
                    have HB9 := hide ((unhide HB4).trans ((unhide HBt).mono (unhide HB4).size))
                    clear HBt
                    go_wp2
                    go_roundw
                    case rel => exact ⟨a + 1, by omega, by go_num, unhide HB9⟩
                    case measure => simp [intOf]; omega
          · obtain rfl : a = ts.length + 1 := by omega
            have hlt4 : ¬ ((ts.length + 1 : Nat) : Int) < ((ts.length + 1 : Nat) : Int) := by omega
            obtain ⟨V6, rfl⟩ : ∃ V6, V6 = wr := ⟨_, rfl⟩
            have HSt := hide ((unhide HI).st.below (unhide HBa))
            have k0 := (unhide HSt).box.c0
            have k1 := (unhide HSt).box.c1
            have k2 := (unhide HSt).box.c2
            have k3 := (unhide HSt).box.c3
            have c0 : V6.cell? ⟨n, 0, none⟩ = some (.int .i64 (ts.length : Nat)) := by
              obtain ⟨_, _, _, _, p, _⟩ := (unhide HSt).past
              exact p.c0
            have hR75 : rightB 0 75 = true := by decide
            go_upto_region 62 with fail
            go_region_held3 (fun y => y.cell? ⟨bx, 0, none⟩ = some (.int .i64 k.kind) ∧ y.cell? ⟨bx, 1, none⟩ = some (.int .i64 k.a) ∧ y.cell? ⟨bx, 2, none⟩ = some (.string k.word) ∧ y.cell? ⟨bx, 3, none⟩ = some (.int .i64 k.b))
              (first | exact vs2 | exact ⟨k0, k1, k2, k3⟩)
              (first
                | (go_at_call 27; refine (ever_ok ((unhide HSt).past.below (below_drew V6)) (by omega) (by omega) k (unhide HKo) (unhide HKb) 0 (ts.length : Int) 0 75 (by omega) (by omega) (by omega) (by omega) hR75).mono ?_; rintro e Ve ⟨v30, L, rfl, ho, hpw, hme, bE⟩; have bE' := (below_drew V6).trans bE; have vk := (unhide HSt).box.below bE'; have vs2 : Ve.cell? ⟨bx, 0, none⟩ = some (.int .i64 k.kind) ∧ Ve.cell? ⟨bx, 1, none⟩ = some (.int .i64 k.a) ∧ Ve.cell? ⟨bx, 2, none⟩ = some (.string k.word) ∧ Ve.cell? ⟨bx, 3, none⟩ = some (.int .i64 k.b) := ⟨vk.c0, vk.c1, vk.c2, vk.c3⟩; obtain ⟨g30, ad30, c30, rfl, hf30⟩ := own1_at ho)
                | (go_at_call 28; refine (past_Now (w := V6.drew) (P := pl0 n) (now := (ts.length : Int)) c0).mono ?_; rintro e Wn ⟨rfl, rfl⟩))
            have HBE := hide ((unhide HBa).trans (bE'.mono (unhide HBa).size))
            have hLm := row_max ho
            have HPw := hide hpw
            have HMe := hide hme
            have HF30 := hide hf30
            have hs30 : V6.heap.size ≤ Ve.heap.size := bE'.size
            have HSz := hide (unhide HI).sz
            have HWe : Hid (∀ a, (h : a < ts.length + 1) → ∃ ga ca, Ve.cell? ⟨g7, a, none⟩ = some (.slice (some ⟨ga, 0, none⟩) 75 ca) ∧ ∀ t : Nat, t < 75 → Ve.cell? ⟨ga, t, none⟩ = some (.string (S k (a : Int) (t : Int)))) := fun a ha => by
              obtain ⟨ga, ca, h1, h2⟩ := unhide HW7 a (by rw [unhide HVl]; exact ha)
              exact ⟨ga, ca, there_yet h1 (unhide HBE), fun t ht => there_yet (h2 t ht) (unhide HBE)⟩
            clear vs2 vk bE bE' ho hpw hme hf30 HSt k0 k1 k2 k3 c0 HW7 HBa
            have hmk := run_makeMap (P := Tryz.prog) 84 Ve
            go_upto_region 66 with fail
            clear hmk
            have HHad := hide (had_new Ve)
            have HBm := hide (below_box Ve (.map #[] 0))
            have HB0 := hide ((unhide HBE).trans ((unhide HBm).mono (unhide HBE).size))
            have HmbW : Hid (V0.heap.size ≤ Ve.heap.size) := (unhide HBE).size
            have HKp : Hid (∀ {p : Addr} {v : Value} {y : World}, Ve.cell? p = some v → Keeps (fun i => i = Ve.heap.size) (Ve.alloc (.map #[] 0)) y → y.cell? p = some v) := fun {p v y} e hk => (hk.cell (lt_of_cell (there_yet e (unhide HBm))) (fun q => by have := lt_of_cell e; have q' : p.block = Ve.heap.size := q; omega)).trans (there_yet e (unhide HBm))
            generalize hV7 : Ve.alloc (.map #[] 0) = V7 at *
            generalize hmb : Ve.heap.size = mb at *
            clear hV7 hmb
            go_wp2
            go_loopw [33] (fun i y => ∃ (a : Nat) (K : List (List UInt8)), a ≤ ts.length + 1 ∧ i = .int .i64 a ∧ Had y mb K ∧ HadI (S k) a 0 K ∧ K.length ≤ a * 75 ∧ Keeps (fun i => i = mb) V7 y) (fun i _ => ts.length + 1 - (intOf i).toNat)
            case atStart => exact ⟨0, [], Nat.zero_le _, rfl, unhide HHad, HadI.start _, Nat.zero_le _, Keeps.refl _ _⟩
            case round =>
              clear HHad
              obtain ⟨a, K, ha, rfl, hH, hHI, hKl, hk⟩ := hrel
              have HH := hide hH
              have HHI := hide hHI
              have HK := hide hk
              clear hH hHI hk
              by_cases hal : a < ts.length + 1
              · have hal' : (a : Int) < (ts.length : Int) + 1 := by omega
                have ha0 : (0 : Int) ≤ (a : Int) := by omega
                obtain ⟨ga, ca, w1, w2⟩ := unhide HWe a hal
                have HW1 := hide w1
                have HW2 := hide w2
                clear w1 w2
                go_wp2
                go_loopw [34] (fun i y => ∃ (t : Nat) (K : List (List UInt8)), t ≤ 75 ∧ i = .int .i64 t ∧ Had y mb K ∧ HadI (S k) a t K ∧ K.length ≤ a * 75 + t ∧ Keeps (fun i => i = mb) V7 y) (fun i _ => 75 - (intOf i).toNat)
                case atStart => exact ⟨0, K, Nat.zero_le _, rfl, unhide HH, unhide HHI, by omega, unhide HK⟩
                case round =>
                  clear HH HHI HK hKl
                  obtain ⟨t, K, ht, rfl, hH, hHI, hKl, hk⟩ := hrel
                  have HH := hide hH
                  have HHI := hide hHI
                  have HK := hide hk
                  clear hH hHI hk
                  by_cases htl : t < 75
                  · have htl' : (t : Int) < 75 := by omega
                    have ht0 : (0 : Int) ≤ (t : Int) := by omega
                    have z1 := unhide HKp (unhide HW1) (unhide HK)
                    have z2 := unhide HKp (unhide HW2 t htl) (unhide HK)
                    have HAd := hide ((unhide HHI).add)
                    have HSk := hide ((unhide HHI).skip)
                    have hsz := unhide HSz k (a : Int) (t : Int)
                    obtain ⟨f, hf⟩ : ∃ f, f = S k (a : Int) (t : Int) := ⟨_, rfl⟩
                    rw [← hf] at z2 HAd HSk hsz
                    clear hf
                    by_cases he : f = ByteArray.empty
                    · subst he
                      have HS2 := hide (unhide HSk rfl)
                      have e1 : (ByteArray.empty).toList.isEmpty = true := by rw [ByteArray.toList_eq]; rfl
                      have e2 : ((ByteArray.empty).toList == []) = true := by rw [ByteArray.toList_eq]; rfl
                      clear HAd HSk hsz
                      go_wp2
                      go_roundw
                      case rel => exact ⟨t + 1, K, by omega, by go_num, unhide HH, unhide HS2, by omega, unhide HK⟩
                      case measure => simp [intOf]; omega
                    · obtain ⟨hv1, hv2⟩ := not_empty he
                      have hne : f.data.toList ≠ [] := fun q => he (ByteArray.ext (Array.toList_inj.1 (by rw [q]; rfl)))
                      have HA2 := hide (unhide HAd hne)
                      obtain ⟨D, hD, hKS⟩ := unhide HH
                      have HD := hide hD
                      have HKS := hide hKS
                      have hfm : f.size ≤ maxLen := by unfold maxLen; omega
                      have hKm : K.length < maxLen := by unfold maxLen; omega
                      clear HAd HSk hsz he hne hD hKS
                      go_wp2_with (first
                        | (at_mapUpdate; refine wpList_mapUpdate_in _ rfl _ _ _ 84 rfl 9 4 keyedS Tryz.underlying84 boolE mb K.length D rfl (unhide HD) hKm _ _ _ rfl rfl (WideMaps.keyOf_string_mk Tryz.underlying9 hfm) (.lit (.bool true)) [] rfl ?_))
                      intro W9 own9 turn9
                      have HH9 := hide (Had.put (unhide HKS) (unhide HD) f.data.toList own9)
                      have HK9 := hide ((unhide HK).then (turned_keeps turn9) (fun _ _ q => q))
                      have hl9 : (addS K f.data.toList).length ≤ K.length + 1 := by unfold addS; split <;> simp
                      clear own9 turn9 HD HKS HH HK
                      go_wp2
                      go_roundw
                      case rel => exact ⟨t + 1, _, by omega, by go_num, unhide HH9, unhide HA2, by omega, unhide HK9⟩
                      case measure => simp [intOf]; omega
                  · obtain rfl : t = 75 := by omega
                    have HT := hide (unhide HHI).turn
                    clear HHI
                    go_wp2
                    go_roundw
                    case rel => exact ⟨a + 1, K, by omega, by go_num, unhide HH, unhide HT, by omega, unhide HK⟩
                    case measure => simp [intOf]; omega
              · obtain rfl : a = ts.length + 1 := by omega
                have hlt8 : ¬ ((ts.length + 1 : Nat) : Int) < ((ts.length + 1 : Nat) : Int) := by omega
                obtain ⟨V8, rfl⟩ : ∃ V8, V8 = wr := ⟨_, rfl⟩
                have hKn : K.Nodup := by
                  obtain ⟨D, _, hKS⟩ := unhide HH
                  exact hKS.nodup
                obtain ⟨hmemb, hlenE⟩ := ever_had (unhide HHI) hKn (unhide HPw) (unhide HMe)
                have HMb := hide hmemb
                have HLe := hide hlenE
                have HSL : Hid (∀ x, x ∈ L → x.length ≤ 12) := fun x hx => by
                  obtain ⟨_, c, t, _, _, _, _, e⟩ := (unhide HMe x).1 hx
                  have := unhide HSz k c t
                  rw [size_list, e] at this
                  exact this
                have HB8 : Hid (Below V0.heap.size V0 V8) := (unhide HB0).trans (keeps_below (unhide HK) (fun i q => by rw [show i = mb from q]; exact unhide HmbW) (unhide HB0).size)
                have HF8 : Hid (∀ j, (hj : j < L.length) → ad30 = some ⟨g30, 0, none⟩ ∧ V8.cell? ⟨g30, j, none⟩ = some (.string ⟨L[j].toArray⟩)) := fun j hj => by
                  obtain ⟨q1, q2⟩ := unhide HF30 j hj
                  rw [List.getElem?_map, List.getElem?_eq_getElem hj] at q2
                  exact ⟨q1, unhide HKp q2 (unhide HK)⟩
                clear hKn hmemb hlenE HHI HMe HF30
                go_wp2
                go_loopw [35] (fun i y => ∃ m : Nat, m ≤ L.length ∧ i = .int .i64 m ∧ Below V8.heap.size V8 y) (fun i _ => L.length - (intOf i).toNat)
                case atStart => exact ⟨0, Nat.zero_le _, rfl, Below.refl _ _⟩
                case round =>
                  obtain ⟨m, hm, rfl, hb⟩ := hrel
                  have HBm := hide hb
                  clear hb
                  by_cases hml : m < L.length
                  · have hml' : (m : Int) < (L.length : Int) := by omega
                    have hm0 : (0 : Int) ≤ (m : Int) := by omega
                    obtain ⟨rfl, q1⟩ := unhide HF8 m hml
                    have z1 := there_yet q1 (unhide HBm)
                    have hlk : ∀ q, (Instr.lookup 84 (.map (some mb)) (.string ⟨L[m].toArray⟩) false).run Tryz.prog (wr.drewN q) = .ok (.bool true) (wr.drewN q) := fun q => by
                      have b := (unhide HBm).trans ((below_drewN wr q).mono (unhide HBm).size)
                      refine ((unhide HH).keeps (Keeps.of_below (fun _ => False) b (Nat.le_refl _)) (fun h => h)).look ?_ ?_
                      · exact (unhide HMb _).1 (List.getElem_mem hml)
                      · have := unhide HSL _ (List.getElem_mem hml)
                        rw [size_list]
                        unfold maxLen
                        show L[m].length ≤ _
                        omega
                    by_cases em : m = 0
                    · subst em
                      generalize (⟨L[0].toArray⟩ : ByteArray) = x at *
                      clear q1
                      go_upto_region 77 with fail
                      go_quiet (fail)
                      go_wp2
                      go_roundw
                      case rel => exact ⟨0 + 1, by omega, by go_num, (unhide HBm).trans ((below_drewN _ _).mono (unhide HBm).size)⟩
                      case measure => simp [intOf]; omega
                    · obtain ⟨j, rfl⟩ : ∃ j, m = j + 1 := ⟨m - 1, by omega⟩
                      obtain ⟨_, q2⟩ := unhide HF8 j (by omega)
                      have z2 := there_yet q2 (unhide HBm)
                      have hbl : Op.bytesLess (⟨L[j].toArray⟩ : ByteArray).toList (⟨L[j + 1].toArray⟩ : ByteArray).toList = true := by
                        rw [bytesLess_eq, ByteArray.toList_eq, ByteArray.toList_eq]
                        exact decide_eq_true (List.pairwise_iff_getElem.1 (unhide HPw) j (j + 1) (by omega) hml (by omega))
                      generalize (⟨L[j].toArray⟩ : ByteArray) = y at *
                      generalize (⟨L[j + 1].toArray⟩ : ByteArray) = x at *
                      clear q1 q2
                      go_upto_region 77 with fail
                      trace_state
                      go_quiet (fail)
                      go_wp2
                      go_roundw
                      case rel => exact ⟨j + 1 + 1, by omega, by go_num, (unhide HBm).trans ((below_drewN _ _).mono (unhide HBm).size)⟩
                      case measure => simp [intOf]; omega
                  · obtain rfl : m = L.length := by omega
                    have hltE : ¬ (L.length : Int) < (L.length : Int) := by omega
                    have hln : ∀ ty, (Builtin.len_ #[84] ty #[.map (some mb)]).run Tryz.prog wr = .ok (.int .i64 (L.length : Nat)) wr := fun ty => by
                      rw [unhide HLe]
                      exact ((unhide HH).keeps (Keeps.of_below (fun _ => False) (unhide HBm) (Nat.le_refl _)) (fun h => h)).len ty
                    have HBz : Hid (Below w.heap.size w wr) := by
                      have b0 := (unhide HB1).trans ((unhide HI).st.low.mono (by rw [← hn]; exact (unhide HB1).size))
                      have b1 := b0.trans ((unhide HB8).mono b0.size)
                      exact b1.trans ((unhide HBm).mono b1.size)
                    go_wp2
                    go_ret
                    exact ⟨by simp, unhide HBz⟩
  · have hl' : (50 : Int) < (l.length : Int) := by omega
    go_enter Tryz.func5, Tryz.ntmps5
    go_wp2
    go_ret
    exact ⟨rfl, Below.refl _ _⟩

end Go.Proofs.YtbloahcmakjchaaGreatDoor
