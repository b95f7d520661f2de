/- Texts of one proof, one behind the other. -/
import Derived.Test.YtbloahcmakjchaaGreatDoorBl
import Derived.Test.YtbloahcmakjchaaGreatDoorBa
import Derived.Deep.DeepCutAuto

/- A past that is new; the fact that the statements on the past lean on. -/
namespace Go.Proofs.YtbloahcmakjchaaGreatDoor
open Go.RowKit Go.Maps

theorem keeps_below {F : Nat → Prop} {n : Nat} {w w' : World} (hk : Keeps F w w') (hF : ∀ i, F i → n ≤ i) (hn : n ≤ w.heap.size) : Below n w w' :=
  ⟨hk.os, hk.tape, hk.output, hk.size, fun k h => hk.block k (by omega) (fun q => by have := hF k q; omega)⟩

def noneS : Ky → Int → Int → ByteArray := fun _ _ _ => ByteArray.empty

theorem past_new (w : World) : PastW (w.alloc (.cells #[.int .i64 0, .int .i64 0, .map none] 37)) (pl0 w.heap.size) 0 0 (24 * 0) noneS (pastF (pl0 w.heap.size) none [] (fun _ _ => False)) := by
  refine ⟨none, [], fun _ => ([], 0), fun _ _ => False, ⟨by simp, by simp, by simp, fun i => by simp, .inl ⟨rfl, rfl⟩, List.Pairwise.nil, List.Pairwise.nil, by simp, by simp, by simp, by simp, fun i hi => ?_⟩, ⟨by simp, by simp, by simp, fun _ _ _ _ _ _ => rfl⟩, by simp, rfl⟩
  have h3 : 3 ≤ i := by
    have hi' : i < 0 ∨ 0 + 3 ≤ i := hi
    omega
  show (w.alloc (.cells #[.int .i64 0, .int .i64 0, .map none] 37)).cell? ⟨w.heap.size, i, none⟩ = none
  unfold World.cell?
  rw [heap_alloc_new]
  simp [h3]

def opA : Fop := ⟨1, 3, ⟨#[]⟩, 0, 0, 10, ⟨#[97]⟩⟩
def opC : Fop := ⟨1, 3, ⟨#[]⟩, 0, 5, 20, ⟨#[98]⟩⟩
def kA : Ky := ⟨1, 3, ⟨#[]⟩, 0⟩
theorem opA_ok : okL [opA] := ⟨by decide, by decide, fun o h => by
  obtain rfl := List.mem_singleton.1 h
  simp [opB, opA, keyB, idB, empty_is, rightB]
  exact .inr (by decide)⟩
theorem opC_ok : okL [opC] := ⟨by decide, by decide, fun o h => by
  obtain rfl := List.mem_singleton.1 h
  simp [opB, opC, keyB, idB, empty_is, rightB]
  exact .inr (by decide)⟩

def S1 : Ky → Int → Int → ByteArray := sayL (nextS noneS 0) (0 + 1) [opA]
def S2 : Ky → Int → Int → ByteArray := sayL (nextS S1 (0 + 1)) (0 + 1 + 1) [opC]
theorem sameK_kA : sameK kA kA = true := by decide
theorem S2_one : S2 kA 1 7 = ⟨#[97]⟩ := by
  simp [S2, S1, sayL, setS, nextS, kyO, opA, opC, show sameK kA ⟨1, 3, ⟨#[]⟩, 0⟩ = true from by decide]
theorem S2_two (t : Int) : S2 kA 2 t = if 5 ≤ t ∧ t < 20 then ⟨#[98]⟩ else if 0 ≤ t ∧ t < 10 then ⟨#[97]⟩ else ByteArray.empty := by
  simp [S2, S1, sayL, setS, nextS, kyO, opA, opC, noneS, show sameK kA ⟨1, 3, ⟨#[]⟩, 0⟩ = true from by decide]

theorem two_pieces {ps : List (Int × Int × ByteArray)} (h1 : Canon ps) (h2 : Covers ps (S2 kA 2)) : ps = [(0, 5, ⟨#[97]⟩), (5, 20, ⟨#[98]⟩)] := by
  have na : (⟨#[97]⟩ : ByteArray) ≠ ByteArray.empty := by decide
  have nb : (⟨#[98]⟩ : ByteArray) ≠ ByteArray.empty := by decide
  refine pieces_one h1 ⟨fun p hp => ?_, ?_, fun i hi => ?_⟩ h2 (fun t => ⟨fun p hp a b => ?_, fun e => ?_⟩)
  · rcases List.mem_cons.1 hp with rfl | hp
    · exact ⟨by decide, na⟩
    · obtain rfl := List.mem_singleton.1 hp
      exact ⟨by decide, nb⟩
  · refine List.pairwise_cons.2 ⟨fun p hp => ?_, List.pairwise_singleton _ _⟩
    obtain rfl := List.mem_singleton.1 hp
    decide
  · obtain rfl : i = 0 := by simp at hi; omega
    intro h
    exact absurd h.2 (by simp)
  · rw [S2_two]
    rcases List.mem_cons.1 hp with rfl | hp
    · have a' : (0 : Int) ≤ t := a
      have b' : t < 5 := b
      rw [if_neg (by omega), if_pos (by omega)]
    · obtain rfl := List.mem_singleton.1 hp
      have a' : (5 : Int) ≤ t := a
      have b' : t < 20 := b
      rw [if_pos (by omega)]
  · rw [S2_two] at e
    by_cases c : 5 ≤ t ∧ t < 20
    · exact ⟨(5, 20, ⟨#[98]⟩), by simp, c.1, c.2⟩
    · rw [if_neg c] at e
      by_cases d : 0 ≤ t ∧ t < 10
      · exact ⟨(0, 5, ⟨#[97]⟩), by simp, d.1, (by omega : t < 5)⟩
      · rw [if_neg d] at e
        exact absurd rfl e

end Go.Proofs.YtbloahcmakjchaaGreatDoor

/- Changes by numbers: transactions, in memory; walked. -/
namespace Go.Proofs.YtbloahcmakjchaaGreatDoor
open Go.RowKit Go.Maps

theorem opsAt_box (W : World) (o : Fop) : OpsAt (W.alloc (.cells #[.int .i64 o.kind, .int .i64 o.a, .string o.word, .int .i64 o.b, .int .i64 o.lo, .int .i64 o.hi, .string o.value] 47)) W.heap.size 0 [o] := by
  refine ⟨by simp, fun k hk => ?_⟩
  obtain rfl : k = 0 := by simp at hk; omega
  exact ⟨by simp, by simp, by simp, by simp, by simp, by simp, by simp⟩

structure SayN where
  key : Int
  from_ : Int
  many : Int
  value : Int
  last : Int

def SaysAt (w : World) (ad : Option Addr) (l : List SayN) : Prop := ∀ j, (hj : j < l.length) → ∃ b o, ad = some ⟨b, o, none⟩ ∧ w.cell? ⟨b, o + j * 5, none⟩ = some (.int .i64 l[j].key) ∧ w.cell? ⟨b, o + j * 5 + 1, none⟩ = some (.int .i64 l[j].from_) ∧ w.cell? ⟨b, o + j * 5 + 2, none⟩ = some (.int .i64 l[j].many) ∧ w.cell? ⟨b, o + j * 5 + 3, none⟩ = some (.int .i64 l[j].value) ∧ w.cell? ⟨b, o + j * 5 + 4, none⟩ = some (.int .i64 l[j].last)
theorem SaysAt.carry {w w' : World} {ad : Option Addr} {l : List SayN} (h : SaysAt w ad l) (hb : Below w.heap.size w w') : SaysAt w' ad l := fun j hj => by
  obtain ⟨b, o, h1, h2, h3, h4, h5, h6⟩ := h j hj
  exact ⟨b, o, h1, (hb.cell (p := ⟨b, o + j * 5, none⟩) (lt_of_cell h2)).trans h2, (hb.cell (p := ⟨b, o + j * 5 + 1, none⟩) (lt_of_cell h3)).trans h3, (hb.cell (p := ⟨b, o + j * 5 + 2, none⟩) (lt_of_cell h4)).trans h4, (hb.cell (p := ⟨b, o + j * 5 + 3, none⟩) (lt_of_cell h5)).trans h5, (hb.cell (p := ⟨b, o + j * 5 + 4, none⟩) (lt_of_cell h6)).trans h6⟩

def valN (n : Int) : ByteArray := if pickI n 4 = 0 then ⟨#[]⟩ else if pickI n 4 = 1 then ⟨#[97]⟩ else if pickI n 4 = 2 then ⟨#[98]⟩ else ⟨#[99]⟩
theorem valN_some (n : Int) : (pickI n 4 = 0 ∧ valN n = ⟨#[]⟩) ∨ (pickI n 4 = 1 ∧ valN n = ⟨#[97]⟩) ∨ (pickI n 4 = 2 ∧ valN n = ⟨#[98]⟩) ∨ (pickI n 4 = 3 ∧ valN n = ⟨#[99]⟩) := by
  have h := pickI_lt n 4 (by decide)
  unfold valN
  rcases (show pickI n 4 = 0 ∨ pickI n 4 = 1 ∨ pickI n 4 = 2 ∨ pickI n 4 = 3 by omega) with e | e | e | e <;> rw [e] <;> simp
def opN (s : SayN) : Fop := ⟨(kyN s.key).kind, (kyN s.key).a, (kyN s.key).word, (kyN s.key).b, pickI s.from_ 50, pickI s.from_ 50 + 1 + pickI s.many 20, valN s.value⟩
theorem opN_ok (s : SayN) : opB (opN s) = true := by
  have h1 := pickI_lt s.from_ 50 (by decide)
  have h2 := pickI_lt s.many 20 (by decide)
  have h3 : rightB (pickI s.from_ 50) (pickI s.from_ 50 + 1 + pickI s.many 20) = true := decide_eq_true ⟨by omega, by omega, by omega⟩
  have h4 : (emptyB (valN s.value) || wordB (valN s.value)) = true := by
    rcases valN_some s.value with ⟨_, e⟩ | ⟨_, e⟩ | ⟨_, e⟩ | ⟨_, e⟩ <;> rw [e]
    · rw [empty_is]; rfl
    · rw [show wordB ⟨#[97]⟩ = true by decide]; simp
    · rw [show wordB ⟨#[98]⟩ = true by decide]; simp
    · rw [show wordB ⟨#[99]⟩ = true by decide]; simp
  unfold opB opN
  rw [(kyN_ok s.key).2, h3, h4]
  rfl

/-- The cells of changes, one behind the other. -/
def cells7 (o : Fop) : List Value := [.int .i64 o.kind, .int .i64 o.a, .string o.word, .int .i64 o.b, .int .i64 o.lo, .int .i64 o.hi, .string o.value]
def cellsO (L : List Fop) : List Value := L.flatMap cells7
theorem cellsO_snoc (L : List Fop) (o : Fop) : cellsO (L ++ [o]) = cellsO L ++ cells7 o := by simp [cellsO]
theorem cellsO_at : ∀ (L : List Fop) (k : Nat) (hk : k < L.length) (j : Nat), j < 7 → (cellsO L)[k * 7 + j]? = (cells7 L[k])[j]?
  | o :: L, 0, hk, j, hj => by
      show (cells7 o ++ cellsO L)[0 * 7 + j]? = _
      rw [List.getElem?_append_left (by simpa [cells7] using hj)]
      simp
  | o :: L, k + 1, hk, j, hj => by
      show (cells7 o ++ cellsO L)[(k + 1) * 7 + j]? = _
      have e : (cells7 o).length = 7 := rfl
      rw [List.getElem?_append_right (by omega), show (k + 1) * 7 + j - (cells7 o).length = k * 7 + j by omega, cellsO_at L k (by simpa using hk) j hj]
      simp
def RowO (y : World) (base : Nat) (v : Value) (l : List Fop) : Prop := y.ownsRow base 47 7 v l.length (cellsO l)
theorem RowO.carry {w w' : World} {base : Nat} {v : Value} {l : List Fop} (h : RowO w base v l) (hb : Below w.heap.size w w') : RowO w' base v l := ownsRow_carry h hb
theorem RowO.at {w : World} {base : Nat} {v : Value} {L : List Fop} (h : RowO w base v L) (hL : L ≠ []) : ∃ g cap, v = .slice (some ⟨g, 0, none⟩) L.length cap ∧ OpsAt w g 0 L ∧ base ≤ g := by
  obtain ⟨_, h2⟩ := h
  rcases h2 with ⟨hv, h2⟩ | ⟨g, cap, cur, hv, hg, hh, h3, h4, h5, h6⟩
  · exact absurd (List.eq_nil_of_length_eq_zero h2) hL
  · refine ⟨g, cap, hv, ⟨?_, fun k hk => ?_⟩, hg⟩
    · rcases Nat.lt_or_ge g w.heap.size with k | k
      · exact k
      · rw [Array.getElem?_eq_none k] at hh; cases hh
    · have key : ∀ j, j < 7 → w.cell? ⟨g, 0 + k * 7 + j, none⟩ = (cells7 L[k])[j]? := fun j hj => by
        rw [← cellsO_at L k hk j hj, ← h6, List.getElem?_take_of_lt (by omega)]
        unfold World.cell?
        simp only [hh, Nat.zero_add]
        rw [← Array.getElem?_toList]
        rfl
      exact ⟨key 0 (by omega), key 1 (by omega), key 2 (by omega), key 3 (by omega), key 4 (by omega), key 5 (by omega), key 6 (by omega)⟩

theorem infoO : (Tryz.prog.info? 47).map (fun i => (i.zero, i.size, i.bytes)) = some (some (.agg #[.int .i64 0, .int .i64 0, .string ⟨#[]⟩, .int .i64 0, .int .i64 0, .int .i64 0, .string ⟨#[]⟩]), 7, 72) := by kernel_rfl
theorem infoL : (Tryz.prog.info? 22).map (fun i => (i.zero, i.size, i.bytes)) = some (some (.slice none 0 0), 1, 24) := by kernel_rfl

/-- append of one change to the call's own list of changes. -/
theorem wpList_appO (w : World) {ops : Array Oper} {rest : List Oper} {o : Oper} {a : Act} {Q : Exit → Act → World → Prop} (hgd : o.guard = none) (s x : Operand)
    (ho : o.op = .call { callee := .builtin .append, args := #[s, x], argTypes := #[22, 22] })
    (base : Nat) (v : Value) (L : List Fop) (hs : a.eval s = v) (hown : RowO w base v L)
    (b : Nat) (y : Fop) (hx : a.eval x = .slice (some ⟨b, 0, none⟩) 1 1) (hc : OpsAt w b 0 [y])
    (hlen : L.length ≤ 1000) (hbase : base ≤ w.heap.size)
    (h : ∀ v' w', RowO w' base v' (L ++ [y]) → w.grownBy w' v.ownBlock → wpList Tryz.prog ops Q rest (a.put o.dst v') w') : wpList Tryz.prog ops Q (o :: rest) a w := by
  obtain ⟨i0, hi0, hz0, hz1, hz2⟩ := info_parts infoO
  obtain ⟨c0, c1, c2, c3, c4, c5, c6⟩ := hc.2 0 (by simp)
  refine wpList_append_own w hgd s x 22 ho base 47 i0 (.agg #[.int .i64 0, .int .i64 0, .string ⟨#[]⟩, .int .i64 0, .int .i64 0, .int .i64 0, .string ⟨#[]⟩]) 7 72 Tryz.underlying22 hi0 hz0 hz1 hz2 rfl (by decide) v L.length (cellsO L) hs hown ⟨b, 0, none⟩ 1 1 (cells7 y) hx rfl ?_ ?_ ?_ ?_ hbase ?_
  · intro j u hj
    match j, hj with
    | 0, hj => simp [cells7] at hj; subst hj; simpa [Addr.add] using c0
    | 1, hj => simp [cells7] at hj; subst hj; simpa [Addr.add] using c1
    | 2, hj => simp [cells7] at hj; subst hj; simpa [Addr.add] using c2
    | 3, hj => simp [cells7] at hj; subst hj; simpa [Addr.add] using c3
    | 4, hj => simp [cells7] at hj; subst hj; simpa [Addr.add] using c4
    | 5, hj => simp [cells7] at hj; subst hj; simpa [Addr.add] using c5
    | 6, hj => simp [cells7] at hj; subst hj; simpa [Addr.add] using c6
  · intro u hu
    simp [cells7] at hu
    rcases hu with rfl | rfl | rfl | rfl | rfl | rfl | rfl <;> rfl
  · unfold maxLen; omega
  · omega
  · intro v' w' k1 k2 _
    refine h v' w' ?_ k2
    unfold RowO
    rw [cellsO_snoc]
    simpa using k1

def RowL (y : World) (base : Nat) (v : Value) (l : List Value) : Prop := y.ownsRow base 22 1 v l.length l
theorem RowL.carry {w w' : World} {base : Nat} {v : Value} {l : List Value} (h : RowL w base v l) (hb : Below w.heap.size w w') : RowL w' base v l := ownsRow_carry h hb

/-- append of one list to the call's own list of lists. -/
theorem wpList_appL (w : World) {ops : Array Oper} {rest : List Oper} {o : Oper} {a : Act} {Q : Exit → Act → World → Prop} (hgd : o.guard = none) (s x : Operand)
    (ho : o.op = .call { callee := .builtin .append, args := #[s, x], argTypes := #[39, 39] })
    (base : Nat) (v : Value) (L : List Value) (hs : a.eval s = v) (hown : RowL w base v L)
    (b : Nat) (ad : Option Addr) (n cap : Nat) (hx : a.eval x = .slice (some ⟨b, 0, none⟩) 1 1) (hc : w.cell? ⟨b, 0, none⟩ = some (.slice ad n cap))
    (hlen : L.length ≤ 1000) (hbase : base ≤ w.heap.size)
    (h : ∀ v' w', RowL w' base v' (L ++ [.slice ad n cap]) → w.grownBy w' v.ownBlock → wpList Tryz.prog ops Q rest (a.put o.dst v') w') : wpList Tryz.prog ops Q (o :: rest) a w := by
  obtain ⟨i0, hi0, hz0, hz1, hz2⟩ := info_parts infoL
  refine wpList_append_own w hgd s x 39 ho base 22 i0 (.slice none 0 0) 1 24 Tryz.underlying39 hi0 hz0 hz1 hz2 rfl (by decide) v L.length L hs hown ⟨b, 0, none⟩ 1 1 [.slice ad n cap] hx rfl ?_ ?_ ?_ ?_ hbase ?_
  · intro j u hj
    match j, hj with
    | 0, hj => simp at hj; subst hj; simpa [Addr.add] using hc
  · intro u hu
    simp at hu
    subst hu; rfl
  · unfold maxLen; omega
  · omega
  · intro v' w' k1 k2 _
    refine h v' w' ?_ k2
    unfold RowL
    simpa using k1

end Go.Proofs.YtbloahcmakjchaaGreatDoor

/- The fact that the statements on the past lean on: walked. -/
namespace Go.Proofs.YtbloahcmakjchaaGreatDoor
open Go.RowKit Go.Maps

/-- A past of one's own, made behind a world, and a key's box behind it. -/
structure St (n bx : Nat) (k : Ky) (now : Int) (S : Ky → Int → Int → ByteArray) (w W : World) (F : Nat → Prop) : Prop where
  past : PastW W (pl0 n) now 0 (24 * now) S F
  own : ∀ i, F i → n ≤ i ∧ i ≠ bx
  box : BoxK bx k W
  tab : Tab w
  base : w.heap.size ≤ n
  low : Below n w W
  lt : bx < W.heap.size
  nlt : n < W.heap.size

theorem St.below {n bx : Nat} {k : Ky} {now : Int} {S : Ky → Int → Int → ByteArray} {w W W' : World} {F : Nat → Prop} (h : St n bx k now S w W F) (hb : Below W.heap.size W W') : St n bx k now S w W' F :=
  ⟨h.past.below hb, h.own, h.box.below hb, h.tab, h.base, h.low.trans (hb.mono (Nat.le_of_lt h.nlt)), Nat.lt_of_lt_of_le h.lt hb.size, Nat.lt_of_lt_of_le h.nlt hb.size⟩

theorem St.fresh {n bx : Nat} {k : Ky} {now : Int} {S : Ky → Int → Int → ByteArray} {w W : World} {F : Nat → Prop} (h : St n bx k now S w W F) : ¬ F W.heap.size := fun q => by
  obtain ⟨mv, X, Ln, Fs, p, _, _, e⟩ := h.past
  rw [e] at q
  exact Nat.lt_irrefl _ (p.lt _ q)

theorem St.step {n bx : Nat} {k : Ky} {now now' : Int} {S S' : Ky → Int → Int → ByteArray} {w W W' : World} {F : Nat → Prop} (h : St n bx k now S w W F) (hc : Changed W (pl0 n) now' 0 (24 * now') S' F W') : ∃ F', St n bx k now' S' w W' F' := by
  obtain ⟨F', p, g⟩ := hc
  have hl := h.lt
  have hn : ¬ F bx := fun q => (h.own _ q).2 rfl
  have hb := keeps_below g.2 (fun i q => (h.own i q).1) (Nat.le_of_lt h.nlt)
  refine ⟨F', p, fun i q => ?_, h.box.keeps g.2 hn, h.tab, h.base, h.low.trans hb, Nat.lt_of_lt_of_le hl g.2.size, Nat.lt_of_lt_of_le h.nlt g.2.size⟩
  rcases g.1 i q with r | r
  · exact h.own i r
  · have := h.nlt
    omega

theorem St.tabs {n bx : Nat} {k : Ky} {now : Int} {S : Ky → Int → Int → ByteArray} {w W : World} {F : Nat → Prop} (h : St n bx k now S w W F) : Tab W := h.tab.carry (h.low.mono h.base)

theorem St.begin (w : World) (k : Ky) (ht : Tab w) : St w.heap.size (w.heap.size + 1) k 0 noneS w ((w.alloc (.cells #[.int .i64 0, .int .i64 0, .map none] 37)).alloc (.cells #[.int .i64 k.kind, .int .i64 k.a, .string k.word, .int .i64 k.b] 43)) (pastF (pl0 w.heap.size) none [] (fun _ _ => False)) := by
  have b1 := below_box w (.cells #[.int .i64 0, .int .i64 0, .map none] 37)
  have e1 : (w.alloc (.cells #[.int .i64 0, .int .i64 0, .map none] 37)).heap.size = w.heap.size + 1 := by simp
  have b2 := below_box (w.alloc (.cells #[.int .i64 0, .int .i64 0, .map none] 37)) (.cells #[.int .i64 k.kind, .int .i64 k.a, .string k.word, .int .i64 k.b] 43)
  have hb := boxK_new (w.alloc (.cells #[.int .i64 0, .int .i64 0, .map none] 37)) k
  rw [e1] at hb
  refine ⟨(past_new w).below b2, fun i q => ?_, hb, ht, Nat.le_refl _, b1.trans (b2.mono b1.size), by simp, by simp; omega⟩
  rcases q with q | q | ⟨x, hx, _⟩
  · have q' : i = w.heap.size := q
    omega
  · cases q
  · cases hx

set_option maxRecDepth 100000 in
set_option maxHeartbeats 8000000 in
theorem said_ok (w : World) (ht : Tab w) : Calls Tryz.prog 19 #[] w fun e w' => e = .returned (.bool true) ∧ Below w.heap.size w w' := by
  have HN := hide (St.begin w kA ht)
  have e2 : ((w.alloc (.cells #[.int .i64 0, .int .i64 0, .map none] 37)).alloc (.cells #[.int .i64 kA.kind, .int .i64 kA.a, .string kA.word, .int .i64 kA.b] 43)).heap.size = w.heap.size + 1 + 1 := by simp
  have HO := hide (opsAt_box ((w.alloc (.cells #[.int .i64 0, .int .i64 0, .map none] 37)).alloc (.cells #[.int .i64 kA.kind, .int .i64 kA.a, .string kA.word, .int .i64 kA.b] 43)) opA)
  have HN1 := hide ((unhide HN).below (below_box _ (.cells #[.int .i64 opA.kind, .int .i64 opA.a, .string opA.word, .int .i64 opA.b, .int .i64 opA.lo, .int .i64 opA.hi, .string opA.value] 47)))
  have HF := hide (unhide HN).fresh
  have HC1 := hide (commit_ok (unhide HN1).past [opA] _ 0 1 opA_ok (unhide HO) (unhide HF) (unhide HN1).tabs (by decide) (by decide) (by decide))
  rw [e2] at HC1
  clear ht HN HO HF e2
  go_enter Tryz.func19, Tryz.ntmps19
  go_wp2_with fail
  refine (unhide HC1).mono ?_
  rintro e W1 ⟨rfl, hc1⟩
  obtain ⟨F1, st1⟩ := (unhide HN1).step hc1
  have HN2 := hide st1
  clear hc1 st1 HN1 HC1
  have k0 : W1.cell? ⟨w.heap.size + 1, 0, none⟩ = some (.int .i64 1) := (unhide HN2).box.c0
  have k1 : W1.cell? ⟨w.heap.size + 1, 1, none⟩ = some (.int .i64 3) := (unhide HN2).box.c1
  have k2 : W1.cell? ⟨w.heap.size + 1, 2, none⟩ = some (.string ⟨#[]⟩) := (unhide HN2).box.c2
  have k3 : W1.cell? ⟨w.heap.size + 1, 3, none⟩ = some (.int .i64 0) := (unhide HN2).box.c3
  have HO := hide (opsAt_box W1 opC)
  have HN3 := hide ((unhide HN2).below (below_box _ (.cells #[.int .i64 opC.kind, .int .i64 opC.a, .string opC.word, .int .i64 opC.b, .int .i64 opC.lo, .int .i64 opC.hi, .string opC.value] 47)))
  have HC2 := hide (commit_ok (unhide HN3).past [opC] _ 0 1 opC_ok (unhide HO) (unhide HN2).fresh (unhide HN3).tabs (by decide) (by decide) (by decide))
  clear HO HN2
  go_wp2_with fail
  refine (unhide HC2).mono ?_
  rintro e W2 ⟨rfl, hc2⟩
  obtain ⟨F2, st2⟩ := (unhide HN3).step hc2
  have HN4 := hide st2
  clear hc2 st2 HN3 HC2 k0 k1 k2 k3
  have k0 : W2.cell? ⟨w.heap.size + 1, 0, none⟩ = some (.int .i64 1) := (unhide HN4).box.c0
  have k1 : W2.cell? ⟨w.heap.size + 1, 1, none⟩ = some (.int .i64 3) := (unhide HN4).box.c1
  have k2 : W2.cell? ⟨w.heap.size + 1, 2, none⟩ = some (.string ⟨#[]⟩) := (unhide HN4).box.c2
  have k3 : W2.cell? ⟨w.heap.size + 1, 3, none⟩ = some (.int .i64 0) := (unhide HN4).box.c3
  have kok : KyOk kA := ⟨by decide, by decide, by decide, by show (0 : Nat) ≤ maxLen; omega⟩
  have kbk : keyB kA.kind kA.a kA.word kA.b = true := by simp [keyB, kA, idB, empty_is]
  have HV1 := hide (value_ok (unhide HN4).past (by decide) kA kok kbk 1 7 (by decide) (by decide) (by decide) (by decide) (by decide))
  rw [show sayL (nextS (sayL (nextS noneS 0) (0 + 1) [opA]) (0 + 1)) (0 + 1 + 1) [opC] = S2 from rfl, S2_one] at HV1
  go_wp2_with fail
  refine (unhide HV1).mono ?_
  rintro e W3 ⟨rfl, b3⟩
  have HN5 := hide ((unhide HN4).below b3)
  clear b3 HN4 HV1 k0 k1 k2 k3
  have k0 : W3.cell? ⟨w.heap.size + 1, 0, none⟩ = some (.int .i64 1) := (unhide HN5).box.c0
  have k1 : W3.cell? ⟨w.heap.size + 1, 1, none⟩ = some (.int .i64 3) := (unhide HN5).box.c1
  have k2 : W3.cell? ⟨w.heap.size + 1, 2, none⟩ = some (.string ⟨#[]⟩) := (unhide HN5).box.c2
  have k3 : W3.cell? ⟨w.heap.size + 1, 3, none⟩ = some (.int .i64 0) := (unhide HN5).box.c3
  have HV2 := hide (value_ok (unhide HN5).past (by decide) kA kok kbk 2 7 (by decide) (by decide) (by decide) (by decide) (by decide))
  rw [show sayL (nextS (sayL (nextS noneS 0) (0 + 1) [opA]) (0 + 1)) (0 + 1 + 1) [opC] = S2 from rfl, S2_two, if_pos (by decide)] at HV2
  go_wp2_with fail
  refine (unhide HV2).mono ?_
  rintro e W4 ⟨rfl, b4⟩
  have HN6 := hide ((unhide HN5).below b4)
  clear b4 HN5 HV2 k0 k1 k2 k3
  have k0 : W4.cell? ⟨w.heap.size + 1, 0, none⟩ = some (.int .i64 1) := (unhide HN6).box.c0
  have k1 : W4.cell? ⟨w.heap.size + 1, 1, none⟩ = some (.int .i64 3) := (unhide HN6).box.c1
  have k2 : W4.cell? ⟨w.heap.size + 1, 2, none⟩ = some (.string ⟨#[]⟩) := (unhide HN6).box.c2
  have k3 : W4.cell? ⟨w.heap.size + 1, 3, none⟩ = some (.int .i64 0) := (unhide HN6).box.c3
  have HPc := hide (pieces_ok (unhide HN6).past (by decide) kA kok kbk 2 (by decide) (by decide) (by decide))
  rw [show sayL (nextS (sayL (nextS noneS 0) (0 + 1) [opA]) (0 + 1)) (0 + 1 + 1) [opC] = S2 from rfl] at HPc
  go_wp2_with fail
  refine (unhide HPc).mono ?_
  rintro e W5 ⟨v, ps, rfl, hr, hca, hco, b5⟩
  obtain rfl := two_pieces hca hco
  have HN7 := hide ((unhide HN6).below b5)
  obtain ⟨g, ad, cp, rfl, hf⟩ := own_pieces hr
  obtain ⟨rfl, _, z0, z1, z2⟩ := hf 0 (by decide)
  have z0' : W5.cell? ⟨g, 0, none⟩ = some (.int .i64 0) := z0
  have z1' : W5.cell? ⟨g, 1, none⟩ = some (.int .i64 5) := z1
  have z2' : W5.cell? ⟨g, 2, none⟩ = some (.string ⟨#[97]⟩) := z2
  have hlen : ([((0 : Int), (5 : Int), (⟨#[97]⟩ : ByteArray)), (5, 20, ⟨#[98]⟩)] : List (Int × Int × ByteArray)).length = 2 := rfl
  have HB := hide (unhide HN7).low
  rw [hlen]
  clear b5 HN6 HPc k0 k1 k2 k3 hr hca hco hf z0 z1 z2 hlen HN7
  go_wp2
  go_ret
  exact ⟨rfl, unhide HB⟩

end Go.Proofs.YtbloahcmakjchaaGreatDoor

/- Changes by numbers: the call that makes them, walked. -/
namespace Go.Proofs.YtbloahcmakjchaaGreatDoor
open Go.RowKit Go.Maps

theorem rows_apart {y : World} {b1 b2 : Nat} {u v : Value} {vs : List Value} {l : List Fop} (h : RowL y b1 u vs) (k : RowO y b2 v l) : v.ownBlock = none ∨ v.ownBlock ≠ u.ownBlock := by
  rcases h.2 with ⟨rfl, _⟩ | ⟨g, cap, cur, rfl, _, hb, _⟩
  · rcases k.2 with ⟨rfl, _⟩ | ⟨g', cap', cur', rfl, _, hb', _⟩
    · exact .inl rfl
    · exact .inr (by simp [Value.ownBlock])
  · rcases k.2 with ⟨rfl, _⟩ | ⟨g', cap', cur', rfl, _, hb', _⟩
    · exact .inl rfl
    · refine .inr (fun e => ?_)
      have : g' = g := by simpa [Value.ownBlock] using e
      subst this
      rw [hb] at hb'
      cases hb'

/-- What holds while transactions are made. -/
structure OpsI (w y : World) (u3 u4 : Value) (vs : List Value) (tx : List Fop) (n : Nat) : Prop where
  row : RowL y w.heap.size u3 vs
  elems : ∀ v, v ∈ vs → ∃ l, okL l ∧ RowO y w.heap.size v l ∧ ∀ g, v.ownBlock = some g → g < n
  rtx : RowO y n u4 tx
  nle : n ≤ y.heap.size
  wn : w.heap.size ≤ n
  ok : ∀ o, o ∈ tx → opB o = true
  low : Below w.heap.size w y

theorem OpsI.below {w y y' : World} {u3 u4 : Value} {vs : List Value} {tx : List Fop} {n : Nat} (h : OpsI w y u3 u4 vs tx n) (hb : Below y.heap.size y y') : OpsI w y' u3 u4 vs tx n :=
  ⟨h.row.carry hb, fun v hv => by
    obtain ⟨l, h1, h2, h3⟩ := h.elems v hv
    exact ⟨l, h1, h2.carry hb, h3⟩, h.rtx.carry hb, Nat.le_trans h.nle hb.size, h.wn, h.ok, h.low.trans (hb.mono (Nat.le_trans h.wn h.nle))⟩

theorem OpsI.add {w y y' : World} {u3 u4 v' : Value} {vs : List Value} {tx : List Fop} {n : Nat} {o : Fop} (h : OpsI w y u3 u4 vs tx n) (hg : y.grownBy y' u4.ownBlock) (hr : RowO y' n v' (tx ++ [o])) (ho : opB o = true) : OpsI w y' u3 v' vs (tx ++ [o]) n := by
  have hs : y.heap.size ≤ y'.heap.size := hg.size
  refine ⟨World.ownsRow.kept h.row hg ?_, fun v hv => ?_, hr, Nat.le_trans h.nle hs, h.wn, fun x hx => ?_, h.low.grown hg (Nat.le_trans h.wn h.nle) (fun k q => ?_)⟩
  · rcases rows_apart h.row h.rtx with e | e
    · rcases h3 : u3.ownBlock with _ | g
      · exact .inl rfl
      · exact .inr (by rw [e]; simp)
    · exact .inr (fun q => e q.symm)
  · obtain ⟨l, h1, h2, h3⟩ := h.elems v hv
    refine ⟨l, h1, World.ownsRow.kept h2 hg ?_, h3⟩
    rcases hv4 : v.ownBlock with _ | g
    · exact .inl rfl
    · refine .inr (fun q => ?_)
      have := h3 g hv4
      have := (World.ownsRow.lt h.rtx g q.symm).1
      omega
  · rcases List.mem_append.1 hx with q | q
    · exact h.ok x q
    · obtain rfl := List.mem_singleton.1 q
      exact ho
  · have := (World.ownsRow.lt h.rtx k q).1
    have := h.wn
    omega

theorem OpsI.flush {w y y' : World} {u3 u4 v' : Value} {vs : List Value} {tx : List Fop} {n : Nat} (h : OpsI w y u3 u4 vs tx n) (hg : y.grownBy y' u3.ownBlock) (hr : RowL y' w.heap.size v' (vs ++ [u4])) (h1 : 1 ≤ tx.length) (h8 : tx.length ≤ 8) : OpsI w y' v' (.slice none 0 0) (vs ++ [u4]) [] y'.heap.size := by
  have hs : y.heap.size ≤ y'.heap.size := hg.size
  refine ⟨hr, fun v hv => ?_, World.ownsRow_nil _ _ _ _, Nat.le_refl _, Nat.le_trans (Nat.le_trans h.wn h.nle) hs, by simp, h.low.grown hg (Nat.le_trans h.wn h.nle) (fun k q => (World.ownsRow.lt h.row k q).1)⟩
  rcases List.mem_append.1 hv with q | q
  · obtain ⟨l, e1, e2, e3⟩ := h.elems v q
    refine ⟨l, e1, World.ownsRow.kept e2 hg (rows_apart h.row e2), fun g hgv => ?_⟩
    have := e3 g hgv
    have := h.nle
    omega
  · obtain rfl := List.mem_singleton.1 q
    refine ⟨tx, ⟨h1, h8, h.ok⟩, World.ownsRow.kept (ownsRow_rebase h.rtx h.wn) hg (rows_apart h.row h.rtx), fun g hgv => ?_⟩
    have := (World.ownsRow.lt h.rtx g hgv).2
    omega

end Go.Proofs.YtbloahcmakjchaaGreatDoor

/- A region that draws its order, by what holds while it goes on: whatever has come up so far has left what it should. So what is to be shown is one step an operation, not one walk an order. -/
namespace Go.Proofs.YtbloahcmakjchaaGreatDoor

variable {P : Program} {ops : Array Oper} {md : Region.Mode} {Q : Exit → Act → World → Prop} {S : World → Prop}

/-- What has come up. -/
def upOf (L : Array Bool) : Nat → Prop := fun k => L.getD k false = true

theorem upOf_set {L : Array Bool} {i : Nat} (h : i < L.size) : upOf (L.setIfInBounds i true) = fun k => k = i ∨ upOf L k := by
  funext k
  apply propext
  unfold upOf
  by_cases e : i = k
  · subst e
    simp [h]
  · rw [getD_set_ne false e]
    constructor
    · exact fun q => .inr q
    · rintro (q | q)
      · exact absurd q.symm e
      · exact q

/-- For whom an operation waits. -/
def waits (md : Region.Mode) (o : Oper) : List Nat := (o.after.toList.filter fun e => Region.binds md e).map (·.on)

/-- Each of some operations keeps what holds. -/
def StepsI (P : Program) (md : Region.Mode) (ops : Array Oper) (Q : Exit → Act → World → Prop) (S : World → Prop) (I : (Nat → Prop) → Act → World → Prop) (R : List Nat) : Prop :=
  ∀ i, i ∈ R → ∀ o, ops[i]? = some o → ∀ (D : Nat → Prop) (a : Act) (w : World), ¬ D i → (∀ k, k ∈ waits md o → D k) → I D a w → wpOp P ops Q i (fun a' w' => S w' ∧ I (fun k => k = i ∨ D k) a' w') a w

theorem StepsI.nil {I : (Nat → Prop) → Act → World → Prop} : StepsI P md ops Q S I [] := fun _ h => by cases h

theorem StepsI.cons {I : (Nat → Prop) → Act → World → Prop} {i : Nat} {o : Oper} {ds R : List Nat} (ho : ops[i]? = some o) (hd : (ds.all fun k => (waits md o).contains k) = true)
    (h : ∀ (D : Nat → Prop) (a : Act) (w : World) (K : Act → World → Prop), ¬ D i → (∀ k, k ∈ ds → D k) → I D a w → Shut (∀ a w, S w → I (fun k => k = i ∨ D k) a w → K a w) → if Region.wanted o (yielded ops a.tmps) = true then Oper.wp P o a w K Q else K (a.put o.dst undef) w)
    (hs : StepsI P md ops Q S I R) : StepsI P md ops Q S I (i :: R) := fun j hj o' ho' D a w hn hk hI => by
  rcases List.mem_cons.1 hj with rfl | hj
  · rw [ho] at ho'
    cases ho'
    exact wpOp_step ho fun K hK => h D a w K hn (fun k q => hk k (by have := List.all_eq_true.1 hd k q; simpa using this)) hI (fun a w h1 h2 => hK a w ⟨h1, h2⟩)
  · exact hs j hj o' ho' D a w hn hk hI

/-- What has not come up is listed. -/
def leftB (ops : Array Oper) (L : Array Bool) (R : List Nat) : Bool := decide (L.size = ops.size) && (List.range ops.size).all fun i => L.getD i true || R.contains i

theorem none_left (hf : fwdB md ops ops.size = true) (L : Array Bool) (hL : L.size = ops.size) (hr : Region.ready md ops L = []) (k : Nat) (hk : k < ops.size) : upOf L k := by
  induction k using Nat.strongRecOn with
  | _ k ih =>
    obtain ⟨o, ho, hfw⟩ := fwd_spec hf hk
    unfold upOf
    cases hl : L.getD k false with
    | true => rfl
    | false =>
      have hun : L.getD k true = false := getD_in (by rw [hL]; exact hk) hl
      have : k ∈ Region.ready md ops L := mem_ready.2 ⟨hun, o, ho, fun e he hb => ih e.on (hfw e he hb) (by have := hfw e he hb; omega)⟩
      rw [hr] at this
      cases this

theorem wpAnyH_inv (I : (Nat → Prop) → Act → World → Prop) {R : List Nat} (hs : StepsI P md ops Q S I R) (hd : ∀ D a w, (∀ k, k < ops.size → D k) → I D a w → Q .normal a w) (hf : fwdB md ops ops.size = true) :
    ∀ (fuel : Nat) (L : Array Bool) (a : Act) (w : World), leftB ops L R = true → (L.toList.filter (fun b => !b)).length ≤ fuel → I (upOf L) a w → wpAnyH P md ops Q S fuel L a w
  | 0, L, a, w, hL, hc, hI => by
    simp only [leftB, Bool.and_eq_true, decide_eq_true_eq] at hL
    have hup : ∀ k, k < L.size → L[k]? = some true := fun k hk => by
      have h0 := List.eq_nil_of_length_eq_zero (Nat.le_zero.1 hc)
      have := (List.filter_eq_nil_iff.1 h0) L[k] (by simp)
      rw [Array.getElem?_eq_getElem hk]
      simpa using this
    have hr : Region.ready md ops L = [] := by
      refine List.filter_eq_nil_iff.2 fun i hi => ?_
      have := hup i (by rw [hL.1]; exact List.mem_range.1 hi)
      simp [Array.getD_eq_getD_getElem?, this]
    exact ⟨hr, hd _ a w (none_left hf L hL.1 hr) hI⟩
  | fuel + 1, L, a, w, hL, hc', hI => by
    have hL' := hL
    simp only [leftB, Bool.and_eq_true, decide_eq_true_eq] at hL
    refine ⟨fun hr => hd _ a w (none_left hf L hL.1 hr) hI, fun i hi => ?_⟩
    obtain ⟨hun, o, ho, hall⟩ := mem_ready.1 hi
    have hi' : i < ops.size := by
      rcases Nat.lt_or_ge i ops.size with k | k
      · exact k
      · rw [Array.getElem?_eq_none k] at ho; cases ho
    have hiL : i < L.size := by rw [hL.1]; exact hi'
    have hiR : i ∈ R := by
      have := List.all_eq_true.1 hL.2 i (List.mem_range.2 hi')
      rw [hun] at this
      simpa using this
    have hiF : L[i]? = some false := by
      rw [Array.getD_eq_getD_getElem?] at hun
      rw [Array.getElem?_eq_getElem hiL] at hun ⊢
      simpa using hun
    have hstep := hs i hiR o ho (upOf L) a w (by unfold upOf; rw [Array.getD_eq_getD_getElem?, hiF]; simp) (fun k hk => by
      unfold waits at hk
      obtain ⟨e, he, rfl⟩ := List.mem_map.1 hk
      rw [List.mem_filter] at he
      exact hall e (by simpa using he.1) he.2) hI
    refine wpOp_mono (fun a' w' h' => ⟨h'.1, ?_⟩) hstep
    refine wpAnyH_inv I hs hd hf fuel (L.setIfInBounds i true) a' w' ?_ ?_ ?_
    · simp only [leftB, Bool.and_eq_true, decide_eq_true_eq]
      refine ⟨by simpa using hL.1, List.all_eq_true.2 fun k hk => ?_⟩
      by_cases e : i = k
      · subst e
        simp [hiL]
      · rw [getD_set_ne true e]
        exact List.all_eq_true.1 hL.2 k hk
    · have hc : (L.toList.set i true).countP (fun b => !b) + 1 ≤ L.toList.countP (fun b => !b) := by
        have hl : i < L.toList.length := by simpa using hiL
        have h1 := List.countP_set (p := fun b => !b) (l := L.toList) (i := i) (a := true) hl
        have h2 : L.toList[i] = false := by
          have := Array.getElem?_eq_getElem hiL
          rw [hiF] at this
          simpa using (Option.some.inj this).symm
        have h3 : 0 < L.toList.countP (fun b => !b) := List.countP_pos_iff.2 ⟨false, by rw [← h2]; exact List.getElem_mem hl, rfl⟩
        rw [h1, h2]
        simp only [Bool.not_false, if_true, Bool.not_true, Bool.false_eq_true, if_false]
        omega
      simp only [List.countP_eq_length_filter] at hc
      simp only [Array.toList_setIfInBounds]
      omega
    · rw [upOf_set hiL]
      exact h'.2

/-- Some slots of a frame hold other values. -/
def puts (a : Act) : List (Nat × Value) → Act
  | [] => a
  | x :: r => puts (a.put (some x.1) x.2) r

/-- The same, of the frame at hand. -/
theorem wpAnyH_from (I : Act → (Nat → Prop) → Act → World → Prop) {R : List Nat} {fuel : Nat} {L : Array Bool} {a : Act} {w : World} (hs : StepsI P md ops Q S (I a) R) (hd : ∀ D b y, (∀ k, k < ops.size → D k) → I a D b y → Q .normal b y) (hf : fwdB md ops ops.size = true)
    (hL : leftB ops L R = true) (hc : decide ((L.toList.filter (fun b => !b)).length ≤ fuel) = true) (hN : (R.all fun k => !(L.getD k false)) = true) (hI : ∀ D : Nat → Prop, (∀ k, k ∈ R → ¬ D k) → I a D a w) : wpAnyH P md ops Q S fuel L a w :=
  wpAnyH_inv (I a) hs hd hf fuel L a w hL (of_decide_eq_true hc) (hI _ (fun k hk q => by
    have := List.all_eq_true.1 hN k hk
    unfold upOf at q
    rw [q] at this
    cases this))

end Go.Proofs.YtbloahcmakjchaaGreatDoor

/- Changes by numbers: the call that makes them, walked. -/
namespace Go.Proofs.YtbloahcmakjchaaGreatDoor
open Go.RowKit Go.Maps

/-- What a call that makes transactions gives. -/
def OpsSay (w : World) (m : Nat) (e : Ending) (w' : World) : Prop :=
  ∃ v vs, e = .returned v ∧ RowL w' w.heap.size v vs ∧ vs.length ≤ m ∧ (∀ x, x ∈ vs → ∃ l, okL l ∧ RowO w' w.heap.size x l) ∧ Below w.heap.size w w'

/-- Four texts, by number. -/
theorem strs_at (s : SayN) (y : World) (g : Nat) (h : y.heap[g]? = some (.cells #[.string ⟨#[]⟩, .string ⟨#[97]⟩, .string ⟨#[98]⟩, .string ⟨#[99]⟩] 9 (0, 0))) : y.cell? ⟨g, (pickI s.value 4).toNat, none⟩ = some (.string (valN s.value)) := by
  unfold World.cell?
  rcases valN_some s.value with ⟨hp, hv⟩ | ⟨hp, hv⟩ | ⟨hp, hv⟩ | ⟨hp, hv⟩ <;> simp [hp, hv, h]

theorem keeps_sets (b : Nat) : ∀ (vs : List Value) (o : Nat) (w : World), Keeps (· = b) w (w.setCells b o vs)
  | [], _, _ => ⟨rfl, rfl, rfl, Nat.le_refl _, fun _ _ _ => rfl⟩
  | v :: r, o, w => (keeps_set w b o v).then (keeps_sets b r (o + 1) _) (fun _ _ h => h)

/-- What the making of a change holds, whatever has come up. -/
structure MkI (s : SayN) (W : World) (D : Nat → Prop) (v25 v34 v35 v36 v37 v43 v44 v45 v46 v7 : Value) (y : World) : Prop where
  low : Below W.heap.size W y
  h5 : D 5 → v25 = .agg #[.int .i64 (kyN s.key).kind, .int .i64 (kyN s.key).a, .string (kyN s.key).word, .int .i64 (kyN s.key).b]
  h14 : D 14 → v34 = .int .i64 (pickI s.many 20)
  h15 : D 15 → v35 = .int .i64 (pickI s.from_ 50 + 1 + pickI s.many 20)
  h16 : D 16 → v36 = .agg #[.int .i64 (pickI s.from_ 50), .int .i64 (pickI s.from_ 50 + 1 + pickI s.many 20)]
  h17 : D 17 → ∃ g, v37 = .slice (some ⟨g, 0, none⟩) 4 4 ∧ y.heap[g]? = some (.cells #[.string ⟨#[]⟩, .string ⟨#[97]⟩, .string ⟨#[98]⟩, .string ⟨#[99]⟩] 9 (0, 0))
  h23 : D 23 → v43 = .int .i64 (pickI s.value 4)
  h24 : D 24 → ∃ p, v44 = .pointer (some p) ∧ y.cell? p = some (.string (valN s.value))
  h25 : D 25 → v45 = .string (valN s.value)
  h26 : D 26 → v46 = .agg #[.int .i64 (kyN s.key).kind, .int .i64 (kyN s.key).a, .string (kyN s.key).word, .int .i64 (kyN s.key).b, .int .i64 (pickI s.from_ 50), .int .i64 (pickI s.from_ 50 + 1 + pickI s.many 20), .string (valN s.value)]
  h27 : D 27 → ∃ g, v7 = .pointer (some ⟨g, 0, none⟩) ∧ W.heap.size ≤ g ∧ y.heap[g]? = some (.cells #[.int .i64 0, .int .i64 0, .string ⟨#[]⟩, .int .i64 0, .int .i64 0, .int .i64 0, .string ⟨#[]⟩] 47 (0, 0))

theorem block_lt {y : World} {g : Nat} {o : Obj} (h : y.heap[g]? = some o) : g < y.heap.size := by
  rcases Nat.lt_or_ge g y.heap.size with k | k
  · exact k
  · rw [Array.getElem?_eq_none k] at h; cases h

theorem MkI.below {s : SayN} {W : World} {D : Nat → Prop} {v25 v34 v35 v36 v37 v43 v44 v45 v46 v7 : Value} {y y' : World} (h : MkI s W D v25 v34 v35 v36 v37 v43 v44 v45 v46 v7 y) (hb : Below y.heap.size y y') : MkI s W D v25 v34 v35 v36 v37 v43 v44 v45 v46 v7 y' :=
  ⟨h.low.trans (hb.mono h.low.size), h.h5, h.h14, h.h15, h.h16, fun q => by
    obtain ⟨g, e, k⟩ := h.h17 q
    exact ⟨g, e, (hb.block g (block_lt k)).trans k⟩, h.h23, fun q => by
    obtain ⟨p, e, k⟩ := h.h24 q
    exact ⟨p, e, (hb.cell (lt_of_cell k)).trans k⟩, h.h25, h.h26, fun q => by
    obtain ⟨g, e, k1, k⟩ := h.h27 q
    exact ⟨g, e, k1, (hb.block g (block_lt k)).trans k⟩⟩

/-- The cells of one change by numbers that are read in one go. -/
def SayS (b o : Nat) (s : SayN) (y : World) : Prop := y.cell? ⟨b, o, none⟩ = some (.int .i64 s.key) ∧ y.cell? ⟨b, o + 2, none⟩ = some (.int .i64 s.many) ∧ y.cell? ⟨b, o + 3, none⟩ = some (.int .i64 s.value)
theorem SayS.carry {b o : Nat} {s : SayN} {y y' : World} (h : SayS b o s y) (hb : Below y.heap.size y y') : SayS b o s y' :=
  ⟨(hb.cell (p := ⟨b, o, none⟩) (lt_of_cell h.1)).trans h.1, (hb.cell (p := ⟨b, o + 2, none⟩) (lt_of_cell h.2.1)).trans h.2.1, (hb.cell (p := ⟨b, o + 3, none⟩) (lt_of_cell h.2.2)).trans h.2.2⟩

set_option maxRecDepth 100000 in
set_option maxHeartbeats 8000000 in
theorem keep_ops (l : List SayN) (ad : Option Addr) (cap : Nat) (w : World) (hl : l.length ≤ 60) (hS : SaysAt w ad l) :
    Calls Tryz.prog 23 #[.slice ad l.length cap] w (OpsSay w l.length) := by
  have HS := hide hS
  have HK := hide (fun n W => keep_keyOf n W)
  have HP5 := hide (fun a W => keep_pick a 50 W (by decide) (by decide))
  have HP2 := hide (fun a W => keep_pick a 20 W (by decide) (by decide))
  have HP4 := hide (fun a W => keep_pick a 4 W (by decide) (by decide))
  have HPL := hide (fun a W => keep_pick a 2 W (by decide) (by decide))
  clear hS
  go_enter Tryz.func23, Tryz.ntmps23
  go_wp2
  go_loopw [3, 4, 5] (fun u3 u4 i y => ∃ (j : Nat) (vs : List Value) (tx : List Fop) (n : Nat), j ≤ l.length ∧ i = .int .i64 j ∧ vs.length ≤ j ∧ tx.length < 8 ∧ OpsI w y u3 u4 vs tx n) (fun _ _ i _ => l.length - (intOf i).toNat)
  case atStart => exact ⟨0, [], [], w.heap.size, Nat.zero_le _, rfl, Nat.le_refl _, by decide, World.ownsRow_nil _ _ _ _, by simp, World.ownsRow_nil _ _ _ _, Nat.le_refl _, Nat.le_refl _, by simp, Below.refl _ _⟩
  case round =>
    obtain ⟨j, vs, tx, n, hj, rfl, hvs, htx, hI⟩ := hrel
    have HI := hide hI
    clear hI
    by_cases hlt : j < l.length
    · have hlt' : (j : Int) < (l.length : Int) := by omega
      have hj0 : (0 : Int) ≤ (j : Int) := by omega
      obtain ⟨b, o, rfl, q0, q1, q2, q3, q4⟩ := unhide HS j hlt
      obtain ⟨s, hs⟩ : ∃ s, s = l[j] := ⟨_, rfl⟩
      rw [← hs] at q0 q1 q2 q3 q4
      have hb : b < w.heap.size := lt_of_cell q0
      have z0 := ((unhide HI).low.cell (p := ⟨b, o + j * 5, none⟩) hb).trans q0
      have z1 := ((unhide HI).low.cell (p := ⟨b, o + j * 5 + 1, none⟩) hb).trans q1
      have z2 := ((unhide HI).low.cell (p := ⟨b, o + j * 5 + 2, none⟩) hb).trans q2
      have z3 := ((unhide HI).low.cell (p := ⟨b, o + j * 5 + 3, none⟩) hb).trans q3
      clear q0 q1 q2 q3 hs
      have p5 := pickI_lt s.from_ 50 (by decide)
      have p2 := pickI_lt s.many 20 (by decide)
      go_wp2_with fail
      refine (unhide HP5 _ _).mono ?_
      rintro e W1 ⟨rfl, rfl⟩
      have HZ : Hid (SayS b (o + j * 5) s W1.drew) := ⟨z0, z2, z3⟩
      have p4 := pickI_lt s.value 4 (by decide)
      have HWr : Hid (IntKind.i64.wrap (IntKind.i64.wrap (pickI s.from_ 50 + 1) + pickI s.many 20) = pickI s.from_ 50 + 1 + pickI s.many 20) := by
        unfold Hid
        rw [IntKind.wrap_i64, IntKind.wrap_i64]
        omega
      clear HP4 HP2 HP5 HPL HS
      have HB1 := hide (unhide HI).low
      go_wp2
      refine wp_region_tail (fun y => y.cell? ⟨b, o + j * 5, none⟩ = some (.int .i64 s.key) ∧ y.cell? ⟨b, o + j * 5 + 2, none⟩ = some (.int .i64 s.many) ∧ y.cell? ⟨b, o + j * 5 + 3, none⟩ = some (.int .i64 s.value)) 28 (by kernel_rfl) (by kernel_rfl) (unhide HZ) (fun hHeld => ?_)
      refine wpAnyH_take (i := 0) (oi := ?to0_1) (v := ?tv0_1) ?th0_1 (by kernel_rfl) (by kernel_rfl) (by kernel_rfl) ?tq0_1 (Or.inl ⟨?tw0_1, ?ty0_1⟩) (by assumption) ?tr0_1
      case th0_1 => (simp only [List.getElem?_toArray, List.getElem?_cons_zero]; rfl)
      case tq0_1 => exact fun _ _ _ h => h
      case tw0_1 => rfl
      case ty0_1 => (intro w' hSw; (try dsimp only at hSw); go_simp <;> with_reducible rfl)
      try simp only [Act.put, List.setIfInBounds_toArray, List.set_cons_zero, List.set_cons_succ]
      refine wpAnyH_take (i := 1) (oi := ?to1_1) (v := ?tv1_1) ?th1_1 (by kernel_rfl) (by kernel_rfl) (by kernel_rfl) ?tq1_1 (Or.inl ⟨?tw1_1, ?ty1_1⟩) (by assumption) ?tr1_1
      case th1_1 => (simp only [List.getElem?_toArray, List.getElem?_cons_zero, List.getElem?_cons_succ]; rfl)
      case tq1_1 => exact fun _ _ _ h => h
      case tw1_1 => rfl
      case ty1_1 => (intro w' hSw; (try dsimp only at hSw); go_simp <;> with_reducible rfl)
      try simp only [Act.put, List.setIfInBounds_toArray, List.set_cons_zero, List.set_cons_succ]
      refine wpAnyH_take (i := 2) (oi := ?to2_1) (v := ?tv2_1) ?th2_1 (by kernel_rfl) (by kernel_rfl) (by kernel_rfl) ?tq2_1 (Or.inl ⟨?tw2_1, ?ty2_1⟩) (by assumption) ?tr2_1
      case th2_1 => (simp only [List.getElem?_toArray, List.getElem?_cons_zero, List.getElem?_cons_succ]; rfl)
      case tq2_1 => exact fun _ _ _ h => h
      case tw2_1 => rfl
      case ty2_1 => (intro w' hSw; (try dsimp only at hSw); go_simp <;> with_reducible rfl)
      try simp only [Act.put, List.setIfInBounds_toArray, List.set_cons_zero, List.set_cons_succ]
      refine wpAnyH_take (i := 3) (oi := ?to3_1) (v := ?tv3_1) ?th3_1 (by kernel_rfl) (by kernel_rfl) (by kernel_rfl) ?tq3_1 (Or.inl ⟨?tw3_1, ?ty3_1⟩) (by assumption) ?tr3_1
      case th3_1 => (simp only [List.getElem?_toArray, List.getElem?_cons_zero, List.getElem?_cons_succ]; rfl)
      case tq3_1 => exact fun _ _ _ h => h
      case tw3_1 => rfl
      case ty3_1 => (intro w' hSw; (try dsimp only at hSw); go_simp <;> with_reducible rfl)
      try simp only [Act.put, List.setIfInBounds_toArray, List.set_cons_zero, List.set_cons_succ]
      refine wpAnyH_take (i := 4) (oi := ?to4_1) (v := ?tv4_1) ?th4_1 (by kernel_rfl) (by kernel_rfl) (by kernel_rfl) ?tq4_1 (Or.inl ⟨?tw4_1, ?ty4_1⟩) (by assumption) ?tr4_1
      case th4_1 => (simp only [List.getElem?_toArray, List.getElem?_cons_zero, List.getElem?_cons_succ]; rfl)
      case tq4_1 => exact fun _ _ _ h => h
      case tw4_1 => rfl
      case ty4_1 => (intro w' hSw; (try dsimp only at hSw); go_simp <;> with_reducible rfl)
      try simp only [Act.put, List.setIfInBounds_toArray, List.set_cons_zero, List.set_cons_succ]
      refine wpAnyH_take (i := 6) (oi := ?to6_1) (v := ?tv6_1) ?th6_1 (by kernel_rfl) (by kernel_rfl) (by kernel_rfl) ?tq6_1 (Or.inl ⟨?tw6_1, ?ty6_1⟩) (by assumption) ?tr6_1
      case th6_1 => (simp only [List.getElem?_toArray, List.getElem?_cons_zero, List.getElem?_cons_succ]; rfl)
      case tq6_1 => exact fun _ _ _ h => h
      case tw6_1 => rfl
      case ty6_1 => (intro w' hSw; (try dsimp only at hSw); go_simp <;> with_reducible rfl)
      try simp only [Act.put, List.setIfInBounds_toArray, List.set_cons_zero, List.set_cons_succ]
      refine wpAnyH_take (i := 7) (oi := ?to7_1) (v := ?tv7_1) ?th7_1 (by kernel_rfl) (by kernel_rfl) (by kernel_rfl) ?tq7_1 (Or.inl ⟨?tw7_1, ?ty7_1⟩) (by assumption) ?tr7_1
      case th7_1 => (simp only [List.getElem?_toArray, List.getElem?_cons_zero, List.getElem?_cons_succ]; rfl)
      case tq7_1 => exact fun _ _ _ h => h
      case tw7_1 => rfl
      case ty7_1 => (intro w' hSw; (try dsimp only at hSw); go_simp <;> with_reducible rfl)
      try simp only [Act.put, List.setIfInBounds_toArray, List.set_cons_zero, List.set_cons_succ]
      refine wpAnyH_take (i := 8) (oi := ?to8_1) (v := ?tv8_1) ?th8_1 (by kernel_rfl) (by kernel_rfl) (by kernel_rfl) ?tq8_1 (Or.inl ⟨?tw8_1, ?ty8_1⟩) (by assumption) ?tr8_1
      case th8_1 => (simp only [List.getElem?_toArray, List.getElem?_cons_zero, List.getElem?_cons_succ]; rfl)
      case tq8_1 => exact fun _ _ _ h => h
      case tw8_1 => rfl
      case ty8_1 => (intro w' hSw; (try dsimp only at hSw); go_simp <;> with_reducible rfl)
      try simp only [Act.put, List.setIfInBounds_toArray, List.set_cons_zero, List.set_cons_succ]
      refine wpAnyH_take (i := 9) (oi := ?to9_1) (v := ?tv9_1) ?th9_1 (by kernel_rfl) (by kernel_rfl) (by kernel_rfl) ?tq9_1 (Or.inl ⟨?tw9_1, ?ty9_1⟩) (by assumption) ?tr9_1
      case th9_1 => (simp only [List.getElem?_toArray, List.getElem?_cons_zero, List.getElem?_cons_succ]; rfl)
      case tq9_1 => exact fun _ _ _ h => h
      case tw9_1 => rfl
      case ty9_1 => (intro w' hSw; (try dsimp only at hSw); go_simp <;> with_reducible rfl)
      try simp only [Act.put, List.setIfInBounds_toArray, List.set_cons_zero, List.set_cons_succ]
      refine wpAnyH_take (i := 10) (oi := ?to10_1) (v := ?tv10_1) ?th10_1 (by kernel_rfl) (by kernel_rfl) (by kernel_rfl) ?tq10_1 (Or.inl ⟨?tw10_1, ?ty10_1⟩) (by assumption) ?tr10_1
      case th10_1 => (simp only [List.getElem?_toArray, List.getElem?_cons_zero, List.getElem?_cons_succ]; rfl)
      case tq10_1 => exact fun _ _ _ h => h
      case tw10_1 => rfl
      case ty10_1 => (intro w' hSw; (try dsimp only at hSw); go_simp <;> with_reducible rfl)
      try simp only [Act.put, List.setIfInBounds_toArray, List.set_cons_zero, List.set_cons_succ]
      refine wpAnyH_take (i := 11) (oi := ?to11_1) (v := ?tv11_1) ?th11_1 (by kernel_rfl) (by kernel_rfl) (by kernel_rfl) ?tq11_1 (Or.inl ⟨?tw11_1, ?ty11_1⟩) (by assumption) ?tr11_1
      case th11_1 => (simp only [List.getElem?_toArray, List.getElem?_cons_zero, List.getElem?_cons_succ]; rfl)
      case tq11_1 => exact fun _ _ _ h => h
      case tw11_1 => rfl
      case ty11_1 => (intro w' hSw; (try dsimp only at hSw); go_simp <;> with_reducible rfl)
      try simp only [Act.put, List.setIfInBounds_toArray, List.set_cons_zero, List.set_cons_succ]
      refine wpAnyH_take (i := 12) (oi := ?to12_1) (v := ?tv12_1) ?th12_1 (by kernel_rfl) (by kernel_rfl) (by kernel_rfl) ?tq12_1 (Or.inl ⟨?tw12_1, ?ty12_1⟩) (by assumption) ?tr12_1
      case th12_1 => (simp only [List.getElem?_toArray, List.getElem?_cons_zero, List.getElem?_cons_succ]; rfl)
      case tq12_1 => exact fun _ _ _ h => h
      case tw12_1 => rfl
      case ty12_1 => (intro w' hSw; (try dsimp only at hSw); go_simp <;> with_reducible rfl)
      try simp only [Act.put, List.setIfInBounds_toArray, List.set_cons_zero, List.set_cons_succ]
      refine wpAnyH_take (i := 13) (oi := ?to13_1) (v := ?tv13_1) ?th13_1 (by kernel_rfl) (by kernel_rfl) (by kernel_rfl) ?tq13_1 (Or.inl ⟨?tw13_1, ?ty13_1⟩) (by assumption) ?tr13_1
      case th13_1 => (simp only [List.getElem?_toArray, List.getElem?_cons_zero, List.getElem?_cons_succ]; rfl)
      case tq13_1 => exact fun _ _ _ h => h
      case tw13_1 => rfl
      case ty13_1 => (intro w' hSw; (try dsimp only at hSw); go_simp <;> with_reducible rfl)
      try simp only [Act.put, List.setIfInBounds_toArray, List.set_cons_zero, List.set_cons_succ]
      refine wpAnyH_take (i := 18) (oi := ?to18_1) (v := ?tv18_1) ?th18_1 (by kernel_rfl) (by kernel_rfl) (by kernel_rfl) ?tq18_1 (Or.inl ⟨?tw18_1, ?ty18_1⟩) (by assumption) ?tr18_1
      case th18_1 => (simp only [List.getElem?_toArray, List.getElem?_cons_zero, List.getElem?_cons_succ]; rfl)
      case tq18_1 => exact fun _ _ _ h => h
      case tw18_1 => rfl
      case ty18_1 => (intro w' hSw; (try dsimp only at hSw); go_simp <;> with_reducible rfl)
      try simp only [Act.put, List.setIfInBounds_toArray, List.set_cons_zero, List.set_cons_succ]
      refine wpAnyH_take (i := 19) (oi := ?to19_1) (v := ?tv19_1) ?th19_1 (by kernel_rfl) (by kernel_rfl) (by kernel_rfl) ?tq19_1 (Or.inl ⟨?tw19_1, ?ty19_1⟩) (by assumption) ?tr19_1
      case th19_1 => (simp only [List.getElem?_toArray, List.getElem?_cons_zero, List.getElem?_cons_succ]; rfl)
      case tq19_1 => exact fun _ _ _ h => h
      case tw19_1 => rfl
      case ty19_1 => (intro w' hSw; (try dsimp only at hSw); go_simp <;> with_reducible rfl)
      try simp only [Act.put, List.setIfInBounds_toArray, List.set_cons_zero, List.set_cons_succ]
      refine wpAnyH_take (i := 20) (oi := ?to20_1) (v := ?tv20_1) ?th20_1 (by kernel_rfl) (by kernel_rfl) (by kernel_rfl) ?tq20_1 (Or.inl ⟨?tw20_1, ?ty20_1⟩) (by assumption) ?tr20_1
      case th20_1 => (simp only [List.getElem?_toArray, List.getElem?_cons_zero, List.getElem?_cons_succ]; rfl)
      case tq20_1 => exact fun _ _ _ h => h
      case tw20_1 => rfl
      case ty20_1 => (intro w' hSw; (try dsimp only at hSw); go_simp <;> with_reducible rfl)
      try simp only [Act.put, List.setIfInBounds_toArray, List.set_cons_zero, List.set_cons_succ]
      refine wpAnyH_take (i := 21) (oi := ?to21_1) (v := ?tv21_1) ?th21_1 (by kernel_rfl) (by kernel_rfl) (by kernel_rfl) ?tq21_1 (Or.inl ⟨?tw21_1, ?ty21_1⟩) (by assumption) ?tr21_1
      case th21_1 => (simp only [List.getElem?_toArray, List.getElem?_cons_zero, List.getElem?_cons_succ]; rfl)
      case tq21_1 => exact fun _ _ _ h => h
      case tw21_1 => rfl
      case ty21_1 => (intro w' hSw; (try dsimp only at hSw); go_simp <;> with_reducible rfl)
      try simp only [Act.put, List.setIfInBounds_toArray, List.set_cons_zero, List.set_cons_succ]
      refine wpAnyH_take (i := 22) (oi := ?to22_1) (v := ?tv22_1) ?th22_1 (by kernel_rfl) (by kernel_rfl) (by kernel_rfl) ?tq22_1 (Or.inl ⟨?tw22_1, ?ty22_1⟩) (by assumption) ?tr22_1
      case th22_1 => (simp only [List.getElem?_toArray, List.getElem?_cons_zero, List.getElem?_cons_succ]; rfl)
      case tq22_1 => exact fun _ _ _ h => h
      case tw22_1 => rfl
      case ty22_1 => (intro w' hSw; (try dsimp only at hSw); go_simp <;> with_reducible rfl)
      try simp only [Act.put, List.setIfInBounds_toArray, List.set_cons_zero, List.set_cons_succ]
      refine wpAnyH_from (fun a0 D a y => ∃ v25 v34 v35 v36 v37 v43 v44 v45 v46 v7, a = puts a0 [(25, v25), (34, v34), (35, v35), (36, v36), (37, v37), (43, v43), (44, v44), (45, v45), (46, v46), (7, v7)] ∧ MkI s W1.drew D v25 v34 v35 v36 v37 v43 v44 v45 v46 v7 y) (R := [5, 14, 15, 16, 17, 23, 24, 25, 26, 27]) ?steps ?done (by kernel_rfl) (by kernel_rfl) (by kernel_rfl) (by kernel_rfl) ?start
      case start =>
        intro D hD
        have hn : ∀ k, k ∈ [5, 14, 15, 16, 17, 23, 24, 25, 26, 27] → ∀ {p : Prop}, D k → p := fun k hk p q => absurd q (hD k hk)
        refine ⟨?w5, ?w14, ?w15, ?w16, ?w17, ?w23, ?w24, ?w25, ?w26, ?w27, ?eq, ?mk⟩
        case eq => (simp only [puts, Act.put, List.setIfInBounds_toArray, List.set_cons_zero, List.set_cons_succ]; rfl)
        case mk => exact ⟨Below.refl _ _, hn 5 (by simp), hn 14 (by simp), hn 15 (by simp), hn 16 (by simp), hn 17 (by simp), hn 23 (by simp), hn 24 (by simp), hn 25 (by simp), hn 26 (by simp), hn 27 (by simp)⟩
      case steps =>
        refine StepsI.cons (o := ?co5) (ds := []) ?ch5 (by kernel_rfl) ?cs5 ?cm5
        case ch5 => (simp only [List.getElem?_toArray, List.getElem?_cons_zero, List.getElem?_cons_succ]; rfl)
        case cs5 =>
          intro D a y K hn hd hI hK
          obtain ⟨v25, v34, v35, v36, v37, v43, v44, v45, v46, v7, rfl, h⟩ := hI
          simp only [puts, Act.put, List.setIfInBounds_toArray, List.set_cons_zero, List.set_cons_succ]
          go_simp
          refine (unhide HK _ _).mono ?_
          rintro e Y ⟨rfl, c⟩
          try go_wp2_with fail
          have h2 := h.below c
          refine hK.out _ _ ((unhide HZ).carry h2.low) ⟨_, _, _, _, _, _, _, _, _, _, ?eq, ⟨h2.low, fun _ => rfl, fun q => h2.h14 (q.resolve_left (by decide)), fun q => h2.h15 (q.resolve_left (by decide)), fun q => h2.h16 (q.resolve_left (by decide)), fun q => h2.h17 (q.resolve_left (by decide)), fun q => h2.h23 (q.resolve_left (by decide)), fun q => h2.h24 (q.resolve_left (by decide)), fun q => h2.h25 (q.resolve_left (by decide)), fun q => h2.h26 (q.resolve_left (by decide)), fun q => h2.h27 (q.resolve_left (by decide))⟩⟩
          case eq => (simp only [puts, Act.put, List.setIfInBounds_toArray, List.set_cons_zero, List.set_cons_succ]; try rfl)
        refine StepsI.cons (o := ?co14) (ds := []) ?ch14 (by kernel_rfl) ?cs14 ?cm14
        case ch14 => (simp only [List.getElem?_toArray, List.getElem?_cons_zero, List.getElem?_cons_succ]; rfl)
        case cs14 =>
          intro D a y K hn hd hI hK
          obtain ⟨v25, v34, v35, v36, v37, v43, v44, v45, v46, v7, rfl, h⟩ := hI
          simp only [puts, Act.put, List.setIfInBounds_toArray, List.set_cons_zero, List.set_cons_succ]
          go_simp
          refine (keep_pick _ _ _ (by decide) (by decide)).mono ?_
          rintro e Y ⟨rfl, rfl⟩
          try go_wp2_with fail
          have h2 := h
          refine hK.out _ _ ((unhide HZ).carry h2.low) ⟨_, _, _, _, _, _, _, _, _, _, ?eq, ⟨h2.low, fun q => h2.h5 (q.resolve_left (by decide)), fun _ => rfl, fun q => h2.h15 (q.resolve_left (by decide)), fun q => h2.h16 (q.resolve_left (by decide)), fun q => h2.h17 (q.resolve_left (by decide)), fun q => h2.h23 (q.resolve_left (by decide)), fun q => h2.h24 (q.resolve_left (by decide)), fun q => h2.h25 (q.resolve_left (by decide)), fun q => h2.h26 (q.resolve_left (by decide)), fun q => h2.h27 (q.resolve_left (by decide))⟩⟩
          case eq => (simp only [puts, Act.put, List.setIfInBounds_toArray, List.set_cons_zero, List.set_cons_succ]; try rfl)
        refine StepsI.cons (o := ?co15) (ds := [14]) ?ch15 (by kernel_rfl) ?cs15 ?cm15
        case ch15 => (simp only [List.getElem?_toArray, List.getElem?_cons_zero, List.getElem?_cons_succ]; rfl)
        case cs15 =>
          intro D a y K hn hd hI hK
          obtain ⟨v25, v34, v35, v36, v37, v43, v44, v45, v46, v7, rfl, h⟩ := hI
          simp only [puts, Act.put, List.setIfInBounds_toArray, List.set_cons_zero, List.set_cons_succ]
          have e34 := h.h14 (hd 14 (by simp))
          subst e34
          try go_simp
          try go_wp2_with fail
          rw [unhide HWr]
          have h2 := h
          refine hK.out _ _ ((unhide HZ).carry h2.low) ⟨_, _, _, _, _, _, _, _, _, _, ?eq, ⟨h2.low, fun q => h2.h5 (q.resolve_left (by decide)), fun q => h2.h14 (q.resolve_left (by decide)), fun _ => rfl, fun q => h2.h16 (q.resolve_left (by decide)), fun q => h2.h17 (q.resolve_left (by decide)), fun q => h2.h23 (q.resolve_left (by decide)), fun q => h2.h24 (q.resolve_left (by decide)), fun q => h2.h25 (q.resolve_left (by decide)), fun q => h2.h26 (q.resolve_left (by decide)), fun q => h2.h27 (q.resolve_left (by decide))⟩⟩
          case eq => (simp only [puts, Act.put, List.setIfInBounds_toArray, List.set_cons_zero, List.set_cons_succ]; try rfl)
        refine StepsI.cons (o := ?co16) (ds := [15]) ?ch16 (by kernel_rfl) ?cs16 ?cm16
        case ch16 => (simp only [List.getElem?_toArray, List.getElem?_cons_zero, List.getElem?_cons_succ]; rfl)
        case cs16 =>
          intro D a y K hn hd hI hK
          obtain ⟨v25, v34, v35, v36, v37, v43, v44, v45, v46, v7, rfl, h⟩ := hI
          simp only [puts, Act.put, List.setIfInBounds_toArray, List.set_cons_zero, List.set_cons_succ]
          have e35 := h.h15 (hd 15 (by simp))
          subst e35
          try go_simp
          try go_wp2_with fail
          have h2 := h
          refine hK.out _ _ ((unhide HZ).carry h2.low) ⟨_, _, _, _, _, _, _, _, _, _, ?eq, ⟨h2.low, fun q => h2.h5 (q.resolve_left (by decide)), fun q => h2.h14 (q.resolve_left (by decide)), fun q => h2.h15 (q.resolve_left (by decide)), fun _ => rfl, fun q => h2.h17 (q.resolve_left (by decide)), fun q => h2.h23 (q.resolve_left (by decide)), fun q => h2.h24 (q.resolve_left (by decide)), fun q => h2.h25 (q.resolve_left (by decide)), fun q => h2.h26 (q.resolve_left (by decide)), fun q => h2.h27 (q.resolve_left (by decide))⟩⟩
          case eq => (simp only [puts, Act.put, List.setIfInBounds_toArray, List.set_cons_zero, List.set_cons_succ]; try rfl)
        refine StepsI.cons (o := ?co17) (ds := []) ?ch17 (by kernel_rfl) ?cs17 ?cm17
        case ch17 => (simp only [List.getElem?_toArray, List.getElem?_cons_zero, List.getElem?_cons_succ]; rfl)
        case cs17 =>
          intro D a y K hn hd hI hK
          obtain ⟨v25, v34, v35, v36, v37, v43, v44, v45, v46, v7, rfl, h⟩ := hI
          simp only [puts, Act.put, List.setIfInBounds_toArray, List.set_cons_zero, List.set_cons_succ]
          go_simp
          try go_wp2_with fail
          have h2 := h.below (below_box y (.cells #[.string ⟨#[]⟩, .string ⟨#[97]⟩, .string ⟨#[98]⟩, .string ⟨#[99]⟩] 9))
          refine hK.out _ _ ((unhide HZ).carry h2.low) ⟨_, _, _, _, _, _, _, _, _, _, ?eq, ⟨h2.low, fun q => h2.h5 (q.resolve_left (by decide)), fun q => h2.h14 (q.resolve_left (by decide)), fun q => h2.h15 (q.resolve_left (by decide)), fun q => h2.h16 (q.resolve_left (by decide)), fun _ => ⟨_, rfl, (MapKept.heap_alloc y _).1⟩, fun q => h2.h23 (q.resolve_left (by decide)), fun q => h2.h24 (q.resolve_left (by decide)), fun q => h2.h25 (q.resolve_left (by decide)), fun q => h2.h26 (q.resolve_left (by decide)), fun q => h2.h27 (q.resolve_left (by decide))⟩⟩
          case eq => (simp only [puts, Act.put, List.setIfInBounds_toArray, List.set_cons_zero, List.set_cons_succ]; try rfl)
        refine StepsI.cons (o := ?co23) (ds := []) ?ch23 (by kernel_rfl) ?cs23 ?cm23
        case ch23 => (simp only [List.getElem?_toArray, List.getElem?_cons_zero, List.getElem?_cons_succ]; rfl)
        case cs23 =>
          intro D a y K hn hd hI hK
          obtain ⟨v25, v34, v35, v36, v37, v43, v44, v45, v46, v7, rfl, h⟩ := hI
          simp only [puts, Act.put, List.setIfInBounds_toArray, List.set_cons_zero, List.set_cons_succ]
          go_simp
          refine (keep_pick _ _ _ (by decide) (by decide)).mono ?_
          rintro e Y ⟨rfl, rfl⟩
          try go_wp2_with fail
          have h2 := h
          refine hK.out _ _ ((unhide HZ).carry h2.low) ⟨_, _, _, _, _, _, _, _, _, _, ?eq, ⟨h2.low, fun q => h2.h5 (q.resolve_left (by decide)), fun q => h2.h14 (q.resolve_left (by decide)), fun q => h2.h15 (q.resolve_left (by decide)), fun q => h2.h16 (q.resolve_left (by decide)), fun q => h2.h17 (q.resolve_left (by decide)), fun _ => rfl, fun q => h2.h24 (q.resolve_left (by decide)), fun q => h2.h25 (q.resolve_left (by decide)), fun q => h2.h26 (q.resolve_left (by decide)), fun q => h2.h27 (q.resolve_left (by decide))⟩⟩
          case eq => (simp only [puts, Act.put, List.setIfInBounds_toArray, List.set_cons_zero, List.set_cons_succ]; try rfl)
        refine StepsI.cons (o := ?co24) (ds := [17, 23]) ?ch24 (by kernel_rfl) ?cs24 ?cm24
        case ch24 => (simp only [List.getElem?_toArray, List.getElem?_cons_zero, List.getElem?_cons_succ]; rfl)
        case cs24 =>
          intro D a y K hn hd hI hK
          obtain ⟨v25, v34, v35, v36, v37, v43, v44, v45, v46, v7, rfl, h⟩ := hI
          simp only [puts, Act.put, List.setIfInBounds_toArray, List.set_cons_zero, List.set_cons_succ]
          obtain ⟨g, e37, hg⟩ := h.h17 (hd 17 (by simp))
          have e43 := h.h23 (hd 23 (by simp))
          subst e37 e43
          try go_simp
          try go_wp2_with fail
          have h2 := h
          refine hK.out _ _ ((unhide HZ).carry h2.low) ⟨_, _, _, _, _, _, _, _, _, _, ?eq, ⟨h2.low, fun q => h2.h5 (q.resolve_left (by decide)), fun q => h2.h14 (q.resolve_left (by decide)), fun q => h2.h15 (q.resolve_left (by decide)), fun q => h2.h16 (q.resolve_left (by decide)), fun q => h2.h17 (q.resolve_left (by decide)), fun q => h2.h23 (q.resolve_left (by decide)), fun _ => ⟨_, rfl, by simpa using strs_at s y g hg⟩, fun q => h2.h25 (q.resolve_left (by decide)), fun q => h2.h26 (q.resolve_left (by decide)), fun q => h2.h27 (q.resolve_left (by decide))⟩⟩
          case eq => (simp only [puts, Act.put, List.setIfInBounds_toArray, List.set_cons_zero, List.set_cons_succ]; try rfl)
        refine StepsI.cons (o := ?co25) (ds := [24]) ?ch25 (by kernel_rfl) ?cs25 ?cm25
        case ch25 => (simp only [List.getElem?_toArray, List.getElem?_cons_zero, List.getElem?_cons_succ]; rfl)
        case cs25 =>
          intro D a y K hn hd hI hK
          obtain ⟨v25, v34, v35, v36, v37, v43, v44, v45, v46, v7, rfl, h⟩ := hI
          simp only [puts, Act.put, List.setIfInBounds_toArray, List.set_cons_zero, List.set_cons_succ]
          obtain ⟨p, e44, hp⟩ := h.h24 (hd 24 (by simp))
          subst e44
          try go_simp
          try go_wp2_with fail
          have h2 := h
          refine hK.out _ _ ((unhide HZ).carry h2.low) ⟨_, _, _, _, _, _, _, _, _, _, ?eq, ⟨h2.low, fun q => h2.h5 (q.resolve_left (by decide)), fun q => h2.h14 (q.resolve_left (by decide)), fun q => h2.h15 (q.resolve_left (by decide)), fun q => h2.h16 (q.resolve_left (by decide)), fun q => h2.h17 (q.resolve_left (by decide)), fun q => h2.h23 (q.resolve_left (by decide)), fun q => h2.h24 (q.resolve_left (by decide)), fun _ => rfl, fun q => h2.h26 (q.resolve_left (by decide)), fun q => h2.h27 (q.resolve_left (by decide))⟩⟩
          case eq => (simp only [puts, Act.put, List.setIfInBounds_toArray, List.set_cons_zero, List.set_cons_succ]; try rfl)
        refine StepsI.cons (o := ?co26) (ds := [5, 16, 25]) ?ch26 (by kernel_rfl) ?cs26 ?cm26
        case ch26 => (simp only [List.getElem?_toArray, List.getElem?_cons_zero, List.getElem?_cons_succ]; rfl)
        case cs26 =>
          intro D a y K hn hd hI hK
          obtain ⟨v25, v34, v35, v36, v37, v43, v44, v45, v46, v7, rfl, h⟩ := hI
          simp only [puts, Act.put, List.setIfInBounds_toArray, List.set_cons_zero, List.set_cons_succ]
          have e25 := h.h5 (hd 5 (by simp))
          have e36 := h.h16 (hd 16 (by simp))
          have e45 := h.h25 (hd 25 (by simp))
          subst e25 e36 e45
          try go_simp
          try go_wp2_with fail
          have h2 := h
          refine hK.out _ _ ((unhide HZ).carry h2.low) ⟨_, _, _, _, _, _, _, _, _, _, ?eq, ⟨h2.low, fun q => h2.h5 (q.resolve_left (by decide)), fun q => h2.h14 (q.resolve_left (by decide)), fun q => h2.h15 (q.resolve_left (by decide)), fun q => h2.h16 (q.resolve_left (by decide)), fun q => h2.h17 (q.resolve_left (by decide)), fun q => h2.h23 (q.resolve_left (by decide)), fun q => h2.h24 (q.resolve_left (by decide)), fun q => h2.h25 (q.resolve_left (by decide)), fun _ => rfl, fun q => h2.h27 (q.resolve_left (by decide))⟩⟩
          case eq => (simp only [puts, Act.put, List.setIfInBounds_toArray, List.set_cons_zero, List.set_cons_succ]; try rfl)
        refine StepsI.cons (o := ?co27) (ds := []) ?ch27 (by kernel_rfl) ?cs27 ?cm27
        case ch27 => (simp only [List.getElem?_toArray, List.getElem?_cons_zero, List.getElem?_cons_succ]; rfl)
        case cs27 =>
          intro D a y K hn hd hI hK
          obtain ⟨v25, v34, v35, v36, v37, v43, v44, v45, v46, v7, rfl, h⟩ := hI
          simp only [puts, Act.put, List.setIfInBounds_toArray, List.set_cons_zero, List.set_cons_succ]
          go_simp
          try go_wp2_with fail
          have h2 := h.below (below_box y (.cells #[.int .i64 0, .int .i64 0, .string ⟨#[]⟩, .int .i64 0, .int .i64 0, .int .i64 0, .string ⟨#[]⟩] 47))
          refine hK.out _ _ ((unhide HZ).carry h2.low) ⟨_, _, _, _, _, _, _, _, _, _, ?eq, ⟨h2.low, fun q => h2.h5 (q.resolve_left (by decide)), fun q => h2.h14 (q.resolve_left (by decide)), fun q => h2.h15 (q.resolve_left (by decide)), fun q => h2.h16 (q.resolve_left (by decide)), fun q => h2.h17 (q.resolve_left (by decide)), fun q => h2.h23 (q.resolve_left (by decide)), fun q => h2.h24 (q.resolve_left (by decide)), fun q => h2.h25 (q.resolve_left (by decide)), fun q => h2.h26 (q.resolve_left (by decide)), fun _ => ⟨_, rfl, h.low.size, (MapKept.heap_alloc y _).1⟩⟩⟩
          case eq => (simp only [puts, Act.put, List.setIfInBounds_toArray, List.set_cons_zero, List.set_cons_succ]; try rfl)
        exact StepsI.nil
      intro D a y hD hI
      obtain ⟨v25, v34, v35, v36, v37, v43, v44, v45, v46, v7, rfl, h⟩ := hI
      have e46 := h.h26 (hD 26 (by simp))
      obtain ⟨g, e7, hg, hb⟩ := h.h27 (hD 27 (by simp))
      subst e46 e7
      have HM := hide h
      clear h hD
      show wpList _ _ _ _ _ _
      simp only [puts, Act.put, List.setIfInBounds_toArray, List.set_cons_zero, List.set_cons_succ]
      have ht : y.there g 0 7 := fun i hi => ⟨by simp [World.cell?, hb]; omega, by simp [World.frozen?, hb]⟩
      refine wpList_store_mid rfl 47 _ _ rfl g 0 #[.int .i64 (kyN s.key).kind, .int .i64 (kyN s.key).a, .string (kyN s.key).word, .int .i64 (kyN s.key).b, .int .i64 (pickI s.from_ 50), .int .i64 (pickI s.from_ 50 + 1 + pickI s.many 20), .string (valN s.value)] rfl rfl ht (by kernel_rfl) (by kernel_rfl) ?_
      have hk := keeps_sets g [.int .i64 (kyN s.key).kind, .int .i64 (kyN s.key).a, .string (kyN s.key).word, .int .i64 (kyN s.key).b, .int .i64 (pickI s.from_ 50), .int .i64 (pickI s.from_ 50 + 1 + pickI s.many 20), .string (valN s.value)] 0 y
      have hin := World.cell?_setCells_in g [.int .i64 (kyN s.key).kind, .int .i64 (kyN s.key).a, .string (kyN s.key).word, .int .i64 (kyN s.key).b, .int .i64 (pickI s.from_ 50), .int .i64 (pickI s.from_ 50 + 1 + pickI s.many 20), .string (valN s.value)] 0 y (fun i hi => by simpa using (ht i hi).1)
      have hgW : W1.heap.size ≤ g := hg
      have HL2 : Hid (Below W1.heap.size W1 (y.setCells g 0 [.int .i64 (kyN s.key).kind, .int .i64 (kyN s.key).a, .string (kyN s.key).word, .int .i64 (kyN s.key).b, .int .i64 (pickI s.from_ 50), .int .i64 (pickI s.from_ 50 + 1 + pickI s.many 20), .string (valN s.value)])) := ((below_drew W1).trans ((unhide HM).low.mono (Nat.le_refl _))).trans (keeps_below hk (fun i e => by rw [e]; exact hgW) (unhide HM).low.size)
      have z0 := hin 0 (by simp)
      have z1 := hin 1 (by simp)
      have z2 := hin 2 (by simp)
      have z3 := hin 3 (by simp)
      have z4 := hin 4 (by simp)
      have z5 := hin 5 (by simp)
      have z6 := hin 6 (by simp)
      simp only [Nat.zero_add, List.getElem_cons_zero, List.getElem_cons_succ] at z0 z1 z2 z3 z4 z5 z6
      clear hin hk ht hb hg hgW HM
      simp only [Act.put]
      generalize y.setCells g 0 [.int .i64 (kyN s.key).kind, .int .i64 (kyN s.key).a, .string (kyN s.key).word, .int .i64 (kyN s.key).b, .int .i64 (pickI s.from_ 50), .int .i64 (pickI s.from_ 50 + 1 + pickI s.many 20), .string (valN s.value)] = W2 at *
      have HI2 := hide ((unhide HI).below (unhide HL2))
      have HL3 := hide (below_box W2 (.cells #[.int .i64 (kyN s.key).kind, .int .i64 (kyN s.key).a, .string (kyN s.key).word, .int .i64 (kyN s.key).b, .int .i64 (pickI s.from_ 50), .int .i64 (pickI s.from_ 50 + 1 + pickI s.many 20), .string (valN s.value)] 47))
      have HI3 := hide ((unhide HI2).below (unhide HL3))
      have HO3 := hide (opsAt_box W2 (opN s))
      clear HI HI2 HL2 HZ HB1 HWr HK
      go_wp2_with (first
        | (at_builtin; refine wpList_appO _ rfl (.tmp 47) (.tmp 49) rfl n _ tx rfl (unhide HI3).rtx W2.heap.size (opN s) rfl (unhide HO3) ?d1 ?d2 ?_))
      case d1 => omega
      case d2 => exact (unhide HI3).nle
      intro v4 W4 p1 p2
      have HI4 := hide ((unhide HI3).add p2 p1 (opN_ok s))
      obtain ⟨ad4, cap4, rfl⟩ := row_slice (show World.ownsRow _ _ _ _ _ _ _ from p1)
      have hm : (tx ++ [opN s]).length = tx.length + 1 := by simp
      have z4' : W4.cell? ⟨b, o + j * 5 + 4, none⟩ = some (.int .i64 s.last) := ((unhide HI4).low.cell (p := ⟨b, o + j * 5 + 4, none⟩) hb).trans q4
      clear p1 p2 HI3 HO3 HL3 z0 z1 z2 z3 z4 z5 z6
      generalize htx : tx ++ [opN s] = tx4 at *
      generalize hm4 : tx4.length = m4 at *
      have HTx := hide htx
      have HM4 := hide hm4
      have h8 : m4 ≤ 8 := by omega
      have h1 : 1 ≤ m4 := by omega
      clear htx hm4 hm
      go_upto_region 9 with fail
      go_cut [69] (fun s69 wx => s69 = .bool (decide (m4 = 8 ∨ pickI s.last 2 = 0 ∨ j + 1 = l.length)) ∧ wx = W4)
      case first =>
        have HPL := hide (fun W => keep_pick s.last 2 W (by decide) (by decide))
        by_cases e8 : m4 = 8
        · have e8' : (m4 : Int) = 8 := by omega
          have HD : Hid (decide (m4 = 8 ∨ pickI s.last 2 = 0 ∨ j + 1 = l.length) = true) := decide_eq_true (.inl e8)
          clear e8
          go_wp2
          go_meet
          case rel => exact ⟨by rw [unhide HD], rfl⟩
        · have e8' : ¬ (m4 : Int) = 8 := by omega
          by_cases ep : pickI s.last 2 = 0
          · have HD : Hid (decide (m4 = 8 ∨ pickI s.last 2 = 0 ∨ j + 1 = l.length) = true) := decide_eq_true (.inr (.inl ep))
            rw [ep] at HPL
            clear ep e8
            go_wp2_with fail
            refine (unhide HPL _).mono ?_
            rintro e Wp ⟨rfl, rfl⟩
            go_wp2
            go_meet
            case rel => exact ⟨by rw [unhide HD], rfl⟩
          · by_cases el : j + 1 = l.length
            · have HD : Hid (decide (m4 = 8 ∨ pickI s.last 2 = 0 ∨ j + 1 = l.length) = true) := decide_eq_true (.inr (.inr el))
              have el' : ((j : Int) == (l.length : Int) - 1) = true := by simp; omega
              generalize pickI s.last 2 = pl at *
              clear el e8
              go_wp2_with fail
              refine (unhide HPL _).mono ?_
              rintro e Wp ⟨rfl, rfl⟩
              go_wp2
              go_meet
              case rel => exact ⟨by rw [unhide HD], rfl⟩
            · have HD : Hid (decide (m4 = 8 ∨ pickI s.last 2 = 0 ∨ j + 1 = l.length) = false) := decide_eq_false (by rintro (q | q | q); exact e8 q; exact ep q; exact el q)
              have el' : ((j : Int) == (l.length : Int) - 1) = false := by simp; omega
              generalize pickI s.last 2 = pl at *
              clear el e8
              go_wp2_with fail
              refine (unhide HPL _).mono ?_
              rintro e Wp ⟨rfl, rfl⟩
              go_wp2
              go_meet
              case rel => exact ⟨by rw [unhide HD]; simp [e8', ep], rfl⟩
      case rest =>
        obtain ⟨rfl, rfl⟩ := hcut
        have HZ4 := hide z4'
        clear z4'
        by_cases hF : m4 = 8 ∨ pickI s.last 2 = 0 ∨ j + 1 = l.length
        · rw [decide_eq_true hF]
          clear hF
          have HB5 := hide (below_box wc (.cells #[.slice ad4 m4 cap4] 22))
          have HI5 := hide ((unhide HI4).below (unhide HB5))
          have hvs' : vs.length ≤ 1000 := by omega
          go_wp2_with (first
            | (at_builtin; refine wpList_appL _ rfl (.tmp 70) (.tmp 72) rfl w.heap.size _ vs rfl (unhide HI5).row wc.heap.size ad4 m4 cap4 rfl ?d0 ?d1 ?d2 ?_))
          case d0 => simp
          case d1 => exact hvs'
          case d2 => exact (unhide HI5).low.size
          intro v3 W5 r1 r2
          have HI6 := hide ((unhide HI5).flush r2 r1 (by rw [unhide HM4]; exact h1) (by rw [unhide HM4]; exact h8))
          obtain ⟨ad5, cap5, rfl⟩ := row_slice (show World.ownsRow _ _ _ _ _ _ _ from r1)
          clear r1 r2 HI4 HI5 HB5
          go_wp2
          go_roundw
          case rel => exact ⟨j + 1, vs ++ [.slice ad4 m4 cap4], [], W5.heap.size, by omega, by go_num, by simp; omega, by decide, unhide HI6⟩
          case measure => simp [intOf]; omega
        · rw [decide_eq_false hF]
          have hj1 : j + 1 < l.length := by
            rcases Nat.lt_or_ge (j + 1) l.length with q | q
            · exact q
            · exact absurd (.inr (.inr (by omega))) hF
          have hm8 : m4 < 8 := by
            rcases Nat.lt_or_ge m4 8 with q | q
            · exact q
            · exact absurd (.inl (by omega)) hF
          clear hF
          go_wp2
          go_roundw
          case rel => exact ⟨j + 1, vs, tx4, n, by omega, by go_num, by omega, by rw [unhide HM4]; exact hm8, unhide HI4⟩
          case measure => simp [intOf]; omega
    · obtain rfl : j = l.length := by omega
      have HG : Hid (OpsSay w l.length (.returned u3) wr) := ⟨u3, vs, rfl, (unhide HI).row, hvs, fun x hx => by
        obtain ⟨L, h1, h2, _⟩ := (unhide HI).elems x hx
        exact ⟨L, h1, h2⟩, (unhide HI).low⟩
      clear HI
      go_wp2
      go_ret
      exact unhide HG

end Go.Proofs.YtbloahcmakjchaaGreatDoor
