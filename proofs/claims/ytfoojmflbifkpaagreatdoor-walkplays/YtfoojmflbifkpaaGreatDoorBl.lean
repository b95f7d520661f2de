/- Texts of one proof, one behind the other. -/
import Derived.Test.YtfoojmflbifkpaaGreatDoorBk
import Derived.Test.YtfoojmflbifkpaaGreatDoorShelfE
import Derived.Test.YtfoojmflbifkpaaGreatDoorBh
import Derived.Test.YtfoojmflbifkpaaGreatDoorBf
import Derived.Sort.OwnSorted

/- All that was said of a key behind a count: walked. -/
namespace Go.Proofs.YtfoojmflbifkpaaGreatDoor
open Go.RowKit Go.Maps
structure Canon (ps : List (Int × Int × ByteArray)) : Prop where
  right : ∀ p, p ∈ ps → rightB p.1 p.2.1 = true ∧ p.2.2 ≠ ByteArray.empty
  rise : ps.Pairwise (fun a b => a.2.1 ≤ b.1)
  parted : ∀ i, (h : i + 1 < ps.length) → ¬ (ps[i].2.1 = ps[i + 1].1 ∧ ps[i].2.2 = ps[i + 1].2.2)
theorem canon_snoc {M : List (Int × Int × ByteArray)} {x : Int × Int × ByteArray} (h : Canon M) (hx : rightB x.1 x.2.1 = true ∧ x.2.2 ≠ ByteArray.empty) (hr : ∀ p, p ∈ M → p.2.1 ≤ x.1) (hp : ∀ p, M.getLast? = some p → ¬ (p.2.1 = x.1 ∧ p.2.2 = x.2.2)) : Canon (M ++ [x]) := by
  refine ⟨fun p hpm => ?_, ?_, fun i hi => ?_⟩
  · rcases List.mem_append.1 hpm with q | q
    · exact h.right p q
    · rw [List.mem_singleton] at q
      subst q
      exact hx
  · rw [List.pairwise_append]
    refine ⟨h.rise, by simp, fun a ha b hb => ?_⟩
    rw [List.mem_singleton] at hb
    subst hb
    exact hr a ha
  · simp only [List.length_append, List.length_cons, List.length_nil] at hi
    by_cases q : i + 1 < M.length
    · rw [List.getElem_append_left (by omega), List.getElem_append_left q]
      exact h.parted i q
    · have e : i + 1 = M.length := by omega
      rw [List.getElem_append_left (show i < M.length by omega), List.getElem_append_right (by omega)]
      simp only [e, Nat.sub_self, List.getElem_cons_zero]
      refine hp _ ?_
      rw [List.getLast?_eq_getElem?, show M.length - 1 = i by omega, List.getElem?_eq_getElem (by omega)]
end Go.Proofs.YtfoojmflbifkpaaGreatDoor

/- All that was said of a key behind a count: the program's Pieces, walked. -/
namespace Go.Proofs.YtfoojmflbifkpaaGreatDoor
open Go.RowKit Go.Maps
end Go.Proofs.YtfoojmflbifkpaaGreatDoor

/- Texts sorted, each once. -/
namespace Go.Proofs.YtfoojmflbifkpaaGreatDoor
open Go.RowKit Go.Maps
end Go.Proofs.YtfoojmflbifkpaaGreatDoor

/- What a key ever said between two counts: the program's Ever, walked. -/
namespace Go.Proofs.YtfoojmflbifkpaaGreatDoor
open Go.RowKit Go.Maps
def RowS (y : World) (base : Nat) (v : Value) (l : List ByteArray) : Prop := y.ownsRow base 9 1 v l.length (l.map Value.string)
theorem RowS.carry {w w' : World} {base : Nat} {v : Value} {l : List ByteArray} (h : RowS w base v l) (hb : Below w.heap.size w w') : RowS w' base v l := ownsRow_carry h hb
end Go.Proofs.YtfoojmflbifkpaaGreatDoor

/- Small calls of the statements on the past: keys by number, the count, a row of values. -/
namespace Go.Proofs.YtfoojmflbifkpaaGreatDoor
open Go.RowKit Go.Maps
end Go.Proofs.YtfoojmflbifkpaaGreatDoor

/- Pieces that may not be told otherwise: there is one list of them. -/
namespace Go.Proofs.YtfoojmflbifkpaaGreatDoor
end Go.Proofs.YtfoojmflbifkpaaGreatDoor

/- A past that is new; the fact that the statements on the past lean on. -/
namespace Go.Proofs.YtfoojmflbifkpaaGreatDoor
open Go.RowKit Go.Maps
theorem keeps_below {F : Nat → Prop} {n : Nat} {w w' : World} (hk : Keeps F w w') (hF : ∀ i, F i → n ≤ i) (hn : n ≤ w.heap.size) : Below n w w' :=
  ⟨hk.os, hk.tape, hk.output, hk.size, fun k h => hk.block k (by omega) (fun q => by have := hF k q; omega)⟩
def noneS : Ky → Int → Int → ByteArray := fun _ _ _ => ByteArray.empty
theorem past_new (w : World) : PastW (w.alloc (.cells #[.int .i64 0, .int .i64 0, .map none] 26)) (pl0 w.heap.size) 0 0 (24 * 0) noneS (pastF (pl0 w.heap.size) none [] (fun _ _ => False)) := by
  refine ⟨none, [], fun _ => ([], 0), fun _ _ => False, ⟨by simp, by simp, by simp, fun i => by simp, .inl ⟨rfl, rfl⟩, List.Pairwise.nil, List.Pairwise.nil, by simp, by simp, by simp, by simp, fun i hi => ?_⟩, ⟨by simp, by simp, by simp, fun _ _ _ _ _ _ => rfl⟩, by simp, rfl⟩
  have h3 : 3 ≤ i := by
    have hi' : i < 0 ∨ 0 + 3 ≤ i := hi
    omega
  show (w.alloc (.cells #[.int .i64 0, .int .i64 0, .map none] 26)).cell? ⟨w.heap.size, i, none⟩ = none
  unfold World.cell?
  rw [heap_alloc_new]
  simp [h3]
def kA : Ky := ⟨1, 3, ⟨#[]⟩, 0⟩
end Go.Proofs.YtfoojmflbifkpaaGreatDoor

/- Changes by numbers: transactions, in memory; walked. -/
namespace Go.Proofs.YtfoojmflbifkpaaGreatDoor
open Go.RowKit Go.Maps
structure SayN where
  key : Int
  from_ : Int
  many : Int
  value : Int
  last : Int
def SaysAt (w : World) (ad : Option Addr) (l : List SayN) : Prop := ∀ j, (hj : j < l.length) → ∃ b o, ad = some ⟨b, o, none⟩ ∧ w.cell? ⟨b, o + j * 5, none⟩ = some (.int .i64 l[j].key) ∧ w.cell? ⟨b, o + j * 5 + 1, none⟩ = some (.int .i64 l[j].from_) ∧ w.cell? ⟨b, o + j * 5 + 2, none⟩ = some (.int .i64 l[j].many) ∧ w.cell? ⟨b, o + j * 5 + 3, none⟩ = some (.int .i64 l[j].value) ∧ w.cell? ⟨b, o + j * 5 + 4, none⟩ = some (.int .i64 l[j].last)
theorem SaysAt.carry {w w' : World} {ad : Option Addr} {l : List SayN} (h : SaysAt w ad l) (hb : Below w.heap.size w w') : SaysAt w' ad l := fun j hj => by
  obtain ⟨b, o, h1, h2, h3, h4, h5, h6⟩ := h j hj
  exact ⟨b, o, h1, (hb.cell (p := ⟨b, o + j * 5, none⟩) (lt_of_cell h2)).trans h2, (hb.cell (p := ⟨b, o + j * 5 + 1, none⟩) (lt_of_cell h3)).trans h3, (hb.cell (p := ⟨b, o + j * 5 + 2, none⟩) (lt_of_cell h4)).trans h4, (hb.cell (p := ⟨b, o + j * 5 + 3, none⟩) (lt_of_cell h5)).trans h5, (hb.cell (p := ⟨b, o + j * 5 + 4, none⟩) (lt_of_cell h6)).trans h6⟩
def cells7 (o : Fop) : List Value := [.int .i64 o.kind, .int .i64 o.a, .string o.word, .int .i64 o.b, .int .i64 o.lo, .int .i64 o.hi, .string o.value]
def cellsO (L : List Fop) : List Value := L.flatMap cells7
theorem cellsO_at : ∀ (L : List Fop) (k : Nat) (hk : k < L.length) (j : Nat), j < 7 → (cellsO L)[k * 7 + j]? = (cells7 L[k])[j]?
  | o :: L, 0, hk, j, hj => by
      show (cells7 o ++ cellsO L)[0 * 7 + j]? = _
      rw [List.getElem?_append_left (by simpa [cells7] using hj)]
      simp
  | o :: L, k + 1, hk, j, hj => by
      show (cells7 o ++ cellsO L)[(k + 1) * 7 + j]? = _
      have e : (cells7 o).length = 7 := rfl
      rw [List.getElem?_append_right (by omega), show (k + 1) * 7 + j - (cells7 o).length = k * 7 + j by omega, cellsO_at L k (by simpa using hk) j hj]
      simp
def RowO (y : World) (base : Nat) (v : Value) (l : List Fop) : Prop := y.ownsRow base 36 7 v l.length (cellsO l)
theorem RowO.carry {w w' : World} {base : Nat} {v : Value} {l : List Fop} (h : RowO w base v l) (hb : Below w.heap.size w w') : RowO w' base v l := ownsRow_carry h hb
theorem RowO.at {w : World} {base : Nat} {v : Value} {L : List Fop} (h : RowO w base v L) (hL : L ≠ []) : ∃ g cap, v = .slice (some ⟨g, 0, none⟩) L.length cap ∧ OpsAt w g 0 L ∧ base ≤ g := by
  obtain ⟨_, h2⟩ := h
  rcases h2 with ⟨hv, h2⟩ | ⟨g, cap, cur, hv, hg, hh, h3, h4, h5, h6⟩
  · exact absurd (List.eq_nil_of_length_eq_zero h2) hL
  · refine ⟨g, cap, hv, ⟨?_, fun k hk => ?_⟩, hg⟩
    · rcases Nat.lt_or_ge g w.heap.size with k | k
      · exact k
      · rw [Array.getElem?_eq_none k] at hh; cases hh
    · have key : ∀ j, j < 7 → w.cell? ⟨g, 0 + k * 7 + j, none⟩ = (cells7 L[k])[j]? := fun j hj => by
        rw [← cellsO_at L k hk j hj, ← h6, List.getElem?_take_of_lt (by omega)]
        unfold World.cell?
        simp only [hh, Nat.zero_add]
        rw [← Array.getElem?_toList]
        rfl
      exact ⟨key 0 (by omega), key 1 (by omega), key 2 (by omega), key 3 (by omega), key 4 (by omega), key 5 (by omega), key 6 (by omega)⟩
theorem infoO : (Tryz.prog.info? 36).map (fun i => (i.zero, i.size, i.bytes)) = some (some (.agg #[.int .i64 0, .int .i64 0, .string ⟨#[]⟩, .int .i64 0, .int .i64 0, .int .i64 0, .string ⟨#[]⟩]), 7, 72) := by kernel_rfl
theorem infoL : (Tryz.prog.info? 37).map (fun i => (i.zero, i.size, i.bytes)) = some (some (.slice none 0 0), 1, 24) := by kernel_rfl
def RowL (y : World) (base : Nat) (v : Value) (l : List Value) : Prop := y.ownsRow base 37 1 v l.length l
theorem RowL.carry {w w' : World} {base : Nat} {v : Value} {l : List Value} (h : RowL w base v l) (hb : Below w.heap.size w w') : RowL w' base v l := ownsRow_carry h hb
theorem wpList_appL (w : World) {ops : Array Oper} {rest : List Oper} {o : Oper} {a : Act} {Q : Exit → Act → World → Prop} (hgd : o.guard = none) (s x : Operand)
    (ho : o.op = .call { callee := .builtin .append, args := #[s, x], argTypes := #[28, 28] })
    (base : Nat) (v : Value) (L : List Value) (hs : a.eval s = v) (hown : RowL w base v L)
    (b : Nat) (ad : Option Addr) (n cap : Nat) (hx : a.eval x = .slice (some ⟨b, 0, none⟩) 1 1) (hc : w.cell? ⟨b, 0, none⟩ = some (.slice ad n cap))
    (hlen : L.length ≤ 1000) (hbase : base ≤ w.heap.size)
    (h : ∀ v' w', RowL w' base v' (L ++ [.slice ad n cap]) → w.grownBy w' v.ownBlock → wpList Tryz.prog ops Q rest (a.put o.dst v') w') : wpList Tryz.prog ops Q (o :: rest) a w := by
  obtain ⟨i0, hi0, hz0, hz1, hz2⟩ := info_parts infoL
  refine wpList_append_own w hgd s x 28 ho base 37 i0 (.slice none 0 0) 1 24 Tryz.underlying28 hi0 hz0 hz1 hz2 rfl (by decide) v L.length L hs hown ⟨b, 0, none⟩ 1 1 [.slice ad n cap] hx rfl ?_ ?_ ?_ ?_ hbase ?_
  · intro j u hj
    match j, hj with
    | 0, hj => simp at hj; subst hj; simpa [Addr.add] using hc
  · intro u hu
    simp at hu
    subst hu; rfl
  · unfold maxLen; omega
  · omega
  · intro v' w' k1 k2 _
    refine h v' w' ?_ k2
    unfold RowL
    simpa using k1
end Go.Proofs.YtfoojmflbifkpaaGreatDoor
