/- The document's reading: how a text is cut, and what is appended. -/
import Derived.Test.YtcgdmehdocaooaaGreatDoorRn2
import Derived.Test.YtcgdmehdocaooaaGreatDoorReadB
import Derived.Deep.AppendLies
namespace Go.Proofs.YtcgdmehdocaooaaGreatDoor
open Go.RowKit

theorem split_row (w : World) (ps : List ByteArray) (hle : ps.length ≤ maxLen) :
    (w.alloc (.cells (ps.map Value.string).toArray 9)).ownsRow w.heap.size 9 1 (.slice (some ⟨w.heap.size, 0, none⟩) ps.length ps.length) ps.length (ps.map Value.string) := by
  refine ⟨by simp, .inr ⟨w.heap.size, ps.length, (ps.map Value.string).toArray, rfl, Nat.le_refl _, ?_, Nat.le_refl _, hle, by simp, ?_⟩⟩
  · exact heap_alloc_new w _
  · rw [Nat.mul_one, List.take_of_length_le (by simp)]

theorem split_words (s : ByteArray) (w : World) (hs : s.size ≤ 100000) (hl : Libs w) :
    Calls Tryz.prog 8 #[.string s, .string ⟨#[32]⟩] w fun e w' => e = .returned (.slice (some ⟨w.heap.size, 0, none⟩) (wordsR s).length (wordsR s).length) ∧ w' = w.alloc (.cells ((wordsR s).map Value.string).toArray 9) := by
  obtain ⟨⟨mx, hmx⟩, _⟩ := hl
  refine (Tryz.strings_Split s ⟨#[32]⟩ mx w (by omega) hmx (by decide)).mono fun e w' ⟨he, hw⟩ => ⟨?_, hw⟩
  rw [wordsR_len]
  exact he

theorem split_pieces (s : ByteArray) (w : World) (hs : s.size ≤ 100000) (hl : Libs w) :
    Calls Tryz.prog 8 #[.string s, .string ⟨#[43]⟩] w fun e w' => e = .returned (.slice (some ⟨w.heap.size, 0, none⟩) (piecesR s).length (piecesR s).length) ∧ w' = w.alloc (.cells ((piecesR s).map Value.string).toArray 9) := by
  obtain ⟨⟨mx, hmx⟩, _⟩ := hl
  refine (Tryz.strings_Split s ⟨#[43]⟩ mx w (by omega) hmx (by decide)).mono fun e w' ⟨he, hw⟩ => ⟨?_, hw⟩
  rw [piecesR_len]
  exact he

/-- Texts lie in a block. -/
def WordsAt (x : World) (g : Nat) (ps : List ByteArray) : Prop := ∀ j p, ps[j]? = some p → x.cell? ⟨g, j, none⟩ = some (.string p)

theorem WordsAt.carry {x y : World} {g : Nat} {ps : List ByteArray} (h : WordsAt x g ps) (hb : Below x.heap.size x y) : WordsAt y g ps := fun j p hj =>
  (hb.cell (p := ⟨g, j, none⟩) (lt_of_cell (h j p hj))).trans (h j p hj)

theorem split_at (w : World) (ps : List ByteArray) : WordsAt (w.alloc (.cells (ps.map Value.string).toArray 9)) w.heap.size ps := fun j p hj => by
  rw [World.cell?_alloc_at _ _ _ _ (by simp)]
  simp [hj]

/-- append of seven empty texts to a slice of texts that is the call's own. -/
theorem wpList_app7 (w : World) {ops : Array Oper} {rest : List Oper} {o : Oper} {a : Act} {Q : Exit → Act → World → Prop} (hgd : o.guard = none) (s x : Operand)
    (ho : o.op = .call { callee := .builtin .append, args := #[s, x], argTypes := #[33, 33] })
    (base : Nat) (v : Value) (l : List ByteArray) (hs : a.eval s = v) (hown : w.ownsRow base 9 1 v l.length (l.map Value.string))
    (b : Nat) (hx : a.eval x = .slice (some ⟨b, 0, none⟩) 7 7) (hc : WordsAt w b none7)
    (hlen : l.length ≤ 200000) (hbase : base ≤ w.heap.size) (L : List ByteArray) (hL : L = l ++ none7)
    (h : ∀ g cap w', w'.ownsRow base 9 1 (.slice (some ⟨g, 0, none⟩) L.length cap) L.length (L.map Value.string) → w.grownBy w' v.ownBlock → wpList Tryz.prog ops Q rest (a.put o.dst (.slice (some ⟨g, 0, none⟩) L.length cap)) w') : wpList Tryz.prog ops Q (o :: rest) a w := by
  subst hL
  obtain ⟨i0, hi0, hz0, hz1, hz2⟩ := info_parts info_string
  refine wpList_append_lies w hgd s x 33 ho base 9 i0 (.string ⟨#[]⟩) 1 16 Tryz.underlying33 hi0 hz0 hz1 hz2 rfl (by decide) v l.length (l.map Value.string) hs hown ⟨b, 0, none⟩ 7 7 (none7.map Value.string) hx rfl ?_ ?_ (by decide) ?_ ?_ hbase _ rfl ?_
  · intro j u hj
    rw [List.getElem?_map] at hj
    cases e : none7[j]? with
    | none => rw [e] at hj; cases hj
    | some p =>
      rw [e] at hj
      obtain rfl := Option.some.inj hj
      have := hc j p e
      unfold Addr.add
      split
      · rename_i e0; rw [e0] at this; exact this
      · simpa using this
  · intro u hu
    simp [none7] at hu
    subst hu; rfl
  · unfold maxLen; omega
  · omega
  · intro g cap w' k1 k2 _ _
    have el : (l ++ none7).length = l.length + 7 := by simp [none7]
    have := h g cap w'
    rw [el, List.map_append] at this
    exact this k1 k2

/-- What a round holds while a change is made of its words. -/
def RHeld (B g m cap : Nat) (p2 p6 : ByteArray) (ps : List ByteArray) (w0 x : World) : Prop :=
  x.cell? ⟨B, 0, none⟩ = some (.slice (some ⟨g, 0, none⟩) m cap) ∧ x.cell? ⟨g, 2, none⟩ = some (.string p2) ∧ x.cell? ⟨g, 6, none⟩ = some (.string p6) ∧ WordsAt x g ps ∧ Below w0.heap.size w0 x

theorem RHeld.carry {B g m cap : Nat} {p2 p6 : ByteArray} {ps : List ByteArray} {w0 x y : World} (h : RHeld B g m cap p2 p6 ps w0 x) (hb : Below x.heap.size x y) : RHeld B g m cap p2 p6 ps w0 y := by
  obtain ⟨h1, h2, h3, h4, h5⟩ := h
  have t : ∀ {z : Addr} {v : Value}, x.cell? z = some v → y.cell? z = some v := fun {z v} e => (hb.cell (p := z) (lt_of_cell e)).trans e
  exact ⟨t h1, t h2, t h3, h4.carry hb, h5.trans (hb.mono h5.size)⟩

theorem RHeld.num {B g m cap : Nat} {p2 p6 : ByteArray} {ps : List ByteArray} {w0 x : World} (h : RHeld B g m cap p2 p6 ps w0 x) (hl : Libs w0) (ht : Tab w0) (hps : ∀ p, p ∈ ps → p.size ≤ 100000) (hm : ps.length = m) (h7 : 7 ≤ m) (i : Int) (h0 : 0 ≤ i) (h1 : i < 7) :
    Calls Tryz.prog 9 #[.int .i64 i, .pointer (some ⟨B, 0, none⟩)] x fun e w' => e = .returned (.int .i64 (numB (ps.getD i.toNat ⟨#[]⟩))) ∧ Below x.heap.size x w' := by
  obtain ⟨n, rfl⟩ : ∃ n : Nat, i = n := ⟨i.toNat, by omega⟩
  have hn : n < ps.length := by omega
  have e : ps[n]? = some ps[n] := List.getElem?_eq_getElem hn
  rw [Int.toNat_natCast, List.getD_eq_getElem?_getD, e, Option.getD_some]
  exact ref_num n m cap B g ps[n] x (by omega) h.1 (h.2.2.2.1 n _ e) (hps _ (List.getElem_mem hn)) (hl.carry h.2.2.2.2) (ht.carry h.2.2.2.2)

/-- What the document's writing gives. -/
def RefAny (L : List Fop) (w : World) (e : Ending) (w' : World) : Prop :=
  ∃ (t : ByteArray) (n i : Int), e = .returned (.tuple #[.string t, .agg #[.int .i64 n, .int .i64 i]]) ∧ ((okL L ∧ t = ⟨(opsL L).toArray⟩ ∧ n = 0) ∨ (¬ okL L ∧ (n = 1 ∨ n = 4))) ∧ Below w.heap.size w w'

theorem refw_any (L : List Fop) (v : Value) (w : World) (hn : L.length ≤ 1000) (hs : ∀ x, x ∈ L → Small x) (h : ReadsOps w v L) (ht : Tab w) : Calls Tryz.prog 12 #[v] w (RefAny L w) := by
  by_cases hl : 1 ≤ L.length ∧ L.length ≤ 8
  · obtain ⟨ad, cap, rfl, h⟩ := h
    rcases h with rfl | ⟨b, off, rfl, h⟩
    · simp at hl
    · rcases first_bad L with hok | ⟨i, b1, b2, b3⟩
      · refine (refw_main L L.length b off cap w hl hs h ht (Nat.le_refl _) (fun j hj _ => hok _ (List.getElem_mem hj)) (fun hj => absurd hj (Nat.lt_irrefl _))).mono ?_
        rintro e w' ⟨hb, ⟨_, rfl⟩ | ⟨hlt, _⟩⟩
        · exact ⟨_, _, _, rfl, .inl ⟨⟨hl.1, hl.2, hok⟩, rfl, rfl⟩, hb⟩
        · exact absurd hlt (Nat.lt_irrefl _)
      · refine (refw_main L i b off cap w hl hs h ht (Nat.le_of_lt b1) (fun j hj hji => b3 j hji) (fun _ => b2)).mono ?_
        rintro e w' ⟨hb, ⟨heq, _⟩ | ⟨_, rfl⟩⟩
        · exact absurd b1 (by omega)
        · refine ⟨_, _, _, rfl, .inr ⟨fun k => ?_, .inl rfl⟩, hb⟩
          rw [k.2.2 _ (List.getElem_mem b1)] at b2
          cases b2
  · refine (refw_limit L v w (by omega) h hl).mono ?_
    rintro e w' ⟨rfl, hb⟩
    exact ⟨_, _, _, rfl, .inr ⟨fun k => hl ⟨k.1, k.2.1⟩, .inr rfl⟩, hb⟩

/-- The number that word number i is. -/
def nth (ps : List ByteArray) (i : Int) : Int := numB (ps.getD i.toNat ⟨#[]⟩)

/-- append of one change, laid in a block of its own, at a step of a region that draws its order. -/
theorem step_appO (w : World) (t : TypeId) (y0 y1 : Int) (y2 : ByteArray) (y3 y4 y5 : Int) (y6 : ByteArray) {ops : Array Oper} {o : Oper} {a : Act} {K : Act → World → Prop} {Q : Exit → Act → World → Prop} {E : Prop} (hgd : o.guard = none) (s x : Operand)
    (ho : o.op = .call { callee := .builtin .append, args := #[s, x], argTypes := #[22, 22] })
    (base : Nat) (v : Value) (L : List Fop) (hs : a.eval s = v) (hown : Hid (w.ownsRow base 44 7 v L.length (cellsL L)))
    (hx : a.eval x = .slice (some ⟨w.heap.size, 0, none⟩) 1 1) (hlen : L.length ≤ 1000) (hbase : base ≤ (w.alloc (.cells #[.int .i64 y0, .int .i64 y1, .string y2, .int .i64 y3, .int .i64 y4, .int .i64 y5, .string y6] t)).heap.size)
    (h : ∀ v' w', w'.ownsRow base 44 7 v' (L ++ [Fop.mk y0 y1 y2 y3 y4 y5 y6]).length (cellsL (L ++ [Fop.mk y0 y1 y2 y3 y4 y5 y6])) → Hid ((w.alloc (.cells #[.int .i64 y0, .int .i64 y1, .string y2, .int .i64 y3, .int .i64 y4, .int .i64 y5, .string y6] t)).grownBy w' v.ownBlock) → K (a.put o.dst v') w') :
    if Region.wanted o (yielded ops a.tmps) = true then Oper.wp Tryz.prog o a (w.alloc (.cells #[.int .i64 y0, .int .i64 y1, .string y2, .int .i64 y3, .int .i64 y4, .int .i64 y5, .string y6] t)) K Q else E := by
  obtain ⟨i0, hi0, hz0, hz1, hz2⟩ := info_parts info_op
  refine step_append_lies _ hgd s x 22 ho base 44 i0 (opV zeroOp) 7 72 Tryz.underlying22 hi0 hz0 hz1 hz2 rfl (by decide) v L.length (cellsL L) hs ((unhide hown).alloc _) ⟨w.heap.size, 0, none⟩ 1 1 (opCells ⟨y0, y1, y2, y3, y4, y5, y6⟩) hx rfl ?_ ?_ (by decide) ?_ ?_ hbase _ rfl ?_
  · exact World.news_of_block (heap_alloc_new w _)
  · intro u hu
    simp [opCells] at hu
    rcases hu with rfl | rfl | rfl | rfl | rfl | rfl | rfl <;> rfl
  · unfold maxLen; omega
  · omega
  · intro g cap w' k1 k2 _ _
    refine h _ w' ?_ k2
    rw [cellsL_snoc]
    simpa using k1

theorem RHeld.size {B g m cap : Nat} {p2 p6 : ByteArray} {ps : List ByteArray} {w0 x : World} (h : RHeld B g m cap p2 p6 ps w0 x) : w0.heap.size ≤ x.heap.size := h.2.2.2.2.size

theorem RHeld.grown {B g m cap : Nat} {p2 p6 : ByteArray} {ps : List ByteArray} {w0 x y : World} {v : Value} {lim : Nat} (h : RHeld B g m cap p2 p6 ps w0 x) (hv : ∀ k, v.ownBlock = some k → w0.heap.size ≤ k ∧ k < lim) (hB : lim ≤ B) (hg : lim ≤ g) (hgr : x.grownBy y v.ownBlock) : RHeld B g m cap p2 p6 ps w0 y := by
  obtain ⟨h1, h2, h3, h4, h5⟩ := h
  have t : ∀ {z : Addr} {u : Value}, lim ≤ z.block → x.cell? z = some u → y.cell? z = some u := fun {z u} hz e => (hgr.cell_far z (lt_of_cell e) (fun hh => by have := hv _ hh.symm; omega)).trans e
  exact ⟨t hB h1, t hg h2, t hg h3, fun j p hj => t hg (h4 j p hj), h5.grown hgr h5.size (fun k hk => (hv k hk).1)⟩

end Go.Proofs.YtcgdmehdocaooaaGreatDoor
