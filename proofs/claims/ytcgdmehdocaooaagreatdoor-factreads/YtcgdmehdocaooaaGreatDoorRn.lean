/- The document's own reading of a text: its numbers, its words, its changes. -/
import Derived.Test.YtcgdmehdocaooaaGreatDoorRd5
import Derived.Test.YtcgdmehdocaooaaGreatDoorRefU
import Derived.Test.YtcgdmehdocaooaaGreatDoorShelf3
import Derived.Lib.SplitLaws
namespace Go.Proofs.YtcgdmehdocaooaaGreatDoor
open Go.RowKit

/-- A number as the document reads it; nought where it is none. -/
def numL (l : List UInt8) : Int := match Lib.atoiAll l with
  | .ok v => if Lib.itoa v = l then v else 0
  | _ => 0
def numB (s : ByteArray) : Int := numL s.data.toList

theorem numL_itoa (n : Int) (h : I64 n) : numL (Lib.itoa n) = n := by
  unfold numL
  rw [atoi_itoa n h.1 h.2]
  simp

theorem numL_bad (l : List UInt8) (h : ∀ v, Lib.atoiAll l ≠ .ok v) : numL l = 0 := by
  unfold numL
  cases e : Lib.atoiAll l with
  | ok v => exact absurd e (h v)
  | _ => rfl

theorem numL_ok (l : List UInt8) (v : Int) (h : Lib.atoiAll l = .ok v) : numL l = if Lib.itoa v = l then v else 0 := by
  unfold numL
  rw [h]

def none7 : List ByteArray := [⟨#[]⟩, ⟨#[]⟩, ⟨#[]⟩, ⟨#[]⟩, ⟨#[]⟩, ⟨#[]⟩, ⟨#[]⟩]
def wordsR (s : ByteArray) : List ByteArray := Lib.splitB ⟨#[32]⟩ 0 (Lib.countB s ⟨#[32]⟩) s
def piecesR (s : ByteArray) : List ByteArray := Lib.splitB ⟨#[43]⟩ 0 (Lib.countB s ⟨#[43]⟩) s
def opW (ps : List ByteArray) : Fop := ⟨numB (ps.getD 0 ⟨#[]⟩), numB (ps.getD 1 ⟨#[]⟩), textB (ps.getD 2 ⟨#[]⟩), numB (ps.getD 3 ⟨#[]⟩), numB (ps.getD 4 ⟨#[]⟩), numB (ps.getD 5 ⟨#[]⟩), textB (ps.getD 6 ⟨#[]⟩)⟩
def refOp (s : ByteArray) : Fop := opW (wordsR s ++ none7)
def refOps (s : ByteArray) : List Fop := (piecesR s).map refOp

theorem refOp_of (s : ByteArray) (q : Fop) (hq : opB q = true) (h : s.data.toList = opL q) : refOp s = q := by
  have hw : (wordsR s).map (·.data.toList) = fieldsL q := by
    unfold wordsR
    rw [Lib.splitB_data]
    show Lib.splitK [32] 0 (Lib.count s.data.toList [32]) s.data.toList = _
    rw [h]
    exact split_wr q hq _ (by rw [count_wr q hq]; exact Nat.le_refl _)
  have hl : (wordsR s).length = 7 := by
    have := congrArg List.length hw
    simpa [fieldsL] using this
  obtain ⟨a, b, c, d, e, f, g, he⟩ := seven _ hl
  rw [he] at hw
  simp only [List.map_cons, List.map_nil, fieldsL, List.cons.injEq, and_true] at hw
  obtain ⟨h0, h1, h2, h3, h4, h5, h6⟩ := hw
  obtain ⟨⟨i0, i1, i2⟩, i3, i4⟩ := ok_ints q hq
  obtain ⟨_, _, _, _, w1, w2⟩ := op_parts q hq
  have t : ∀ x y : ByteArray, WordOrNone y.data.toList → x.data.toList = dashL y.data.toList → textB x = y := fun x y hy hx => bytes_eq (by rw [textB_data, hx, text_dash _ hy])
  unfold refOp
  rw [he]
  show Fop.mk (numL a.data.toList) (numL b.data.toList) (textB c) (numL d.data.toList) (numL e.data.toList) (numL f.data.toList) (textB g) = q
  rw [h0, h1, h3, h4, h5, numL_itoa _ i0, numL_itoa _ i1, numL_itoa _ i2, numL_itoa _ i3, numL_itoa _ i4, t c q.word w1 h2, t g q.value w2 h6]

theorem refOps_of (s : ByteArray) (q : List Fop) (hq : okL q) (h : s.data.toList = opsL q) : refOps s = q := by
  have hp : (piecesR s).map (·.data.toList) = q.map opL := by
    unfold piecesR
    rw [Lib.splitB_data]
    show Lib.splitK [43] 0 (Lib.count s.data.toList [43]) s.data.toList = _
    rw [h]
    have := wrs_count q hq
    exact wrs_cut q hq _ (by omega)
  have hl : (piecesR s).length = q.length := by
    have := congrArg List.length hp
    simpa using this
  unfold refOps
  apply List.ext_getElem
  · simpa using hl
  · intro i h1 h2
    rw [List.getElem_map]
    refine refOp_of _ _ (hq.2.2 _ (List.getElem_mem h2)) ?_
    have e := congrArg (fun l => l[i]?) hp
    simp only [List.getElem?_map] at e
    rw [List.getElem?_eq_getElem (by simpa using h1), List.getElem?_eq_getElem h2] at e
    simpa using e

theorem split_small (c : UInt8) : ∀ (k : Nat) (t : ByteArray), ∀ p, p ∈ Lib.splitB ⟨#[c]⟩ 0 k t → p.size ≤ t.size := by
  intro k
  induction k with
  | zero => intro t p hp; simp [Lib.splitB] at hp; rw [hp]; exact Nat.le_refl _
  | succ k ih =>
    intro t p hp
    unfold Lib.splitB at hp
    split at hp
    · simp at hp; rw [hp]; exact Nat.le_refl _
    · rcases List.mem_cons.1 hp with rfl | hp
      · rw [ByteArray.size_extract]; omega
      · have := ih _ p hp
        rw [ByteArray.size_extract] at this
        omega

theorem wordsR_len (s : ByteArray) : (wordsR s).length = Lib.countB s ⟨#[32]⟩ + 1 := Lib.splitB_all _ (by decide) _ _ _ rfl
theorem piecesR_len (s : ByteArray) : (piecesR s).length = Lib.countB s ⟨#[43]⟩ + 1 := Lib.splitB_all _ (by decide) _ _ _ rfl
theorem wordsR_le (s : ByteArray) : (wordsR s).length ≤ s.size + 1 := by
  rw [wordsR_len]
  have := Lib.countB_le ⟨#[32]⟩ (by decide) s.size s (Nat.le_refl _)
  omega
theorem piecesR_le (s : ByteArray) : (piecesR s).length ≤ s.size + 1 := by
  rw [piecesR_len]
  have := Lib.countB_le ⟨#[43]⟩ (by decide) s.size s (Nat.le_refl _)
  omega

theorem words7_small (s : ByteArray) : ∀ p, p ∈ wordsR s ++ none7 → p.size ≤ s.size := by
  intro p hp
  rcases List.mem_append.1 hp with hp | hp
  · exact split_small _ _ _ p hp
  · simp [none7] at hp
    subst hp
    exact Nat.zero_le _

theorem getD_small (ps : List ByteArray) (n i : Nat) (h : ∀ p, p ∈ ps → p.size ≤ n) : (ps.getD i ⟨#[]⟩).size ≤ n := by
  rw [List.getD_eq_getElem?_getD]
  cases e : ps[i]? with
  | none => exact Nat.zero_le _
  | some p => exact h p (List.mem_of_getElem? e)

theorem refOp_small (s : ByteArray) : (refOp s).word.size ≤ s.size ∧ (refOp s).value.size ≤ s.size :=
  ⟨Nat.le_trans (textB_size _) (getD_small _ _ _ (words7_small s)), Nat.le_trans (textB_size _) (getD_small _ _ _ (words7_small s))⟩

theorem refOps_small (s : ByteArray) (hs : s.size ≤ 100000) : ∀ x, x ∈ refOps s → Small x := by
  intro x hx
  obtain ⟨p, hp, rfl⟩ := List.mem_map.1 hx
  have h1 := refOp_small p
  have h2 := split_small _ _ _ p hp
  unfold Small maxLen
  omega

/-! ### The document's number -/

theorem parse_ok (s : ByteArray) (v : Int) (w : World) (hs : s.size ≤ 100000) (h : Lib.atoiAll s.data.toList = .ok v) :
    Calls Tryz.prog 19 #[.string s, .int .i64 10, .int .i64 64] w fun e w' => e = .returned (.tuple #[.int .i64 v, .nilIface]) ∧ Below w.heap.size w w' :=
  (Tryz.strconv_ParseInt_10_at64_ok s (by omega) v ((parseInt_64 _).trans h) w).mono fun e w' ⟨he, hw⟩ => ⟨he, by
    rcases hw with rfl | ⟨t, rfl⟩
    · exact Below.refl _ _
    · exact Lib.bytesWorld_below _ _ _⟩

theorem parse_bad (s : ByteArray) (w : World) (hs : s.size ≤ 100000) (h : ∀ v, Lib.atoiAll s.data.toList ≠ .ok v) (hl : Libs w) :
    Calls Tryz.prog 19 #[.string s, .int .i64 10, .int .i64 64] w (AtoiBad w) := by
  obtain ⟨_, ⟨tp, p, h2⟩, tq, q, h3⟩ := hl
  cases hh : Lib.atoiAll s.data.toList
  · exact absurd hh (h _)
  · exact (Any.strconv_ParseInt_10_at64_syntax_var Tryz.laysC174 s (by omega) ((parseInt_64 _).trans hh) tp p w h2).mono fun e w' ⟨N, he, _, _, hb⟩ => ⟨0, N, he, hb⟩
  · exact (Any.strconv_ParseInt_10_at64_range_var Tryz.laysC174 s (by omega) ((parseInt_64 _).trans hh) tq q w h3).mono fun e w' ⟨N, he, _, _, hb⟩ => ⟨_, N, he, hb⟩

theorem format (n : Int) (w : World) (h : I64 n) (ht : Tab w) :
    Calls Tryz.prog 20 #[.int .i64 n, .int .i64 10] w fun e w' => e = .returned (.string ⟨(Lib.itoa n).toArray⟩) ∧ Below w.heap.size w w' :=
  (Tryz.strconv_FormatInt_10 n h.1 h.2 w ht).mono fun e w' ⟨he, k, os, hw⟩ => ⟨he, by rw [hw]; exact ⟨rfl, rfl, rfl, by simp [Go.Sort.grow, World.drewN], fun i hi => by simp [Go.Sort.grow, World.drewN, Array.getElem?_append_left hi]⟩⟩

end Go.Proofs.YtcgdmehdocaooaaGreatDoor
