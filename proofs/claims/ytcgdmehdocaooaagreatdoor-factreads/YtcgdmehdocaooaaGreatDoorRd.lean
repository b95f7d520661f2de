/- What a text's words tell of one change: plain facts; and the library's Atoi, SplitN, Cut at this program. -/
import Derived.Test.YtcgdmehdocaooaaGreatDoorApp
import Derived.Test.YtcgdmehdocaooaaGreatDoorShelf2
import Derived.Lib.AtoiErrMem
namespace Go.Proofs.YtcgdmehdocaooaaGreatDoor
open Go.RowKit

/-- What the library's functions read: how long a fast search may be, and the two errors of a number that is none. -/
def Libs (w : World) : Prop :=
  (∃ m, w.cell? ⟨0, 0, none⟩ = some (.int .i64 m)) ∧ (∃ tp p, w.var? Tryz.prog "strconv.ErrSyntax" = some #[.iface tp p]) ∧ (∃ tp p, w.var? Tryz.prog "strconv.ErrRange" = some #[.iface tp p])

theorem Libs.carry {w w' : World} (h : Libs w) (hb : Below w.heap.size w w') : Libs w' := by
  obtain ⟨⟨m, h1⟩, ⟨tp, p, h2⟩, tq, q, h3⟩ := h
  exact ⟨⟨m, (hb.cell (lt_of_cell h1)).trans h1⟩, ⟨tp, p, var_carry h2 hb⟩, tq, q, var_carry h3 hb⟩

theorem atoi_ok (s : ByteArray) (v : Int) (w : World) (hs : s.size ≤ 100000) (h : Lib.atoiAll s.data.toList = .ok v) :
    Calls Tryz.prog 29 #[.string s] w fun e w' => e = .returned (.tuple #[.int .i64 v, .nilIface]) ∧ Below w.heap.size w w' :=
  (Tryz.strconv_Atoi_ok s (by omega) v h w).mono fun e w' ⟨he, hw⟩ => ⟨he, by
    rcases hw with rfl | ⟨t, rfl⟩
    · exact Below.refl _ _
    · exact Lib.bytesWorld_below _ _ _⟩

/-- What a number that is none gives: an error that is not nil. -/
def AtoiBad (w : World) (e : Ending) (w' : World) : Prop := ∃ v N, e = .returned (.tuple #[.int .i64 v, .iface 109 (.pointer (some ⟨N, 0, none⟩))]) ∧ Below w.heap.size w w'

theorem atoi_bad (s : ByteArray) (w : World) (hs : s.size ≤ 100000) (h : ∀ v, Lib.atoiAll s.data.toList ≠ .ok v) (hl : Libs w) :
    Calls Tryz.prog 29 #[.string s] w (AtoiBad w) := by
  obtain ⟨_, ⟨tp, p, h2⟩, tq, q, h3⟩ := hl
  cases hh : Lib.atoiAll s.data.toList
  · exact absurd hh (h _)
  · exact (Any.strconv_Atoi_syntax_var Tryz.laysC172 s (by omega) hh tp p w h2).mono fun e w' ⟨N, he, _, _, hb⟩ => ⟨0, N, he, hb⟩
  · exact (Any.strconv_Atoi_range_var Tryz.laysC172 s (by omega) hh tq q w h3).mono fun e w' ⟨N, he, _, _, hb⟩ => ⟨_, N, he, hb⟩

/-- The words of a text, cut at blanks: eight at most. -/
def wordsB (s : ByteArray) : List ByteArray := Lib.splitB ⟨#[32]⟩ 0 (min 8 (s.size + 1) - 1) s

theorem size_list (s : ByteArray) : s.size = s.data.toList.length := Array.length_toList.symm

theorem opL_len (q : Fop) : (opL q).length = (Lib.itoa q.kind).length + (Lib.itoa q.a).length + (dashL q.word.data.toList).length + (Lib.itoa q.b).length + (Lib.itoa q.lo).length + (Lib.itoa q.hi).length + (dashL q.value.data.toList).length + 6 := by
  unfold opL fieldsL
  rw [join_two, join_two, join_two, join_two, join_two, join_two, Lib.join_one]
  simp
  omega

theorem wordsB_of (s : ByteArray) (q : Fop) (hq : opB q = true) (h : s.data.toList = opL q) : (wordsB s).map (·.data.toList) = fieldsL q := by
  unfold wordsB
  rw [Lib.splitB_data]
  show Lib.splitK [32] 0 _ s.data.toList = _
  rw [h]
  refine split_wr q hq _ ?_
  have : 13 ≤ s.size := by
    rw [size_list, h]
    have hne : ∀ n : Int, 1 ≤ (Lib.itoa n).length := by
      intro n
      unfold Lib.itoa
      split
      · simp
      · rw [Lib.decDigits_length]; exact Lib.nDigits_pos _
    have hd : ∀ l : List UInt8, 1 ≤ (dashL l).length := by
      intro l
      unfold dashL
      split
      · simp
      · cases l with
        | nil => contradiction
        | cons _ _ => simp
    have h1 := hne q.kind
    have h2 := hne q.a
    have h3 := hd q.word.data.toList
    have h4 := hne q.b
    have h5 := hne q.lo
    have h6 := hne q.hi
    have h7 := hd q.value.data.toList
    rw [opL_len]
    omega
  omega

end Go.Proofs.YtcgdmehdocaooaaGreatDoor
