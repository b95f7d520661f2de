/- What the program's Write and the document's make of the same changes: the same text, and the same error at the same place. -/
import Derived.Test.YtcgdmehdocaooaaDoorRefU
import Derived.Test.YtcgdmehdocaooaaDoorNil
namespace Go.Proofs.YtcgdmehdocaooaaDoor
open Go.RowKit

/-- An error that tells this number and this place, in every later world. -/
def PlaceSays (w : World) (u : Value) (n i : Int) : Prop :=
  ∀ W, Below w.heap.size w W → Calls Tryd.prog 47 #[u] W fun e w' => e = .returned (.tuple #[.int .i64 n, .int .i64 i]) ∧ Below W.heap.size W w'

def RefSays (v : Value) (s : ByteArray) (n i : Int) (w : World) : Prop :=
  Calls Tryd.prog 24 #[v] w fun e w' => e = .returned (.tuple #[.string s, .agg #[.int .i64 n, .int .i64 i]]) ∧ Below w.heap.size w w'
def FactGives (s : ByteArray) (n i : Int) (w : World) (e : Ending) (w' : World) : Prop := ∃ u, e = .returned (.tuple #[.string s, u]) ∧ PlaceSays w' u n i ∧ Below w.heap.size w w'
def FactSays (v : Value) (s : ByteArray) (n i : Int) (w : World) : Prop := Calls Tryd.prog 25 #[v] w (FactGives s n i w)

theorem both (l : List Fop) (v : Value) (w : World) (hn : l.length < 1099511627776) (hs : ∀ x, x ∈ l → Small x) (h : ReadsOps w v l) (ht : Tab w) (hg : ErrorType w) :
    ∃ (s : ByteArray) (n i : Int), ∀ W, Below w.heap.size w W → RefSays v s n i W ∧ FactSays v s n i W := by
  by_cases hl : 1 ≤ l.length ∧ l.length ≤ 8
  · rcases first_bad l with hok | ⟨i0, hb⟩
    · refine ⟨⟨(opsL l).toArray⟩, 0, -1, fun W hW => ⟨?_, ?_⟩⟩
      · have h' := h.carry hW
        obtain ⟨ad, cap, rfl, h'⟩ := h'
        rcases h' with rfl | ⟨b, off, rfl, h'⟩
        · simp at hl
        · exact (refw_main l l.length b off cap W hl hs h' (ht.carry hW) (Nat.le_refl _) (fun j hj _ => hok _ (List.getElem_mem hj)) (fun hj => absurd hj (Nat.lt_irrefl _))).mono fun e w' ⟨hb, hr⟩ => by
            rcases hr with ⟨_, he⟩ | ⟨hlt, _⟩
            · exact ⟨he, hb⟩
            · exact absurd hlt (Nat.lt_irrefl _)
      · exact (write_ok l v W hs (h.carry hW) ⟨hl.1, hl.2, hok⟩ (ht.carry hW)).mono fun e w' ⟨he, hb⟩ => ⟨_, he, fun W' _ => Place_nil W', hb⟩
    · refine ⟨⟨#[]⟩, 1, i0, fun W hW => ⟨?_, ?_⟩⟩
      · have h' := h.carry hW
        obtain ⟨ad, cap, rfl, h'⟩ := h'
        rcases h' with rfl | ⟨b, off, rfl, h'⟩
        · simp at hl
        · obtain ⟨b1, b2, b3⟩ := hb
          exact (refw_main l i0 b off cap W hl hs h' (ht.carry hW) (Nat.le_of_lt b1) (fun j hj hji => b3 j hji) (fun _ => b2)).mono fun e w' ⟨hb, hr⟩ => by
            rcases hr with ⟨heq, _⟩ | ⟨_, he⟩
            · exact absurd b1 (by omega)
            · exact ⟨he, hb⟩
      · exact (write_bad l i0 v W hs (h.carry hW) hl hb).mono fun e w' ⟨u, he, ⟨b, hu, c0, c1⟩, hbl⟩ => ⟨u, he, fun W' hW' => by
          subst hu
          exact Place_at 1 i0 b W' ((hW'.cell (lt_of_cell c0)).trans c0) ((hW'.cell (lt_of_cell c1)).trans c1) (((hg.carry hW).carry hbl).carry hW'), hbl⟩
  · refine ⟨⟨#[]⟩, 4, -1, fun W hW => ⟨?_, ?_⟩⟩
    · exact refw_limit l v W hn (h.carry hW) hl
    · exact (write_limit l v W hn (h.carry hW) hl).mono fun e w' ⟨he, hw⟩ => ⟨_, he, fun W' hW' => Place_errno 4 W' ((hg.carry hW).carry (by rw [← hw]; exact hW')), by rw [hw]; exact Below.refl _ _⟩

end Go.Proofs.YtcgdmehdocaooaaDoor
