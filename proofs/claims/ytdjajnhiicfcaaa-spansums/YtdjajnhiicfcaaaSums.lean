/- What two sets make, where it is not too much. -/
import Derived.Test.YtdjajnhiicfcaaaParted
namespace Go.Proofs.Ytdjajnhiicfcaaa
open Go.RowKit Palim

theorem inL_of {R : List (Int × Int)} {f : Int → Bool} (h : ∀ t, In R t ↔ f t = true) (t : Int) : inL R t = f t := by
  rw [Bool.eq_iff_iff, inL_iff, h]

/-- A set in memory that is as sets are. -/
def SetOk (w : World) (v : Value) (l : List (Int × Int)) : Prop := Canon l ∧ Bd l ∧ IsSet w v l

theorem SetOk.carry {w w' : World} {v : Value} {l : List (Int × Int)} (h : SetOk w v l) (hb : Below w.heap.size w w') : SetOk w' v l := ⟨h.1, h.2.1, h.2.2.carry hb⟩

def MakesOk (w : World) (k : Bool → Bool → Bool) (a b : List (Int × Int)) (e : Ending) (w' : World) : Prop :=
  ∃ R s, e = .returned (.tuple #[.pointer (some ⟨s, 0, none⟩), .nilIface]) ∧ (∀ t, inL R t = k (inL a t) (inL b t)) ∧ R.length ≤ a.length + b.length ∧ SetOk w' (.pointer (some ⟨s, 0, none⟩)) R ∧ Below w.heap.size w w'

theorem makes_ok {w w' : World} {k : Bool → Bool → Bool} {a b : List (Int × Int)} {e : Ending} (hl : a.length + b.length ≤ 60) (h : Makes w k a b e w') : MakesOk w k a b e w' := by
  obtain ⟨R, r1, r2, r3, r4, r5, hres⟩ := h
  rcases hres with ⟨_, s, rfl, hs⟩ | ⟨hbig, _⟩
  · obtain ⟨s, rfl⟩ := isSet_ptr hs
    exact ⟨R, s, rfl, inL_of r3, r4, ⟨r1, r2, hs⟩, r5⟩
  · omega

theorem union_ok {w : World} {v u : Value} {a b : List (Int × Int)} (hv : SetOk w v a) (hu : SetOk w u b) (hl : a.length + b.length ≤ 60) : Calls Try.prog 18 #[v, u] w (MakesOk w (fun x y => x || y) a b) :=
  (set_Union v u a b w hv.1 hu.1 hv.2.1 hu.2.1 (by omega) (by omega) hv.2.2 hu.2.2).mono fun _ _ h => makes_ok hl h
theorem both_ok {w : World} {v u : Value} {a b : List (Int × Int)} (hv : SetOk w v a) (hu : SetOk w u b) (hl : a.length + b.length ≤ 60) : Calls Try.prog 19 #[v, u] w (MakesOk w (fun x y => x && y) a b) :=
  (set_Both v u a b w hv.1 hu.1 hv.2.1 hu.2.1 (by omega) (by omega) hv.2.2 hu.2.2).mono fun _ _ h => makes_ok hl h
theorem minus_ok {w : World} {v u : Value} {a b : List (Int × Int)} (hv : SetOk w v a) (hu : SetOk w u b) (hl : a.length + b.length ≤ 60) : Calls Try.prog 20 #[v, u] w (MakesOk w (fun x y => x && !y) a b) :=
  (set_Minus v u a b w hv.1 hu.1 hv.2.1 hu.2.1 (by omega) (by omega) hv.2.2 hu.2.2).mono fun _ _ h => makes_ok hl h
theorem has_ok {w : World} {v : Value} {a : List (Int × Int)} (t : Int) (hv : SetOk w v a) (hl : a.length ≤ 60) : Calls Try.prog 22 #[v, .int .i64 t] w fun e w' => e = .returned (.bool (inL a t)) ∧ Below w.heap.size w w' :=
  set_Has v a t w (by omega) hv.1 hv.2.2

/-- What has the same times is the same. -/
theorem inL_eq {a b : List (Int × Int)} (ha : Canon a) (hb : Canon b) (h : ∀ t, inL a t = inL b t) : a = b :=
  canon_eq a b ha hb fun t => by rw [← inL_iff, ← inL_iff, h]

theorem same_ok {w : World} {v u : Value} {a b : List (Int × Int)} (hv : SetOk w v a) (hu : SetOk w u b) (hl : a.length ≤ 60) (h : ∀ t, inL a t = inL b t) : Calls Try.prog 21 #[v, u] w fun e w' => e = .returned (.bool true) ∧ Below w.heap.size w w' := by
  have e := inL_eq hv.1 hu.1 h
  subst e
  exact keep_sameSets a v u w (by omega) hv.2.2 hu.2.2

def MadeOk (w : World) (e : Ending) (w' : World) : Prop :=
  ∃ R s, e = .returned (.pointer (some ⟨s, 0, none⟩)) ∧ R.length ≤ 20 ∧ SetOk w' (.pointer (some ⟨s, 0, none⟩)) R ∧ Below w.heap.size w w'

theorem made_ok {w : World} {v : Value} {l : List (Int × Int)} (hl : l.length < 1099511627) (h : Reads w v l) : Calls Try.prog 17 #[v] w (MadeOk w) := by
  refine (keep_made l v w hl h).mono ?_
  rintro e w' ⟨R, s, rfl, hj, hs, hb⟩
  obtain ⟨s, rfl⟩ := isSet_ptr hs
  exact ⟨R, s, rfl, Nat.le_trans hj.2.2.2 (mkL_length l), ⟨hj.1, hj.2.1, hs⟩, hb⟩

end Go.Proofs.Ytdjajnhiicfcaaa
