/- How a key is written: the document's own answer. -/
import Derived.Test.YtcgdmehdocaooaaGreatDoorRefW
namespace Go.Proofs.YtcgdmehdocaooaaGreatDoor
open Go.RowKit

/-- A key's words. -/
def keyL (k a : Int) (wd : ByteArray) (b : Int) : List UInt8 := Lib.itoa k ++ 32 :: Lib.itoa a ++ 32 :: dashL wd.data.toList ++ 32 :: Lib.itoa b

theorem opL_key (o : Fop) : opL o = keyL o.kind o.a o.word o.b ++ 32 :: (Lib.itoa o.lo ++ 32 :: Lib.itoa o.hi) ++ 32 :: dashL o.value.data.toList := by
  unfold opL fieldsL keyL
  rw [join_two, join_two, join_two, join_two, join_two, join_two, Lib.join_one]
  simp [List.append_assoc]

def KHeld (w : World) (k a : Int) (wd : ByteArray) (b : Int) (x : World) : Prop :=
  (x.cell? ⟨w.heap.size, 0, none⟩ = some (.int .i64 k) ∧ x.cell? ⟨w.heap.size, 1, none⟩ = some (.int .i64 a) ∧ x.cell? ⟨w.heap.size, 2, none⟩ = some (.string wd) ∧ x.cell? ⟨w.heap.size, 3, none⟩ = some (.int .i64 b)) ∧ Below w.heap.size w x

theorem KHeld.carry {w : World} {k a : Int} {wd : ByteArray} {b : Int} {x y : World} (h : KHeld w k a wd b x) (hb : Below x.heap.size x y) : KHeld w k a wd b y := by
  obtain ⟨⟨h1, h2, h3, h4⟩, h5⟩ := h
  have t : ∀ {p : Addr} {v : Value}, x.cell? p = some v → y.cell? p = some v := fun {p v} e => (hb.cell (p := p) (lt_of_cell e)).trans e
  exact ⟨⟨t h1, t h2, t h3, t h4⟩, h5.trans (hb.mono h5.size)⟩

theorem KHeld.tab {w : World} {k a : Int} {wd : ByteArray} {b : Int} {x : World} (h : KHeld w k a wd b x) (ht : Tab w) : Tab x := ht.carry h.2

theorem size_data (s : ByteArray) : s.size = s.data.toList.length := Array.length_toList.symm

theorem dashB_size (s : ByteArray) (h : s.size ≤ 12) : (dashB s).size ≤ 12 := by
  unfold dashB
  split
  · show 1 ≤ 12; omega
  · exact h

theorem bytes_ext {a b : ByteArray} (h : a.data.toList = b.data.toList) : a = b := by
  cases a; cases b
  simp only [ByteArray.mk.injEq]
  exact Array.toList_inj.1 h

theorem app_data (a b : ByteArray) : (a ++ b).data.toList = a.data.toList ++ b.data.toList := by simp

theorem cat {P : Program} (a b : ByteArray) (h : a.size + b.size ≤ 10000) (w : World) : (Op.stringOp .add a b).run P w = .ok (.string (a ++ b)) w := run_string_add_sum w a b (by omega)
theorem blank_size : (⟨#[32]⟩ : ByteArray).size = 1 := rfl

set_option maxRecDepth 100000 in
set_option maxHeartbeats 8000000 in
theorem ref_KeyText (k a : Int) (wd : ByteArray) (b : Int) (w : World) (hk : I64 k) (ha : I64 a) (hb : I64 b) (hw : wd.size ≤ 12) (ht : Tab w) :
    Calls Tryz.prog 23 #[.agg #[.int .i64 k, .int .i64 a, .string wd, .int .i64 b]] w fun e w' => ∃ s : ByteArray, e = .returned (.string s) ∧ s.size ≤ 80 ∧ Hid (s.data.toList = keyL k a wd b) ∧ Below w.heap.size w w' := by
  have HT := hide ht
  have hd := dashB_size wd hw
  have HD := hide (dashB_data wd)
  have HH : Hid (KHeld w k a wd b (w.alloc (.cells #[.int .i64 k, .int .i64 a, .string wd, .int .i64 b] 40))) := by
    unfold Hid KHeld
    exact ⟨⟨by simp, by simp, by simp, by simp⟩, below_box _ _⟩
  have HI := hide (And.intro hk (And.intro ha hb))
  clear ht hk ha hb hw
  go_enter Tryz.func23, Tryz.ntmps23
  go_wp2
  generalize w.alloc (.cells #[.int .i64 k, .int .i64 a, .string wd, .int .i64 b] 40) = W at HH ⊢
  go_region_held3 (fun x => (x.cell? ⟨w.heap.size, 0, none⟩ = some (.int .i64 k) ∧ x.cell? ⟨w.heap.size, 1, none⟩ = some (.int .i64 a) ∧ x.cell? ⟨w.heap.size, 2, none⟩ = some (.string wd) ∧ x.cell? ⟨w.heap.size, 3, none⟩ = some (.int .i64 b)) ∧ Below w.heap.size w x)
    (first | exact KHeld.carry (unhide HH) (below_drew _) | (refine KHeld.carry (by assumption) ?_; exact below_box _ _) | (refine KHeld.carry (by assumption) ?_; assumption) | assumption)
    (first
      | (go_at_call_of 24 (2 : Nat); refine (words2 k a _ _ _ (unhide HI).1 (unhide HI).2.1 (by simp [go_sem]) (by simp [go_sem]) (KHeld.tab (k := k) (a := a) (wd := wd) (b := b) (by assumption) (unhide HT))).mono ?_; rintro e w1 ⟨s1, rfl, hs1, E1, b1⟩; have q1 := fun W => cat (P := Tryz.prog) s1 ⟨#[32]⟩ (by rw [blank_size]; omega) W; have q2 := fun W => cat (P := Tryz.prog) (s1 ++ ⟨#[32]⟩) (dashB wd) (by rw [ByteArray.size_append, blank_size]; omega) W; have q3 := fun W => cat (P := Tryz.prog) (s1 ++ ⟨#[32]⟩ ++ dashB wd) ⟨#[32]⟩ (by rw [ByteArray.size_append, ByteArray.size_append, blank_size]; omega) W)
      | (go_at_call 24; refine (words1 b _ _ _ (unhide HI).2.2 (by first | (simp [go_sem]; done) | (rw [b1.cell (by first | (simp; done) | (simp; omega))]; simp [go_sem]; done)) (KHeld.tab (k := k) (a := a) (wd := wd) (b := b) (by assumption) (unhide HT))).mono ?_; rintro e w2 ⟨s2, rfl, hs2, E2, b2⟩; have q4 := fun W => cat (P := Tryz.prog) (s1 ++ ⟨#[32]⟩ ++ dashB wd ++ ⟨#[32]⟩) s2 (by rw [ByteArray.size_append, ByteArray.size_append, ByteArray.size_append, blank_size]; omega) W)
      | (go_at_call 25; refine (ref_dash _ _).mono ?_; rintro e w3 ⟨rfl, rfl⟩))
  all_goals
    rename_i hh
    have HF := hide hh.2
    clear hh b1 b2 q1 q2 q3 q4
    go_wp2
    go_ret
    refine ⟨_, rfl, ?_, ?_, unhide HF⟩
    · rw [ByteArray.size_append, ByteArray.size_append, ByteArray.size_append, ByteArray.size_append, blank_size]; omega
    · show (s1 ++ ⟨#[32]⟩ ++ dashB wd ++ ⟨#[32]⟩ ++ s2).data.toList = keyL k a wd b
      rw [app_data, app_data, app_data, app_data, unhide E1, unhide E2, unhide HD]
      simp [keyL, List.append_assoc]

end Go.Proofs.YtcgdmehdocaooaaGreatDoor
