/- The program's tree: where it lies in memory. -/
import Derived.Test.YtfcmkaiocnelgaaPtM
import Derived.Test.YtfcmkaiocnelgaaGen
namespace Go.Proofs.Ytfcmkaiocnelgaa
open Go.RowKit

/-- What lies outside some blocks is as it was. -/
structure Keeps (F : Nat → Prop) (w w' : World) : Prop where
  os : w'.os = w.os
  tape : w'.tape = w.tape
  output : w'.output = w.output
  size : w.heap.size ≤ w'.heap.size
  block : ∀ k, k < w.heap.size → ¬ F k → w'.heap[k]? = w.heap[k]?

theorem Keeps.refl (F : Nat → Prop) (w : World) : Keeps F w w := ⟨rfl, rfl, rfl, Nat.le_refl _, fun _ _ _ => rfl⟩
theorem Keeps.trans {F : Nat → Prop} {a b c : World} (h : Keeps F a b) (k : Keeps F b c) : Keeps F a c :=
  ⟨k.os.trans h.os, k.tape.trans h.tape, k.output.trans h.output, Nat.le_trans h.size k.size, fun i hi hf => (k.block i (Nat.lt_of_lt_of_le hi h.size) hf).trans (h.block i hi hf)⟩
/-- The second change may also reach what the first one has made. -/
theorem Keeps.then {F G : Nat → Prop} {a b c : World} (h : Keeps F a b) (k : Keeps G b c) (hG : ∀ i, i < a.heap.size → G i → F i) : Keeps F a c :=
  ⟨k.os.trans h.os, k.tape.trans h.tape, k.output.trans h.output, Nat.le_trans h.size k.size, fun i hi hf => (k.block i (Nat.lt_of_lt_of_le hi h.size) (fun g => hf (hG i hi g))).trans (h.block i hi hf)⟩
theorem Keeps.mono {F G : Nat → Prop} {a b : World} (h : Keeps F a b) (hG : ∀ i, i < a.heap.size → F i → G i) : Keeps G a b :=
  ⟨h.os, h.tape, h.output, h.size, fun i hi hf => h.block i hi (fun g => hf (hG i hi g))⟩
theorem Keeps.of_below {n : Nat} {a b : World} (F : Nat → Prop) (h : Below n a b) (hn : a.heap.size ≤ n) : Keeps F a b :=
  ⟨h.os, h.tape, h.output, h.size, fun i hi _ => h.block i (by omega)⟩
theorem Keeps.of_grown {a b : World} {row : Option Nat} {F : Nat → Prop} (h : a.grownBy b row) (hr : ∀ k, row = some k → F k ∨ a.heap.size ≤ k) : Keeps F a b :=
  ⟨h.os, h.tape, h.output, h.size, fun i hi hf => h.block i hi (fun e => by
    rcases hr i e.symm with k | k
    · exact hf k
    · omega)⟩
theorem Keeps.below {F : Nat → Prop} {a b : World} (h : Keeps F a b) (hF : ∀ i, i < a.heap.size → ¬ F i) : Below a.heap.size a b :=
  ⟨h.os, h.tape, h.output, h.size, fun i hi => h.block i hi (hF i hi)⟩
theorem Keeps.cell {F : Nat → Prop} {a b : World} (h : Keeps F a b) {p : Addr} (hp : p.block < a.heap.size) (hf : ¬ F p.block) : b.cell? p = a.cell? p := World.cell?_of_block (w := a) (h.block p.block hp hf)
theorem Keeps.frozen {F : Nat → Prop} {a b : World} (h : Keeps F a b) {p : Addr} (hp : p.block < a.heap.size) (hf : ¬ F p.block) : b.frozen? p = a.frozen? p := World.frozen?_of_block (w := a) (h.block p.block hp hf)

theorem keeps_set (w : World) (B f : Nat) (v : Value) : Keeps (· = B) w (w.setCell ⟨B, f, none⟩ v) := by
  have h := World.keptBut_setCell w ⟨B, f, none⟩ v (may := fun p => p.block = B) rfl
  refine ⟨rfl, rfl, rfl, ?_, fun k hk hr => ?_⟩
  · simp
  · exact h.block hk (fun p hp e => hr (by rw [← e, hp]))

theorem keeps_drew (F : Nat → Prop) (w : World) : Keeps F w w.drew := ⟨rfl, rfl, rfl, Nat.le_refl _, fun _ _ _ => rfl⟩

/-- A node, in its block. -/
structure NodeW (w : World) (b : Nat) (e : Ent) (last : Int) (p q : Value) : Prop where
  c0 : w.cell? ⟨b, 0, none⟩ = some (.int .i64 e.id)
  c1 : w.cell? ⟨b, 1, none⟩ = some (.int .i64 e.lo)
  c2 : w.cell? ⟨b, 2, none⟩ = some (.int .i64 e.hi)
  c3 : w.cell? ⟨b, 3, none⟩ = some (.int .i64 last)
  c4 : w.cell? ⟨b, 4, none⟩ = some p
  c5 : w.cell? ⟨b, 5, none⟩ = some q
  f : ∀ i, w.frozen? ⟨b, i, none⟩ = false

def NodeAt (w : World) (b : Nat) (e : Ent) : Prop := ∃ last p q, NodeW w b e last p q

theorem NodeW.lt {w : World} {b : Nat} {e : Ent} {last : Int} {p q : Value} (h : NodeW w b e last p q) : b < w.heap.size := lt_of_cell h.c0

theorem NodeW.of_block {w w' : World} {b : Nat} {e : Ent} {last : Int} {p q : Value} (h : NodeW w b e last p q) (hb : w'.heap[b]? = w.heap[b]?) : NodeW w' b e last p q := by
  have t : ∀ i, w'.cell? ⟨b, i, none⟩ = w.cell? ⟨b, i, none⟩ := fun i => World.cell?_of_block (w := w) hb
  exact ⟨(t 0).trans h.c0, (t 1).trans h.c1, (t 2).trans h.c2, (t 3).trans h.c3, (t 4).trans h.c4, (t 5).trans h.c5, fun i => (World.frozen?_of_block (w := w) hb).trans (h.f i)⟩

theorem NodeW.keeps {F : Nat → Prop} {w w' : World} {b : Nat} {e : Ent} {last : Int} {p q : Value} (h : NodeW w b e last p q) (hk : Keeps F w w') (hf : ¬ F b) : NodeW w' b e last p q :=
  h.of_block (hk.block b h.lt hf)

theorem NodeAt.lt {w : World} {b : Nat} {e : Ent} (h : NodeAt w b e) : b < w.heap.size := by
  obtain ⟨_, _, _, h⟩ := h
  exact h.lt
theorem NodeAt.keeps {F : Nat → Prop} {w w' : World} {b : Nat} {e : Ent} (h : NodeAt w b e) (hk : Keeps F w w') (hf : ¬ F b) : NodeAt w' b e := by
  obtain ⟨l, p, q, h⟩ := h
  exact ⟨l, p, q, h.keeps hk hf⟩

/-- The pointer to a tree's root. -/
def Tr.ptr (T : Tr) : Value := .pointer (T.map fun n => ⟨n.b, 0, none⟩)
theorem ptr_nil : Tr.ptr .nil = .pointer none := rfl
theorem ptr_node (b : Nat) (e : Ent) (last : Int) (l r : Tr) : (Tr.node b e last l r).ptr = .pointer (some ⟨b, 0, none⟩) := rfl

/-- A tree, in its blocks. -/
def Tr.Lies (w : World) (T : Tr) : Prop := T.fold True (fun b e last l r x y => NodeW w b e last l.ptr r.ptr ∧ x ∧ y)
theorem lies_node (w : World) (b : Nat) (e : Ent) (last : Int) (l r : Tr) : (Tr.node b e last l r).Lies w = (NodeW w b e last l.ptr r.ptr ∧ l.Lies w ∧ r.Lies w) := fold_node _ _ b e last l r

theorem Tr.Lies.keeps {F : Nat → Prop} {w w' : World} (hk : Keeps F w w') : ∀ {T : Tr}, T.Lies w → (∀ x, x ∈ T.items → ¬ F x.1) → T.Lies w' := by
  intro T
  induction T using Tr.ind with
  | nil => exact fun _ _ => trivial
  | node b e last l r ihl ihr =>
    intro h hf
    rw [lies_node] at h ⊢
    obtain ⟨h1, h2, h3⟩ := h
    rw [items_node] at hf
    exact ⟨h1.keeps hk (hf (b, e) (by simp)), ihl h2 (fun x hx => hf x (by simp [hx])), ihr h3 (fun x hx => hf x (by simp [hx]))⟩

theorem Tr.Lies.at {w : World} : ∀ {T : Tr}, T.Lies w → ∀ x, x ∈ T.items → NodeAt w x.1 x.2 := by
  intro T
  induction T using Tr.ind with
  | nil =>
    intro _ x hx
    cases hx
  | node b e last l r ihl ihr =>
    intro h x hx
    rw [lies_node] at h
    obtain ⟨h1, h2, h3⟩ := h
    rw [items_node] at hx
    rcases List.mem_append.1 hx with hx | hx
    · exact ihl h2 x hx
    · rcases List.mem_cons.1 hx with rfl | hx
      · exact ⟨_, _, _, h1⟩
      · exact ihr h3 x hx

end Go.Proofs.Ytfcmkaiocnelgaa
