/- The program's order: all nodes in order: walked. -/
import Derived.Test.YtfcmkaiocnelgaaPtO
import Derived.Laws.EntriesVeiled
namespace Go.Proofs.Ytfcmkaiocnelgaa
open Go.RowKit Go.Maps

theorem wpList_len_N {P : Program} (w : World) {ops : Array Oper} {rest : List Oper} {o : Oper} {a : Act} {Q : Exit → Act → World → Prop} (hg : o.guard = none) (m : Operand) (t : TypeId) (hop : o.op = Op.call { callee := Callee.builtin Builtin.len, args := #[m], argTypes := #[t] })
    (k e : TypeId) (ht : P.underlying t = some (.map k e)) (R : Value → Option (DataW Unit × List MemPlace)) (b n : Nat) (D : DataW Unit) (hm : a.eval m = .map (some b)) (hown : w.ownsMap P k R b n D) (N : Nat) (hN : Maps.size D = N)
    (hK : wpList P ops Q rest (a.put o.dst (.int .i64 N)) w) : wpList P ops Q (o :: rest) a w := by
  subst hN
  exact wpList_len_own w hg m t hop k e ht R b n D hm hown hK

set_option maxRecDepth 100000 in
set_option maxHeartbeats 2000000 in
theorem tree_order (T : Tr) (B m n N : Nat) (D : DataW Unit) (w : World) (c0 : w.cell? ⟨B, 0, none⟩ = some (.map (some m))) (hm : w.ownsMap Try.prog 3 ptrElem m n D) (hN : Maps.size D = N) (hN2 : N ≤ 100000)
    (c1 : w.cell? ⟨B, 1, none⟩ = some T.ptr) (hT : T.Lies w) (hc : T.items.length ≤ N + 1) :
    Calls Try.prog 44 #[.pointer (some ⟨B, 0, none⟩)] w fun e w' =>
      ∃ q, e = .returned (.slice (some ⟨q, 0, none⟩) T.items.length (N + 1)) ∧ w'.ownsRow w.heap.size 47 1 (.slice (some ⟨q, 0, none⟩) T.items.length (N + 1)) T.items.length (T.items.map ptrB) ∧ Below w.heap.size w w' := by
  obtain ⟨i0, hi0, hz0, hz1, hz2⟩ := info_parts info_ptr
  have HM := hide hm
  have HT := hide hT
  have hBl := lt_of_cell c0
  clear hm hT
  go_enter Try.func44, Try.ntmps44
  go_wp2_with (first
    | (at_len; refine wpList_len_N _ rfl (.tmp 8) 46 rfl 3 47 Try.underlying46 ptrElem m n D rfl (unhide HM) N hN ?_)
    | (at_make; refine wpList_make_own _ rfl _ _ 76 rfl w.heap.size 47 i0 (.pointer none) 1 Try.underlying76 hi0 hz0 hz1 .i64 .i64 ((N : Int) + 1) (N + 1) rfl rfl (by omega) (by rw [hz2]; omega) (by unfold maxLen; omega) (Nat.le_refl _) ?_; intro w1 hown1 hg1))
  have hb1 : Below w.heap.size w w1 := below_grown_none hg1
  have hs1 := hb1.size
  have hq : w.heap.size < w1.heap.size := by
    obtain ⟨cur, h, _⟩ := row_block hown1
    exact lt_of_block h
  generalize hX : ((w1.alloc (.cells #[.slice (some ⟨w.heap.size, 0, none⟩) 0 (N + 1)] 76)).alloc (.cells #[.func (.func 57) #[] #[.pointer (some ⟨w1.heap.size + 1, 0, none⟩), .pointer (some ⟨w1.heap.size, 0, none⟩)]] 84)) = X
  have HBX : Hid (Below w.heap.size w X) := by unfold Hid; rw [← hX]; exact (hb1.alloc hs1 _).alloc (by simp; omega) _
  have HG : Hid (Gath X (w1.heap.size + 1) w1.heap.size w.heap.size (N + 1) []) := by
    unfold Hid
    rw [← hX]
    refine ⟨?_, ?_, ?_⟩
    · have := heap_alloc_new (w1.alloc (.cells #[.slice (some ⟨w.heap.size, 0, none⟩) 0 (N + 1)] 76)) (.cells #[.func (.func 57) #[] #[.pointer (some ⟨w1.heap.size + 1, 0, none⟩), .pointer (some ⟨w1.heap.size, 0, none⟩)]] 84)
      simpa using this
    · rw [(below_box _ _).block _ (by simp)]
      exact heap_alloc_new w1 _
    · exact ownsRow_rebase ((hown1.alloc _).alloc _) (Nat.zero_le _)
  have hXs : w.heap.size ≤ X.heap.size := (unhide HBX).size
  clear hX hown1 hg1
  have HD := hide (below_drew X)
  have HBD := hide ((unhide HBX).trans ((unhide HD).mono hXs))
  have cv := cell_of_one (unhide HG).v
  have d1 := ((unhide HBX).cell (p := ⟨B, 1, none⟩) hBl).trans c1
  have HC := hide (visit_order w.heap.size (w1.heap.size + 1) w1.heap.size w.heap.size (N + 1) (by omega) hs1 (Nat.le_refl _) T X.drew []
    ((unhide HT).keeps (Keeps.of_below (fun _ => False) (unhide HBD) (Nat.le_refl _)) (fun _ _ h => h)) (fun x hx => ((unhide HT).at x hx).lt) hXs ((unhide HG).below (unhide HD)) (by simpa using hc))
  clear HG HM c0
  go_region_held3 (fun x => x.cell? ⟨w1.heap.size + 1, 0, none⟩ = some (.func (.func 57) #[] #[.pointer (some ⟨w1.heap.size + 1, 0, none⟩), .pointer (some ⟨w1.heap.size, 0, none⟩)]) ∧ x.cell? ⟨B, 1, none⟩ = some T.ptr)
    (first | exact ⟨cv, d1⟩ | exact ⟨cell_of_one (Gath.v (by assumption)), (Below.cell (w := X.drew) (by assumption) hBl).trans d1⟩)
    (first | (go_at_call 57; refine (unhide HC).mono ?_; rintro e w2 ⟨rfl, hG3, hB3⟩))
  rename_i hh
  rw [List.nil_append] at hG3
  have co := cell_of_one hG3.o
  rw [List.length_map] at co
  have HR := hide hG3.row
  have HB3 := hide ((unhide HBD).trans hB3)
  clear hG3 hB3 hh HC cv d1
  go_wp2
  go_ret
  refine ⟨w.heap.size, rfl, ?_, unhide HB3⟩
  have := unhide HR
  rw [List.length_map] at this
  obtain ⟨h1, h2 | ⟨g, cap, cur, hv, hg, r⟩⟩ := this
  · cases h2.1
  · refine ⟨h1, .inr ⟨g, cap, cur, hv, ?_, r⟩⟩
    cases hv
    exact Nat.le_refl _

end Go.Proofs.Ytfcmkaiocnelgaa
