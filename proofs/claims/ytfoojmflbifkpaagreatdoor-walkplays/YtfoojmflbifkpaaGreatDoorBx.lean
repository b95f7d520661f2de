/- Texts of one proof, one behind the other. -/
import Derived.Test.YtfoojmflbifkpaaGreatDoorBl
import Derived.Test.YtfoojmflbifkpaaGreatDoorBn
import Derived.Test.YtfoojmflbifkpaaGreatDoorBu
import Derived.Test.YtfoojmflbifkpaaGreatDoorBw

/- Where rows lie: what the laws read. -/
namespace Go.Proofs.YtfoojmflbifkpaaGreatDoor
open Go.RowKit Go.Maps
theorem own1_at {w : World} {base : Nat} {e : TypeId} {v : Value} {n : Nat} {xs : List Value} (h : w.ownsRow base e 1 v n xs) : ∃ g ad c, v = .slice ad n c ∧ ∀ j, j < n → ad = some ⟨g, 0, none⟩ ∧ w.cell? ⟨g, j, none⟩ = xs[j]? := by
  rcases h.2 with ⟨rfl, rfl⟩ | ⟨g, cap, cur, rfl, hg, hh, h3, h4, h5, h6⟩
  · exact ⟨0, none, 0, rfl, fun j hj => by omega⟩
  · refine ⟨g, _, cap, rfl, fun j hj => ⟨rfl, ?_⟩⟩
    unfold World.cell?
    simp only [hh]
    rw [← Array.getElem?_toList, ← h6, List.getElem?_take_of_lt (by omega)]
    rfl
theorem there_at {w w' : World} {p : Addr} {v : Value} (h : w.cell? p = some v) (hb : Below w.heap.size w w') : w'.cell? p = some v := (hb.cell (lt_of_cell h)).trans h
end Go.Proofs.YtfoojmflbifkpaaGreatDoor

/- Small facts of the past, and Pieces where it fails. -/
namespace Go.Proofs.YtfoojmflbifkpaaGreatDoor
open Go.RowKit Go.Maps
theorem there_yet {w w' : World} {p : Addr} {v : Value} (h : w.cell? p = some v) (hb : Below w.heap.size w w') : w'.cell? p = some v := (hb.cell (lt_of_cell h)).trans h
theorem key_of {o : Fop} {k : Ky} (h0 : o.kind = k.kind) (h1 : o.a = k.a) (h2 : o.word.toList = k.word.toList) (h3 : o.b = k.b) : kyO o = k := by
  obtain ⟨a, b, c, d⟩ := k
  dsimp only at h0 h1 h2 h3
  rw [ByteArray.toList_eq, ByteArray.toList_eq] at h2
  have e : o.word = c := ByteArray.ext (Array.toList_inj.1 h2)
  unfold kyO
  rw [h0, h1, e, h3]
theorem row_max {w : World} {base : Nat} {e : TypeId} {size : Nat} {v : Value} {n : Nat} {xs : List Value} (h : w.ownsRow base e size v n xs) : n ≤ 9223372036854775807 := by
  rcases h.2 with ⟨_, h0⟩ | ⟨_, cap, _, _, _, _, h1, h2, _⟩
  · omega
  · unfold maxLen at h2
    omega
theorem not_empty {val : ByteArray} (h : val ≠ ByteArray.empty) : val.toList.isEmpty = false ∧ (val.toList == []) = false := by
  have e : val.toList ≠ [] := fun q => by
    rw [ByteArray.toList_eq] at q
    exact h (ByteArray.ext (Array.toList_inj.1 (by rw [q]; rfl)))
  constructor
  · cases q : val.toList with
    | nil => exact absurd q e
    | cons a b => rfl
  · simpa using e
theorem PastW.cells {w : World} {P : Pl} {now known bd : Int} {S : Ky → Int → Int → ByteArray} {F : Nat → Prop} (h : PastW w P now known bd S F) : w.cell? ⟨P.b, P.o, none⟩ = some (.int .i64 now) ∧ w.cell? ⟨P.b, P.o + 1, none⟩ = some (.int .i64 known) := by
  obtain ⟨_, _, _, _, p, _⟩ := h
  exact ⟨p.c0, p.c1⟩
end Go.Proofs.YtfoojmflbifkpaaGreatDoor

/- What Value, Pieces and Keys answer to wrong arguments: walked. -/
namespace Go.Proofs.YtfoojmflbifkpaaGreatDoor
open Go.RowKit Go.Maps
set_option maxHeartbeats 1000000 in
theorem moment_any (t : Int) (w : World) :
    Calls Tryz.prog 102 #[.int .i64 t] w fun e w' => e = .returned (.agg #[.int .i64 t, .int .i64 (wrap64 (t + 1))]) ∧ Below w.heap.size w w' := by
  go_enter Tryz.func102, Tryz.ntmps102
  go_wp2
  exact bodyPost_ret (v := .agg #[.int .i64 t, .int .i64 (wrap64 (t + 1))]) (by simp [results, Tryz.results102, go_sem]) rfl ⟨rfl, below_box _ _⟩
theorem moment_bad {t : Int} (h0 : -9223372036854775808 ≤ t) (h1 : t ≤ 9223372036854775807) (h : ¬ (-1099511627776 ≤ t ∧ t < 1099511627776)) : rightB t (wrap64 (t + 1)) = false := by
  apply decide_eq_false
  rintro ⟨a, b, c⟩
  unfold wrap64 at b c
  omega
set_option maxRecDepth 100000 in
set_option maxHeartbeats 4000000 in
theorem keys_count {w : World} {P : Pl} {now known bd : Int} {S : Ky → Int → Int → ByteArray} {F : Nat → Prop} (h : PastW w P now known bd S F) (at_ t : Int) (e : Int) (he : countErr now known at_ = e) (hne : e ≠ 0) :
    Calls Tryz.prog 57 #[.pointer (some ⟨P.b, P.o, none⟩), .int .i64 at_, .int .i64 t] w fun r w' => r = .returned (.tuple #[.slice none 0 0, .iface 43 (.int .i64 e)]) ∧ Below w.heap.size w w' := by
  obtain ⟨c0, c1⟩ := h.cells
  have HC := hide (past_count c0 c1 at_)
  have hv : errV (countErr now known at_) = .iface 43 (.int .i64 e) := by
    rw [he]
    unfold errV
    rw [if_neg hne]
  rw [hv] at HC
  have HB := hide (Below.refl w.heap.size w)
  clear h c0 c1 hv he hne
  go_enter Tryz.func57, Tryz.ntmps57
  go_wp2_with fail
  refine (unhide HC).mono ?_
  rintro r W1 ⟨rfl, rfl⟩
  go_wp2
  go_ret2
  exact ⟨rfl, unhide HB⟩
theorem count_fine {now known at_ : Int} (h0 : 0 ≤ at_) (h1 : known ≤ at_) (h2 : at_ ≤ now) : errV (countErr now known at_) = .nilIface := by
  have : countErr now known at_ = 0 := by unfold countErr; rw [if_neg (by omega), if_neg (by omega)]
  rw [this]; rfl
set_option maxRecDepth 100000 in
set_option maxHeartbeats 4000000 in
theorem keys_time {w : World} {P : Pl} {now known bd : Int} {S : Ky → Int → Int → ByteArray} {F : Nat → Prop} (h : PastW w P now known bd S F) (at_ t : Int) (h0 : 0 ≤ at_) (h1 : known ≤ at_) (h2 : at_ ≤ now) (ht : rightB t (wrap64 (t + 1)) = false) :
    Calls Tryz.prog 57 #[.pointer (some ⟨P.b, P.o, none⟩), .int .i64 at_, .int .i64 t] w fun r w' => r = .returned (.tuple #[.slice none 0 0, .iface 43 (.int .i64 1)]) ∧ Below w.heap.size w w' := by
  obtain ⟨c0, c1⟩ := h.cells
  have HC := hide (past_count c0 c1 at_)
  rw [count_fine h0 h1 h2] at HC
  have HM := hide (fun W => moment_any t W)
  have HRt := hide (fun W => span_Right t (wrap64 (t + 1)) W)
  rw [ht] at HRt
  generalize wrap64 (t + 1) = t1 at HM HRt
  clear h c0 c1 ht
  go_enter Tryz.func57, Tryz.ntmps57
  go_wp2_with fail
  refine (unhide HC).mono ?_
  rintro e W1 ⟨rfl, hW1⟩
  obtain rfl : w = W1 := hW1.symm
  clear hW1
  go_wp2_with fail
  refine (unhide HM _).mono ?_
  rintro e W3 ⟨rfl, b3⟩
  have HB3 := hide b3
  clear b3
  go_wp2_with fail
  refine (unhide HRt _).mono ?_
  rintro e W4 ⟨rfl, hW4⟩
  have b4 : Below W3.heap.size W3 W4 := by rw [hW4]; exact below_box _ _
  have HB4 := hide ((unhide HB3).trans (b4.mono (unhide HB3).size))
  clear hW4 b4 HB3 HM HRt
  go_wp2
  go_ret2
  exact ⟨rfl, unhide HB4⟩
end Go.Proofs.YtfoojmflbifkpaaGreatDoor

/- What Ever answers to wrong arguments: walked. -/
namespace Go.Proofs.YtfoojmflbifkpaaGreatDoor
open Go.RowKit Go.Maps
end Go.Proofs.YtfoojmflbifkpaaGreatDoor

/- Commits that may not be: walked. -/
namespace Go.Proofs.YtfoojmflbifkpaaGreatDoor
open Go.RowKit Go.Maps
set_option maxRecDepth 100000 in
set_option maxHeartbeats 4000000 in
theorem commit_limit (w : World) (P : Pl) (l : List Fop) (v : Value) (hn : l.length < 1099511627776) (h : ReadsOps w v l) (hl : ¬ (1 ≤ l.length ∧ l.length ≤ 8)) :
    Calls Tryz.prog 7 #[.pointer (some ⟨P.b, P.o, none⟩), v] w fun e w' => e = .returned (.iface 43 (.int .i64 4)) ∧ w' = w := by
  have HW := hide (write_limit l v w hn h hl)
  clear hn h hl
  go_enter Tryz.func7, Tryz.ntmps7
  go_wp2_with fail
  refine (unhide HW).mono ?_
  rintro e W1 ⟨rfl, hW1⟩
  obtain rfl : w = W1 := hW1.symm
  clear HW hW1
  go_wp2
  go_ret
  exact ⟨rfl, rfl⟩
set_option maxRecDepth 100000 in
set_option maxHeartbeats 4000000 in
theorem commit_err (w : World) (P : Pl) (l : List Fop) (i0 : Nat) (v : Value) (hs : ∀ x, x ∈ l → Small x) (h : ReadsOps w v l) (hl : 1 ≤ l.length ∧ l.length ≤ 8) (hbad : FirstBad l i0) :
    Calls Tryz.prog 7 #[.pointer (some ⟨P.b, P.o, none⟩), v] w fun e w' => ∃ u, e = .returned u ∧ AtErr w' 1 i0 u ∧ Below w.heap.size w w' := by
  have HW := hide (write_bad l i0 v w hs h hl hbad)
  clear hs h hl hbad
  go_enter Tryz.func7, Tryz.ntmps7
  go_wp2_with fail
  refine (unhide HW).mono ?_
  rintro e W1 ⟨u, rfl, hA, hB⟩
  have HA := hide hA
  have HB := hide hB
  obtain ⟨p, rfl, _⟩ := hA
  clear HW hB
  go_wp2
  go_ret
  exact ⟨_, rfl, unhide HA, unhide HB⟩
set_option maxRecDepth 100000 in
set_option maxHeartbeats 4000000 in
theorem commit_full {w : World} {P : Pl} {now known bd : Int} {S : Ky → Int → Int → ByteArray} {F : Nat → Prop} (h : PastW w P now known bd S F) (l : List Fop) (v : Value) (hs : ∀ x, x ∈ l → Small x) (hO : ReadsOps w v l) (hl : okL l) (ht : Tab w) (hn : 150 ≤ now) :
    Calls Tryz.prog 7 #[.pointer (some ⟨P.b, P.o, none⟩), v] w fun e w' => e = .returned (.iface 43 (.int .i64 12)) ∧ Below w.heap.size w w' := by
  have HW := hide (write_ok l v w hs hO hl ht)
  have HP := hide h
  clear h hO hl ht hs
  go_enter Tryz.func7, Tryz.ntmps7
  go_wp2_with fail
  refine (unhide HW).mono ?_
  rintro e W1 ⟨rfl, b1⟩
  obtain ⟨c0, c1⟩ := ((unhide HP).below b1).cells
  have HB := hide b1
  clear HW HP b1
  go_wp2
  go_ret
  exact ⟨rfl, unhide HB⟩
end Go.Proofs.YtfoojmflbifkpaaGreatDoor
