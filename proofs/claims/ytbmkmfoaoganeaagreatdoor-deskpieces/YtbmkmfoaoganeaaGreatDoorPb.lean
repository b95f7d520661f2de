/- Texts of one proof, one behind the other. -/
import Derived.Test.YtbmkmfoaoganeaaGreatDoorPa
import Derived.RangeFuncNested
import Derived.RangeFuncBound
import Derived.RangeFuncCalls
import Derived.RangeFuncLeaves
import Derived.RangeFuncFrom
import Derived.Shelf.Abstract
import Derived.Shelf.RegionOpen
import Derived.OwnWalkIn
import Derived.TacticsInMore
import Derived.LoopNIn
import Derived.LoopIn
import Derived.RangeFuncBox
set_option maxRecDepth 100000
set_option maxHeartbeats 16000000
namespace Go.Proofs.YtbmkmfoaoganeaaGreatDoor
open Go.RowKit Go.Shelf
attribute [local go_sem] Oper.semAt_some
def pieces (s : ByteArray) : List ByteArray := Lib.splitB ⟨#[43]⟩ 0 s.size s
abbrev Txt := { x : ByteArray // x.size <= 100000 }
def rawT (l : List Txt) : List ByteArray := l.map (·.1)
theorem rawT_snoc (l : List Txt) (x : Txt) : rawT (l ++ [x]) = rawT l ++ [x.1] := by simp [rawT]
theorem fact_changes (s : ByteArray) (w : World) : Calls Tryz.prog 137 #[.string s] w fun e w' => e = .returned (.func (.func 181) #[] #[.pointer (some ⟨w.heap.size, 0, none⟩)]) /\ w' = w.alloc (.cells #[.string s] 9) := by
 go_enter Tryz.func137, Tryz.ntmps137
 go_wp2
 go_ret
 exact ⟨rfl, rfl⟩
def leftOf (r m : Value) : Nat := (match r with | .string t => t.size | _ => 0) + (match m with | .bool true => 1 | _ => 0)
def Going (s : ByteArray) (mx : Int) (J : List Txt -> World -> Prop) (r m : Value) (x : World) : Prop :=
 x.cell? ⟨0, 0, none⟩ = some (.int .i64 mx) /\
 ((∃ (pre : List Txt) (t : ByteArray) (k : Nat), m = .bool true /\ r = .string t /\ pieces s = rawT pre ++ Lib.splitB ⟨#[43]⟩ 0 k t /\ t.size <= k /\ t.size <= s.size /\ J pre x) \/ (m = .bool false /\ (∃ t, r = .string t) /\ ∃ pre, rawT pre = pieces s /\ J pre x))
theorem cut_hit (t : ByteArray) (i : Nat) (w : World) (mx : Int) (ht : t.size <= 100000) (hm : w.cell? ⟨0, 0, none⟩ = some (.int .i64 mx)) (h : Lib.indexB t ⟨#[43]⟩ = i) :
  Calls Tryz.prog 31 #[.string t, .string ⟨#[43]⟩] w fun e w' => e = .returned (.tuple #[.string (t.extract 0 i), .string (t.extract (i + 1) t.size), .bool true]) /\ ∃ n, w' = w.drewN n := by
 obtain ⟨h1, h2, h3⟩ := Lib.cutB_hit t ⟨#[43]⟩ i h
 have := Tryz.strings_Cut t ⟨#[43]⟩ mx w (by omega) hm
 rw [h1, h2, h3] at this
 exact this
theorem cut_miss (t : ByteArray) (w : World) (mx : Int) (ht : t.size <= 100000) (hm : w.cell? ⟨0, 0, none⟩ = some (.int .i64 mx)) (h : Lib.indexB t ⟨#[43]⟩ = -1) :
  Calls Tryz.prog 31 #[.string t, .string ⟨#[43]⟩] w fun e w' => e = .returned (.tuple #[.string t, .string ByteArray.empty, .bool false]) /\ ∃ n, w' = w.drewN n := by
 obtain ⟨h1, h2, h3⟩ := Lib.cutB_miss t ⟨#[43]⟩ h
 have := Tryz.strings_Cut t ⟨#[43]⟩ mx w (by omega) hm
 rw [h1, h2, h3] at this
 exact this
theorem changes_stops (s : ByteArray) (n Bs n₀ : Nat) (mx : Int) (w : World) (hn : 1 <= n) (hs : s.size <= 100000) (hc : w.cell? ⟨Bs, 0, none⟩ = some (.string s)) (hm : w.cell? ⟨0, 0, none⟩ = some (.int .i64 mx)) (hg : 0 < n₀) :
  SeqStopsK Fence.wide n Tryz.prog 181 #[.pointer (some ⟨Bs, 0, none⟩)] (fun x : Txt => #[.string x.1]) (Below n₀) (fun xs => rawT xs = pieces s) (fun pre => rawT pre <+: pieces s) (pieces s).length w := fun l J Jx W hW hJ hJx hY h0 => by
 have hfC : Fence.wide.fn 31 := trivial
 have hcW := (hW.cell (lt_of_cell hc)).trans hc
 have hmW := (hW.cell (lt_of_cell hm)).trans hm
 refine callsIn_of_wp Tryz.func181 rfl trivial ?_ rfl
 simp only [Tryz.ntmps181, List.size_toArray, List.length_cons, List.length_nil, Nat.reduceAdd, Nat.reduceSub, Array.replicate_succ, Array.replicate_zero, List.push_toArray, List.append_toArray, List.nil_append, List.cons_append]
 gi_wp2
 gi_loopw [3, 4] (fun r m x => Going s mx J r m x) (fun r m _ => leftOf r m)
 case atStart => exact ⟨hmW, Or.inl ⟨[], s, s.size, rfl, rfl, rfl, Nat.le_refl _, Nat.le_refl _, h0⟩⟩
 case round =>
  obtain ⟨hmx, ⟨pre, t, k, rfl, rfl, hx, hk, hts, hJs⟩ | ⟨rfl, ⟨t, rfl⟩, pre, hpe, hJs⟩⟩ := hrel
  ·rcases Lib.indexB_cases t ⟨#[43]⟩ with hi | ⟨i, hi, hroom⟩
   ·have ht' : t.size <= 100000 := by omega
    have HC := zh (cut_miss t wr mx (by omega) hmx hi)
    have hxx : pieces s = rawT pre ++ [t] := by rw [hx, Lib.splitB_miss _ _ _ _ hi]
    have HXX := zh hxx
    have HJS := zh hJs
    have HMX := zh hmx
    clear hx hxx hJs hi hcW hmW h0 hmx
    have HY := zh hY
    have HJ := zh hJ
    clear hY hJ hJx hW hm hc
    gi_wp2_with (gi_at_call 31; refine (callsIn_wide.2 (uh HC)).mono ?_; rintro e w2 ⟨rfl, q, rfl⟩; refine Hid.out ?_)
    refine zh ?_
    have hJ2 := uh HJ pre wr (wr.drewN q) none (uh HJS) ⟨rfl, rfl, rfl, Nat.le_refl _, fun _ _ _ => rfl⟩ (fun r e => by cases e)
    have hm2 : (wr.drewN q).cell? ⟨0, 0, none⟩ = some (.int .i64 mx) := uh HMX
    generalize wr.drewN q = w2 at hJ2 hm2 ⊢
    obtain ⟨fn, tmps, assign, body, hy, hR⟩ := uh HY pre ⟨t, ht'⟩ w2 hJ2 (by rw [uh HXX]; simp [rawT])
    have HM2 := zh hm2
    clear HC HY HJ HJS hJ2 HMX hm2
    gi_wp2
    refine hR.mono ?_
    rintro e w3 (⟨rfl, hJ3, hk3⟩ | ⟨rfl, hJx3⟩)
    ·have hm3 := (hk3.cell (p := ⟨0, 0, none⟩) hg).trans (uh HM2)
     have H3 := zh (And.intro hm3 hJ3)
     clear hJ3 hk3 hm3 HM2 hR hy
     gi_wp2
     go_roundw
     case rel => exact ⟨(uh H3).1, Or.inr ⟨rfl, ⟨_, rfl⟩, pre ++ [⟨t, ht'⟩], by rw [uh HXX, rawT_snoc], (uh H3).2⟩⟩
     case measure => simp [leftOf]
    ·clear hR hy HM2
     gi_wp2
     refine bodyPost_ret (results_none rfl _ _ _) rfl ?_
     exact ⟨⟨_, rfl⟩, .inr ⟨pre ++ [⟨t, ht'⟩], ⟨[], by rw [uh HXX, rawT_snoc]; simp⟩, hJx3⟩⟩
   ·have hi1 : i + 1 <= t.size := hroom
    have HC := zh (cut_hit t i wr mx (by omega) hmx hi)
    have hk1 : ∃ k', k = k' + 1 := ⟨k - 1, by omega⟩
    obtain ⟨k', rfl⟩ := hk1
    have hxx : pieces s = rawT pre ++ t.extract 0 i :: Lib.splitB ⟨#[43]⟩ 0 k' (t.extract (i + 1) t.size) := by rw [hx, Lib.splitB_hit _ _ _ _ _ hi]; rfl
    have hz : (t.extract (i + 1) t.size).size = t.size - (i + 1) := by rw [ByteArray.size_extract]; omega
    have hy' : (t.extract 0 i).size <= 100000 := by rw [ByteArray.size_extract]; omega
    have HXX := zh hxx
    have HJS := zh hJs
    have HMX := zh hmx
    have HZ := zh hz
    clear hx hxx hJs hi hcW hmW h0 hmx hz hroom
    have HY := zh hY
    have HJ := zh hJ
    clear hY hJ hJx hW hm hc
    generalize t.extract 0 i = y at HC HXX hy'
    generalize t.extract (i + 1) t.size = t' at HC HXX HZ
    gi_wp2_with (gi_at_call 31; refine (callsIn_wide.2 (uh HC)).mono ?_; rintro e w2 ⟨rfl, q, rfl⟩; refine Hid.out ?_)
    refine zh ?_
    have hJ2 := uh HJ pre wr (wr.drewN q) none (uh HJS) ⟨rfl, rfl, rfl, Nat.le_refl _, fun _ _ _ => rfl⟩ (fun r e => by cases e)
    have hm2 : (wr.drewN q).cell? ⟨0, 0, none⟩ = some (.int .i64 mx) := uh HMX
    generalize wr.drewN q = w2 at hJ2 hm2 ⊢
    obtain ⟨fn, tmps, assign, body, hy, hR⟩ := uh HY pre ⟨y, hy'⟩ w2 hJ2 (by rw [uh HXX]; simp [rawT])
    have HM2 := zh hm2
    clear HC HY HJ HJS hJ2 HMX hm2
    gi_wp2
    refine hR.mono ?_
    rintro e w3 (⟨rfl, hJ3, hk3⟩ | ⟨rfl, hJx3⟩)
    ·have hm3 := (hk3.cell (p := ⟨0, 0, none⟩) hg).trans (uh HM2)
     have H3 := zh (And.intro hm3 hJ3)
     clear hJ3 hk3 hm3 HM2 hR hy
     gi_wp2
     go_roundw
     case rel => exact ⟨(uh H3).1, Or.inl ⟨pre ++ [⟨y, hy'⟩], t', k', rfl, rfl, by rw [uh HXX, rawT_snoc]; simp, by have := uh HZ; omega, by have := uh HZ; omega, (uh H3).2⟩⟩
     case measure => simp [leftOf]; have := uh HZ; omega
    ·clear hR hy HM2
     gi_wp2
     refine bodyPost_ret (results_none rfl _ _ _) rfl ?_
     exact ⟨⟨_, rfl⟩, .inr ⟨pre ++ [⟨y, hy'⟩], ⟨Lib.splitB ⟨#[43]⟩ 0 k' t', by rw [uh HXX, rawT_snoc]; simp⟩, hJx3⟩⟩
  ·gi_wp2
   go_end0
   exact ⟨⟨_, rfl⟩, .inl ⟨pre, hpe, hJs⟩⟩
def bytesT (l : List Txt) : List (List UInt8) := l.map (·.1.data.toList)
def Told (pre : List Txt) (L : List Fop) : Prop := ∀ qs : List Fop, (∀ q, q ∈ qs -> opB q = true) -> bytesT pre = qs.map opL -> L = qs
def NoneOf (pre : List Txt) : Prop := ∀ qs : List Fop, (∀ q, q ∈ qs -> opB q = true) -> qs.length <= 8 -> bytesT pre ≠ qs.map opL
theorem Told.nil : Told [] [] := fun qs _ h => by
 cases qs with
 | nil => rfl
 | cons q qs => simp [bytesT] at h
theorem Told.snoc {pre : List Txt} {L : List Fop} {x : Txt} {o : Fop} (h : Told pre L) (hx : ∀ q, opB q = true -> x.1.data.toList = opL q -> o = q) : Told (pre ++ [x]) (L ++ [o]) := fun qs hq he => by
 rcases List.eq_nil_or_concat qs with rfl | ⟨qs, q, rfl⟩
 ·simp [bytesT] at he
 ·unfold bytesT at he
  simp only [List.concat_eq_append, List.map_append, List.map_cons, List.map_nil] at he hq ⊢
  obtain ⟨h1, h2⟩ := List.append_inj' he rfl
  rw [h qs (fun q' hq' => hq q' (by simp [hq'])) h1, hx q (hq q (by simp)) (by simpa using h2)]
theorem none_long {pre : List Txt} {x : Txt} (h : pre.length = 8) : NoneOf (pre ++ [x]) := fun qs _ hl he => by
 have := congrArg List.length he
 simp [bytesT] at this
 omega
theorem none_bad {pre : List Txt} {x : Txt} (h : ∀ q, opB q = true -> x.1.data.toList ≠ opL q) : NoneOf (pre ++ [x]) := fun qs hq _ he => by
 rcases List.eq_nil_or_concat qs with rfl | ⟨qs, q, rfl⟩
 ·simp [bytesT] at he
 ·unfold bytesT at he
  simp only [List.concat_eq_append, List.map_append, List.map_cons, List.map_nil] at he hq
  obtain ⟨h1, h2⟩ := List.append_inj' he rfl
  exact h q (hq q (by simp)) (by simpa using h2)
theorem pieces_data (s : ByteArray) (q : List Fop) (h : okL q) (hs : s.data.toList = opsL q) : (pieces s).map (·.data.toList) = q.map opL := by
 unfold pieces
 rw [Lib.splitB_data, hs]
 refine wrs_cut q h _ ?_
 have h1 := wrs_length q
 rw [<- hs] at h1
 have h2 : s.data.toList.length = s.size := Array.length_toList
 omega
theorem bytes_raw (l : List Txt) : bytesT l = (rawT l).map (·.data.toList) := by simp [bytesT, rawT]
theorem told_end {pre : List Txt} {L : List Fop} {s : ByteArray} (h : Told pre L) (hp : rawT pre = pieces s) (q : List Fop) (hq : okL q) (hs : s.data.toList = opsL q) : L = q :=
 h q hq.2.2 (by rw [bytes_raw, hp, pieces_data s q hq hs])
theorem none_end {pre : List Txt} {s : ByteArray} (h : NoneOf pre) (hp : rawT pre <+: pieces s) (q : List Fop) (hq : okL q) : s.data.toList ≠ opsL q := fun hs => by
 obtain ⟨r, hr⟩ := hp
 have h1 := pieces_data s q hq hs
 rw [<- hr, List.map_append, <- bytes_raw] at h1
 have h2 := congrArg (List.take (bytesT pre).length) h1
 rw [List.take_left, <- List.map_take] at h2
 exact h _ (fun o ho => hq.2.2 o (List.mem_of_mem_take ho)) (Nat.le_trans (by simp; omega) hq.2.1) h2
def cellsL (L : List Fop) : List Value := L.flatMap opCells
theorem cellsL_snoc (L : List Fop) (o : Fop) : cellsL (L ++ [o]) = cellsL L ++ opCells o := by simp [cellsL]
theorem cellsL_at : ∀ (L : List Fop) (k : Nat) (hk : k < L.length) (j : Nat), j < 7 -> (cellsL L)[k * 7 + j]? = (opCells L[k])[j]?
 | o :: L, 0, hk, j, hj => by
   show (opCells o ++ cellsL L)[0 * 7 + j]? = _
   rw [List.getElem?_append_left (by simpa [opCells] using hj)]
   simp
 | o :: L, k + 1, hk, j, hj => by
   show (opCells o ++ cellsL L)[(k + 1) * 7 + j]? = _
   have e : (opCells o).length = 7 := rfl
   rw [List.getElem?_append_right (by omega), show (k + 1) * 7 + j - (opCells o).length = k * 7 + j by omega, cellsL_at L k (by simpa using hk) j hj]
   simp
theorem row_ops {w : World} {base : Nat} {v : Value} {L : List Fop} (h : w.ownsRow base 188 7 v L.length (cellsL L)) : ReadsOps w v L := by
 obtain ⟨_, h2⟩ := h
 rcases h2 with ⟨hv, h2⟩ | ⟨g, cap, cur, hv, hg, hh, h3, h4, h5, h6⟩
 ·exact ⟨none, 0, by rw [hv, h2], .inl (List.eq_nil_of_length_eq_zero h2)⟩
 ·refine ⟨_, cap, hv, .inr ⟨g, 0, rfl, ?_, fun k hk => ?_⟩⟩
  ·rcases Nat.lt_or_ge g w.heap.size with k | k
   ·exact k
   ·rw [Array.getElem?_eq_none k] at hh; cases hh
  ·have key : ∀ j, j < 7 -> w.cell? ⟨g, 0 + k * 7 + j, none⟩ = (opCells L[k])[j]? := fun j hj => by
    rw [<- cellsL_at L k hk j hj, <- h6, List.getElem?_take_of_lt (by omega)]
    unfold World.cell?
    simp only [hh, Nat.zero_add]
    rw [<- Array.getElem?_toList]
    rfl
   exact ⟨key 0 (by omega), key 1 (by omega), key 2 (by omega), key 3 (by omega), key 4 (by omega), key 5 (by omega), key 6 (by omega)⟩
def ReadSays (s : ByteArray) (w : World) (e : Ending) (w' : World) : Prop :=
  ((∃ (q : List Fop) (v : Value), okL q /\ s.data.toList = opsL q /\ e = .returned (.tuple #[v, .nilIface]) /\ w'.ownsRow w.heap.size 188 7 v q.length (cellsL q)) \/
   ((∀ q, okL q -> s.data.toList ≠ opsL q) /\ e = .returned (.tuple #[.slice none 0 0, .iface 25 (.int .i64 3)]))) /\ Below w.heap.size w w'
def RdBox (w : World) (pre : List Txt) (W : World) : Prop :=
 ∃ (L : List Fop) (v : Value), Boxed W (w.heap.size + 1 + 1) 68 v /\ W.ownsRow w.heap.size 188 7 v L.length (cellsL L) /\ L.length = pre.length /\ L.length <= 8 /\ (∀ x, x ∈ L -> Small x) /\ Told pre L
theorem rdBox_own (w : World) : Own (fun pre W => RdBox w pre W) := by
 rintro pre X Y row ⟨L, v, hv, hr, hG⟩ hg hrow
 obtain ⟨u, hu, hur, hux⟩ := holdsRow_own (β := Unit) w.heap.size (w.heap.size + 1 + 1) 68 188 7 (fun _ => L.length) (fun _ => cellsL L) (fun _ u => u = v) () X Y row ⟨v, hv, hr, rfl⟩ hg hrow
 exact ⟨L, u, hu, hur, hG⟩
def RdI (w : World) (pre : List Txt) (W : World) : Prop :=
 (Boxed W w.heap.size 68 (.slice none 0 0) /\ Boxed W (w.heap.size + 1) 36 .nilIface /\ RdBox w pre W) /\ Below w.heap.size w W
def RdX (w : World) (c : Code) (pre : List Txt) (W : World) : Prop :=
 (c = .ret /\ Boxed W w.heap.size 68 (.slice none 0 0) /\ Boxed W (w.heap.size + 1) 36 (.iface 25 (.int .i64 3)) /\ NoneOf pre) /\ Below w.heap.size w W
theorem boxed_own {W W' : World} {row : Option Nat} {B : Nat} {t : TypeId} {v : Value} (h : Boxed W B t v) (hg : W.grownBy W' row) (hr : ∀ r, row = some r -> ∃ o : Obj, W.heap[r]? = some o /\ o.isCells = false) : Boxed W' B t v := by
 refine h.kept hg (fun e => ?_)
 obtain ⟨o, ho, hc⟩ := hr B e.symm
 rw [show W.heap[B]? = _ from h] at ho
 cases ho
 cases hc
theorem rdI_own (w : World) (B : Nat) (hB : w.heap.size <= B) : OwnFrom B (fun pre W => RdI w pre W) :=
 OwnFrom.and (Own.from (fun s A A' row hs hg hr => ⟨boxed_own hs.1 hg hr, boxed_own hs.2.1 hg hr, rdBox_own w s A A' row hs.2.2 hg hr⟩) _) (ownFrom_below zr hB)
theorem rdX_own (w : World) (B : Nat) (hB : w.heap.size <= B) (c : Code) : OwnFrom B (fun pre W => RdX w c pre W) :=
 OwnFrom.and (Own.from (fun _ _ _ _ hs hg hr => ⟨hs.1, boxed_own hs.2.1 hg hr, boxed_own hs.2.2.1 hg hr, hs.2.2.2⟩) _) (ownFrom_below zr hB)
theorem Boxed.carry {W W' : World} {B : Nat} {t : TypeId} {v : Value} (h : Boxed W B t v) (hb : Below W.heap.size W W') : Boxed W' B t v := (hb.block B h.lt).trans h
theorem RdI.carry {w : World} {pre : List Txt} {W W' : World} (h : RdI w pre W) (hb : Below W.heap.size W W') : RdI w pre W' := by
 obtain ⟨⟨h0, h1, L, v, hv, hr, hG⟩, hB⟩ := h
 exact ⟨⟨Boxed.carry h0 hb, Boxed.carry h1 hb, L, v, Boxed.carry hv hb, ownsRow_carry hr hb, hG⟩, hB.trans (hb.mono hB.size)⟩
theorem RdI.stop {w : World} {pre pre' : List Txt} {W : World} (h : RdI w pre W) (hn : NoneOf pre') :
  RdX w .ret pre' ((W.setCell ⟨w.heap.size, 0, none⟩ (.slice none 0 0)).setCell ⟨w.heap.size + 1, 0, none⟩ (.iface 25 (.int .i64 3))) := by
 obtain ⟨⟨h0, h1, _⟩, hB⟩ := h
 refine ⟨⟨rfl, ?_, ?_, hn⟩, (hB.setCell (p := ⟨w.heap.size, 0, none⟩) zr _).setCell (p := ⟨w.heap.size + 1, 0, none⟩) (by simp) _⟩
 ·exact (Boxed.set _ h0).kept (grownBy_setCell' _ _ _) (by simp)
 ·exact Boxed.set _ (h1.kept (grownBy_setCell' _ _ _) (by simp))
theorem info_op : (Tryz.prog.info? 188).map (fun i => (i.zero, i.size, i.bytes)) = some (some (opV zeroOp), 7, 72) := by kernel_rfl
theorem wpListIn_appO {F : Fence} {n : Nat} (w : World) {ops : Array Oper} {rest : List Oper} {o : Oper} {a : Act} {Q : Exit -> Act -> World -> Prop} (hgd : o.guard = none) (s x : Operand)
  (ho : o.op = .call { callee := .builtin .append, args := #[s, x], argTypes := #[68, 68] })
  (base : Nat) (v : Value) (L : List Fop) (hs : a.eval s = v) (hown : w.ownsRow base 188 7 v L.length (cellsL L))
  (b : Nat) (y : Fop) (hx : a.eval x = .slice (some ⟨b, 0, none⟩) 1 1) (hc0 : ∀ j u, (opCells y)[j]? = some u -> w.cell? ⟨b, j, none⟩ = some u)
  (hlen : L.length <= 1000) (hbase : base <= w.heap.size)
  (h : ∀ v' w', w'.ownsRow base 188 7 v' (L ++ [y]).length (cellsL (L ++ [y])) -> w.grownBy w' v.ownBlock -> wpListIn F n Tryz.prog ops Q rest (a.put o.dst v') w') : wpListIn F n Tryz.prog ops Q (o :: rest) a w := by
 obtain ⟨i0, hi0, hz0, hz1, hz2⟩ := info_parts info_op
 refine wpListIn_append_own w hgd s x 68 ho base 188 i0 (opV zeroOp) 7 72 Tryz.underlying68 hi0 hz0 hz1 hz2 rfl (by decide) v L.length (cellsL L) hs hown ⟨b, 0, none⟩ 1 1 (opCells y) hx rfl ?_ ?_ ?_ ?_ hbase ?_
 ·intro j u hj
  have := hc0 j u hj
  unfold Addr.add
  split
  ·rename_i e; rw [e] at this; exact this
  ·simpa using this
 ·intro u hu
  simp [opCells] at hu
  rcases hu with rfl | rfl | rfl | rfl | rfl | rfl | rfl <;> rfl
 ·unfold maxLen; omega
 ·omega
 ·intro v' w' k1 k2 _
  refine h v' w' ?_ k2
  rw [cellsL_snoc]
  simpa using k1
attribute [local go_sem] Oper.semAt_some
def WroteAny (L : List Fop) (w : World) (e : Ending) (w' : World) : Prop :=
 ∃ t u, e = .returned (.tuple #[.string t, u]) /\ ((okL L /\ t = ⟨(opsL L).toArray⟩ /\ u = .nilIface) \/ (¬ okL L /\ (u = .iface 25 (.int .i64 4) \/ ∃ b, u = .iface 190 (.pointer (some ⟨b, 0, none⟩))))) /\ Below w.heap.size w w'
theorem write_any (L : List Fop) (v : Value) (w : World) (hn : L.length <= 1000) (hs : ∀ x, x ∈ L -> Small x) (h : ReadsOps w v L) (ht : Tab w) : Calls Tryz.prog 91 #[v] w (WroteAny L w) := by
 by_cases hl : 1 <= L.length /\ L.length <= 8
 ·rcases first_bad L with hok | ⟨i, hi⟩
  ·refine (write_ok L v w hs h ⟨hl.1, hl.2, hok⟩ ht).mono ?_
   rintro e w' ⟨rfl, hb⟩
   exact ⟨_, _, rfl, .inl ⟨⟨hl.1, hl.2, hok⟩, rfl, rfl⟩, hb⟩
  ·refine (write_bad L i v w hs h hl hi).mono ?_
   rintro e w' ⟨u, rfl, ⟨b, rfl, _⟩, hb⟩
   refine ⟨_, _, rfl, .inr ⟨fun k => ?_, .inr ⟨b, rfl⟩⟩, hb⟩
   obtain ⟨h1, h2, _⟩ := hi
   rw [k.2.2 _ (List.getElem_mem h1)] at h2
   cases h2
 ·refine (write_limit L v w (by omega) h hl).mono ?_
  rintro e w' ⟨rfl, rfl⟩
  exact ⟨_, _, rfl, .inr ⟨fun k => hl ⟨k.1, k.2.1⟩, .inl rfl⟩, Below.refl _ _⟩
theorem read_fails {pre : List Txt} (s : ByteArray) (w W : World) (D : Nat) (hD : w.heap.size <= D) (hI : RdI w pre W) (hK : W.heap[D]? = some (.deferred (some []))) (hn : ∀ q, okL q -> s.data.toList ≠ opsL q) (a : Act) (ha2 : a.tmps[2]? = some (.pointer (some ⟨w.heap.size, 0, none⟩))) (ha3 : a.tmps[3]? = some (.pointer (some ⟨w.heap.size + 1, 0, none⟩))) :
  bodyPostM Fence.wide 6 Tryz.prog Tryz.f94 (ReadSays s w) .ret { tmps := a.tmps, defers := [{ target := .collected D, args := #[] }] } ((W.setCell ⟨w.heap.size, 0, none⟩ (.slice none 0 0)).setCell ⟨w.heap.size + 1, 0, none⟩ (.iface 25 (.int .i64 3))) := by
 obtain ⟨⟨h0, h1, _⟩, hB⟩ := hI
 have hB2 := (hB.setCell (p := ⟨w.heap.size, 0, none⟩) zr (.slice none 0 0)).setCell (p := ⟨w.heap.size + 1, 0, none⟩) (by simp) (.iface 25 (.int .i64 3))
 have k0 : Boxed ((W.setCell ⟨w.heap.size, 0, none⟩ (.slice none 0 0)).setCell ⟨w.heap.size + 1, 0, none⟩ (.iface 25 (.int .i64 3))) w.heap.size 68 (.slice none 0 0) := (Boxed.set _ h0).kept (grownBy_setCell' _ _ _) (by simp)
 have k1 : Boxed ((W.setCell ⟨w.heap.size, 0, none⟩ (.slice none 0 0)).setCell ⟨w.heap.size + 1, 0, none⟩ (.iface 25 (.int .i64 3))) (w.heap.size + 1) 36 (.iface 25 (.int .i64 3)) := Boxed.set _ (h1.kept (grownBy_setCell' _ _ _) (by simp))
 have hK2 := ((KeepsOthers.setCell W ⟨w.heap.size, 0, none⟩ (.slice none 0 0)).trans (KeepsOthers.setCell _ ⟨w.heap.size + 1, 0, none⟩ (.iface 25 (.int .i64 3)))).same D _ hK rfl
 generalize ((W.setCell ⟨w.heap.size, 0, none⟩ (.slice none 0 0)).setCell ⟨w.heap.size + 1, 0, none⟩ (.iface 25 (.int .i64 3))) = W2 at k0 k1 hK2 hB2 ⊢
 have hc0 := cell_kept k0.cell (grownBy_putObj' _ D (.deferred none)) (fun r e => by cases e; exact ⟨_, hK2, rfl⟩)
 have hc1 := cell_kept k1.cell (grownBy_putObj' _ D (.deferred none)) (fun r e => by cases e; exact ⟨_, hK2, rfl⟩)
 refine ⟨by simp, .inl ⟨_, _, rfl, run_takeDeferred hK2, ?_⟩⟩
 refine ⟨.tuple #[.slice none 0 0, .iface 25 (.int .i64 3)], ?_, .inr ⟨hn, rfl⟩, hB2.trans (belowK_b (w := w) zr W2 D _ _ hD hK2 rfl rfl)⟩
 simp [results, Tryz.f94, go_sem, hc0, hc1, ha2, ha3]
theorem read_good {pre : List Txt} (s : ByteArray) (w W : World) (D : Nat) (hD : w.heap.size <= D) (hI : RdI w pre W) (hK : W.heap[D]? = some (.deferred (some []))) (L : List Fop) (v : Value) (hv : ∃ ad cap, v = .slice ad L.length cap) (hL : okL L) (hs : s.data.toList = opsL L) (hR : W.ownsRow w.heap.size 188 7 v L.length (cellsL L)) (a : Act) (ha2 : a.tmps[2]? = some (.pointer (some ⟨w.heap.size, 0, none⟩))) (ha3 : a.tmps[3]? = some (.pointer (some ⟨w.heap.size + 1, 0, none⟩))) :
  bodyPostM Fence.wide 6 Tryz.prog Tryz.f94 (ReadSays s w) .ret { tmps := a.tmps, defers := [{ target := .collected D, args := #[] }] } ((W.setCell ⟨w.heap.size, 0, none⟩ v).setCell ⟨w.heap.size + 1, 0, none⟩ .nilIface) := by
 obtain ⟨⟨h0, h1, _⟩, hB⟩ := hI
 have hB2 := (hB.setCell (p := ⟨w.heap.size, 0, none⟩) zr v).setCell (p := ⟨w.heap.size + 1, 0, none⟩) (by simp) .nilIface
 have k0 : Boxed ((W.setCell ⟨w.heap.size, 0, none⟩ v).setCell ⟨w.heap.size + 1, 0, none⟩ .nilIface) w.heap.size 68 v := (Boxed.set _ h0).kept (grownBy_setCell' _ _ _) (by simp)
 have k1 : Boxed ((W.setCell ⟨w.heap.size, 0, none⟩ v).setCell ⟨w.heap.size + 1, 0, none⟩ .nilIface) (w.heap.size + 1) 36 .nilIface := Boxed.set _ (h1.kept (grownBy_setCell' _ _ _) (by simp))
 have hK2 := ((KeepsOthers.setCell W ⟨w.heap.size, 0, none⟩ v).trans (KeepsOthers.setCell _ ⟨w.heap.size + 1, 0, none⟩ .nilIface)).same D _ hK rfl
 have r1 := hR.kept (grownBy_setCell' W w.heap.size v) (.inr (h0.not_row (by decide) hR).symm)
 have r2 := r1.kept (grownBy_setCell' _ (w.heap.size + 1) .nilIface) (.inr ((h1.kept (grownBy_setCell' W w.heap.size v) (by simp)).not_row (by decide) r1).symm)
 generalize ((W.setCell ⟨w.heap.size, 0, none⟩ v).setCell ⟨w.heap.size + 1, 0, none⟩ .nilIface) = W2 at k0 k1 hK2 hB2 r2 ⊢
 have hc0 := cell_kept k0.cell (grownBy_putObj' _ D (.deferred none)) (fun r e => by cases e; exact ⟨_, hK2, rfl⟩)
 have hc1 := cell_kept k1.cell (grownBy_putObj' _ D (.deferred none)) (fun r e => by cases e; exact ⟨_, hK2, rfl⟩)
 refine ⟨by simp, .inl ⟨_, _, rfl, run_takeDeferred hK2, ?_⟩⟩
 refine ⟨.tuple #[v, .nilIface], ?_, .inl ⟨L, v, hL, hs, rfl, ownsRow_putObj r2 _ hK2 rfl⟩, hB2.trans (belowK_b (w := w) zr W2 D _ _ hD hK2 rfl rfl)⟩
 obtain ⟨ad, cap, rfl⟩ := hv
 simp [results, Tryz.f94, go_sem, hc0, hc1, ha2, ha3]
theorem alloc_op (w : World) (o : Fop) (j : Nat) (u : Value) (h : (opCells o)[j]? = some u) : (w.alloc (.cells #[.int .i64 o.kind, .int .i64 o.a, .string o.word, .int .i64 o.b, .int .i64 o.lo, .int .i64 o.hi, .string o.value] 188)).cell? ⟨w.heap.size, j, none⟩ = some u := by
 rcases j with _ | _ | _ | _ | _ | _ | _ | j
 all_goals (simp [opCells] at h)
 all_goals (subst h; simp [go_sem])
theorem fact_Read (s : ByteArray) (w : World) (hs : s.size <= 100000) (hl : Libs w) (ht : Tab w) :
  Calls Tryz.prog 94 #[.string s] w (ReadSays s w) := by
 have HC := zh (fun W => fact_changes s W)
 refine (callsIn_wide (n := 6)).1 ?_
 have hfC : Fence.wide.fn 137 := trivial
 obtain ⟨⟨mx, hmx⟩, _⟩ := id hl
 refine callsIn_of_wp_marks Tryz.func94 rfl trivial ?_ rfl
 simp only [Tryz.ntmps94, List.size_toArray, List.length_cons, List.length_nil, Nat.reduceAdd, Nat.reduceSub, Array.replicate_succ, Array.replicate_zero, List.push_toArray, List.append_toArray, List.nil_append, List.cons_append]
 gi_wp2_with (gi_at_call 137; refine (callsIn_wide.2 (uh HC _)).mono ?_; rintro e w2 ⟨rfl, rfl⟩)
 have b0 := Boxed.new w 68 (.slice none 0 0)
 have b1 := Boxed.new (w.alloc (.cells #[.slice none 0 0] 68)) 36 .nilIface
 have b2 := Boxed.new ((w.alloc (.cells #[.slice none 0 0] 68)).alloc (.cells #[.nilIface] 36)) 68 (.slice none 0 0)
 have b3 := Boxed.new (((w.alloc (.cells #[.slice none 0 0] 68)).alloc (.cells #[.nilIface] 36)).alloc (.cells #[.slice none 0 0] 68)) 9 (.string s)
 simp only [World.size_alloc] at b1 b2 b3
 have hB0 : Below w.heap.size w ((((w.alloc (.cells #[.slice none 0 0] 68)).alloc (.cells #[.nilIface] 36)).alloc (.cells #[.slice none 0 0] 68)).alloc (.cells #[.string s] 9)) := ((((Below.refl _ w).alloc zr _).alloc (by simp) _).alloc (by simp; omega) _).alloc (by simp; omega) _
 have hI0 : RdI w [] ((((w.alloc (.cells #[.slice none 0 0] 68)).alloc (.cells #[.nilIface] 36)).alloc (.cells #[.slice none 0 0] 68)).alloc (.cells #[.string s] 9)) :=
  ⟨⟨((b0.alloc _).alloc _).alloc _, (b1.alloc _).alloc _, [], .slice none 0 0, b2.alloc _, ⟨rfl, .inl ⟨rfl, rfl⟩⟩, rfl, by simp, by simp, Told.nil⟩, hB0⟩
 have hsz : ((((w.alloc (.cells #[.slice none 0 0] 68)).alloc (.cells #[.nilIface] 36)).alloc (.cells #[.slice none 0 0] 68)).alloc (.cells #[.string s] 9)).heap.size = w.heap.size + 1 + 1 + 1 + 1 := by simp
 have hb3c := b3.cell
 clear b0 b1 b2 b3
 have HI0 := zh hI0
 have HB0 := zh hB0
 clear hI0 hB0
 generalize hW4 : ((((w.alloc (.cells #[.slice none 0 0] 68)).alloc (.cells #[.nilIface] 36)).alloc (.cells #[.slice none 0 0] 68)).alloc (.cells #[.string s] 9)) = w4 at HI0 HB0 hsz hb3c ⊢
 have hgl : 0 < w.heap.size := lt_of_cell hmx
 refine wpIn_rangeFunc_ownF rfl (by decide) (gf := 181) (lb := #[.pointer (some ⟨w.heap.size + 1 + 1 + 1, 0, none⟩)]) rfl trivial (enters_of Tryz.func181 (by kernel_rfl) rfl)
  (changes_stops s 5 (w.heap.size + 1 + 1 + 1) w.heap.size mx w4 (by decide) hs hb3c (((uh HB0).cell (p := ⟨0, 0, none⟩) hgl).trans hmx) hgl) belowK_t (belowK_b (by omega)) (Below.refl _ _) (fun _ => rfl)
  (RdI w) (RdX w) (rdI_own w _ (by omega)) (fun c => rdX_own w _ (by omega) c) (uh HI0)
  (fun x => { tmps := #[.string s, undef, .pointer (some ⟨w.heap.size, 0, none⟩), .pointer (some ⟨w.heap.size + 1, 0, none⟩), .pointer (some ⟨w.heap.size + 1 + 1, 0, none⟩), .string x.1, undef, undef, undef, undef, .string s, .func (.func 181) #[] #[.pointer (some ⟨w.heap.size + 1 + 1 + 1, 0, none⟩)], .string x.1, undef, undef, undef, undef, undef, undef, undef, undef, undef, undef, undef, undef, undef, undef, undef, undef, undef, undef, undef, undef, undef, undef, undef, undef, undef, undef, undef, undef, undef, undef, undef], defers := [] }) ?assign ?body ?done ?stop
 case assign =>
  intro l x W K hK
  gi_wp2
  exact hK
 case body =>
  rintro l pre x W hI _
  have HI := zh hI
  have hlW := hl.carry hI.2
  have HR := zh (fact_read x.1 W x.2 hlW)
  clear hI HI0 HB0 hW4 hb3c hlW HC hl ht
  have hfR : Fence.wide.fn 138 := trivial
  gi_wp2_with (gi_at_call 138; refine (CallsIn.inRound l (callsIn_wide.2 (uh HR))).mono ?_; rintro e w2 ⟨o, ok, rfl, hsm, hq, hb⟩; refine Hid.out ?_)
  refine zh ?_
  have hI2 := (uh HI).carry hb
  have hK2 : KeepsOthers W w2 := KeepsOthers.of_grownBy (row := none) ⟨hb.os, hb.tape, hb.output, hb.size, fun k hk _ => hb.block k hk⟩ (fun j o ej _ => by cases ej)
  have HQ := zh hq
  have HSO : Hid (Small o) := zh ⟨by unfold maxLen; have := hsm.1; have := x.2; omega, by unfold maxLen; have := hsm.2; have := x.2; omega⟩
  have hWs : w.heap.size <= W.heap.size := (uh HI).2.size
  have HB := zh hb
  clear HR HI hq hb hsm
  rename_i K1 hK1 K0 hK0
  have HK1 := zh hK1
  clear hK1
  unfold opV opCells
  gi_wp2
  have hcs := alloc_op w2 o
  have c0 := hcs 0 _ rfl
  have c1 := hcs 1 _ rfl
  have c2 := hcs 2 _ rfl
  have c3 := hcs 3 _ rfl
  have c4 := hcs 4 _ rfl
  have c5 := hcs 5 _ rfl
  have c6 := hcs 6 _ rfl
  have hb3 := (Below.refl w2.heap.size w2).alloc zr (.cells #[.int .i64 o.kind, .int .i64 o.a, .string o.word, .int .i64 o.b, .int .i64 o.lo, .int .i64 o.hi, .string o.value] 188)
  have hk3 := hK2.trans (KeepsOthers.alloc w2 (.cells #[.int .i64 o.kind, .int .i64 o.a, .string o.word, .int .i64 o.b, .int .i64 o.lo, .int .i64 o.hi, .string o.value] 188))
  generalize w2.alloc (.cells #[.int .i64 o.kind, .int .i64 o.a, .string o.word, .int .i64 o.b, .int .i64 o.lo, .int .i64 o.hi, .string o.value] 188) = w3 at c0 c1 c2 c3 c4 c5 c6 hb3 hk3 ⊢
  have hI3 := hI2.carry hb3
  have HBW := zh ((uh HB).trans (hb3.mono (uh HB).size) : Below W.heap.size W w3)
  have HK3 := zh hk3
  clear hI2 hK2 HB hb3 hk3 hcs
  generalize w2.heap.size = B at c0 c1 c2 c3 c4 c5 c6 ⊢
  have HI3 := zh hI3
  obtain ⟨⟨h0, h1, L, v, hv, hrow, hLp, hL8, hLs, hT⟩, hBw⟩ := hI3
  obtain ⟨ad, cap, rfl⟩ := row_slice hrow
  have d0 := h0.cell
  have d0f := h0.frozen
  have d1 := h1.cell
  have d1f := h1.frozen
  have d2 := hv.cell
  cases ok with
  | false =>
   have hn : NoneOf (pre ++ [x]) := none_bad (fun q hq e => by cases (uh HQ q hq e).1)
   have HN := zh hn
   clear hn hrow hLs hT hv h0 h1 hBw c0 c1 c2 c3 c4 c5 c6 d2
   refine uh HK1 _ _ ?_
   clear HK1
   gi_wp2
   exact ⟨(uh HK3).trans ((KeepsOthers.setCell _ _ _).trans (KeepsOthers.setCell _ _ _)), (uh HI3).stop (uh HN)⟩
  | true =>
   by_cases h8 : L.length = 8
   ·have hn : NoneOf (pre ++ [x]) := none_long (by omega)
    have HN := zh hn
    rw [h8] at d2
    clear hn hrow hLs hT hv h0 h1 hBw c0 c1 c2 c3 c4 c5 c6 hLp hL8 h8
    refine uh HK1 _ _ ?_
    clear HK1
    gi_wp2
    exact ⟨(uh HK3).trans ((KeepsOthers.setCell _ _ _).trans (KeepsOthers.setCell _ _ _)), (uh HI3).stop (uh HN)⟩
   ·have hq : ∀ q, opB q = true -> x.1.data.toList = opL q -> o = q := fun q h e => (uh HQ q h e).2
    have HT := zh (hT.snoc hq)
    have HLS := zh hLs
    have HSZ := zh (hBw.size)
    have HR := zh hrow
    have HV := zh hv
    have H0 := zh h0
    have H1 := zh h1
    have HBw := zh hBw
    have h8' : ((L.length : Int) == 8) = false := by simp; omega
    have HLP := zh hLp
    clear hrow hLs hT hv h0 h1 hBw hq hLp
    refine uh HK1 _ _ ?_
    clear HK1
    gi_wp2_with (refine wpListIn_appO _ rfl _ _ rfl w.heap.size (.slice ad L.length cap) L rfl ((uh HR).alloc _) w3.heap.size o rfl (alloc_op w3 o) (by omega) (by have := uh HSZ; simp; omega) ?_; intro v' w5 hown' hgrow; refine Hid.out ?_)
    refine zh ?_
    have hszw := uh HSZ
    obtain ⟨e1, e2, e3, e4, e5⟩ := (uh HV).appended (by decide) (uh HR) hszw (by omega) hown' hgrow
    have k0 : Boxed (w5.setCell ⟨w.heap.size + 1 + 1, 0, none⟩ v') w.heap.size 68 (.slice none 0 0) := (((uh H0).alloc _).kept hgrow ((uh H0).not_row (by decide) (uh HR))).kept (grownBy_setCell' _ _ _) (by simp; omega)
    have k1 : Boxed (w5.setCell ⟨w.heap.size + 1 + 1, 0, none⟩ v') (w.heap.size + 1) 36 .nilIface := (((uh H1).alloc _).kept hgrow ((uh H1).not_row (by decide) (uh HR))).kept (grownBy_setCell' _ _ _) (by simp)
    obtain ⟨g, cap', hv'⟩ := ownsRow_succ (k := L.length) (by simpa using hown')
    have hfin : ownPostK (Below w.heap.size) (RdI w) (RdX w) (pre ++ [x]) W .normal ⟨#[], []⟩ (w5.setCell ⟨w.heap.size + 1 + 1, 0, none⟩ v') :=
     ⟨(uh HK3).trans e4, ((uh HBW).mono hWs).trans e5, ⟨k0, k1, L ++ [o], v', e2, e3, by have := uh HLP; simp; omega, by simp; omega, fun y hy => (List.mem_append.1 hy).elim (uh HLS y) (fun e => by simp at e; subst e; exact uh HSO), uh HT⟩, (uh HBw).trans e5⟩
    have HF := zh hfin
    have r1 := e1.cell
    have r2 := e1.frozen
    subst hv'
    clear hfin k0 k1 e1 e2 e3 e4 e5 hown' hgrow HBw H0 H1 HV HR HT HLS HI3 HK3
    gi_wp2
    exact uh HF
 case done =>
  rintro D ys W hD hys hI hK
  have hDlt : D < W.heap.size := (Array.getElem?_eq_some_iff.1 hK).1
  have htW := ht.carry hI.2
  have HI := zh hI
  obtain ⟨⟨h0, h1, L, v, hv, hrow, hLp, hL8, hLs, hT⟩, hBw⟩ := hI
  have HE := zh (told_end hT hys)
  have d2 := hv.cell
  have HW := zh (write_any L v W (by omega) hLs (row_ops hrow) htW)
  have HR := zh hrow
  have HV := zh hv
  have HK := zh hK
  obtain ⟨ad, cap, rfl⟩ := row_slice hrow
  clear htW h0 h1 hv hrow hLp hL8 hLs hT hBw hK HI0 HB0 hW4 hb3c HC hl ht hys
  have hfW : Fence.wide.fn 91 := trivial
  gi_wp2_with (gi_at_call 91; refine (callsIn_wide.2 (uh HW)).mono ?_; rintro e w6 ⟨t, u, rfl, hcase, hb⟩; refine Hid.out ?_)
  refine zh ?_
  have hI6 := (uh HI).carry hb
  have hK6 := (hb.block D hDlt).trans (uh HK)
  have hR6 := ownsRow_carry (uh HR) hb
  have hV6 := Boxed.carry (uh HV) hb
  clear HW HI HK HR HV hb d2
  have hDb : w.heap.size <= D := by omega
  have HX := zh (fun hn => read_fails (pre := ys) s w w6 D hDb hI6 hK6 hn)
  have HI6 := zh hI6
  have HK6 := zh hK6
  obtain ⟨⟨h0, h1, _⟩, _⟩ := hI6
  have d0 := h0.cell
  have d0f := h0.frozen
  have d1 := h1.cell
  have d1f := h1.frozen
  have d2 := hV6.cell
  have HR6 := zh hR6
  clear h0 h1 hV6 hR6 hK6
  rcases hcase with ⟨hok, rfl, rfl⟩ | ⟨hno, rfl | ⟨b, rfl⟩⟩
  ·by_cases hst : (⟨(opsL L).toArray⟩ : ByteArray) = s
   ·have hsd : s.data.toList = opsL L := by rw [<- hst]
    have HN := zh (read_good (pre := ys) s w w6 D hDb (uh HI6) (uh HK6) L (.slice ad L.length cap) ⟨_, _, rfl⟩ hok hsd (uh HR6))
    clear HX HE hok hsd
    rw [hst]
    clear hst
    gi_wp2
    exact uh HN ⟨_, []⟩ rfl rfl
   ·have hbe : ((⟨(opsL L).toArray⟩ : ByteArray).toList == s.toList) = false := by
     rw [beq_eq_false_iff_ne, ByteArray.toList_eq, ByteArray.toList_eq]
     exact fun e => hst (by rw [show (opsL L).toArray = s.data from Array.toList_inj.1 e])
    have HN := zh (uh HX (fun q hq e => hst (by rw [uh HE q hq e, <- e])))
    clear HX HE hok hst
    generalize (⟨(opsL L).toArray⟩ : ByteArray) = t at hbe ⊢
    gi_wp2
    exact uh HN ⟨_, []⟩ rfl rfl
  ·have HN := zh (uh HX (fun q hq e => hno (by rw [uh HE q hq e]; exact hq)))
   clear HX HE hno
   gi_wp2
   exact uh HN ⟨_, []⟩ rfl rfl
  ·have HN := zh (uh HX (fun q hq e => hno (by rw [uh HE q hq e]; exact hq)))
   clear HX HE hno
   gi_wp2
   exact uh HN ⟨_, []⟩ rfl rfl
 case stop =>
  rintro D c pre W hD hpre ⟨⟨rfl, h0, h1, hn⟩, hB⟩ hK
  have c0 := h0.cell
  have c1 := h1.cell
  gi_wp2
  refine ⟨by simp, .inl ⟨_, _, rfl, run_takeDeferred hK, ?_⟩⟩
  have hc0 := cell_kept c0 (grownBy_putObj' _ D (.deferred none)) (fun r e => by cases e; exact ⟨_, hK, rfl⟩)
  have hc1 := cell_kept c1 (grownBy_putObj' _ D (.deferred none)) (fun r e => by cases e; exact ⟨_, hK, rfl⟩)
  refine ⟨.tuple #[.slice none 0 0, .iface 25 (.int .i64 3)], ?_, .inr ⟨none_end hn hpre, rfl⟩, hB.trans (belowK_b (w := w) zr W D _ _ (by omega) hK rfl rfl)⟩
  simp [results, Tryz.f94, go_sem, hc0, hc1]
end Go.Proofs.YtbmkmfoaoganeaaGreatDoor
