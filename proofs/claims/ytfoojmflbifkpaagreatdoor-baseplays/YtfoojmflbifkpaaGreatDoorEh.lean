/- Texts of one proof, one behind the other. -/
import Derived.Test.YtfoojmflbifkpaaGreatDoorEg
set_option maxRecDepth 100000
set_option maxHeartbeats 16000000
namespace Go.Proofs.YtfoojmflbifkpaaGreatDoor
open Go.RowKit
def OpsAt (w : World) (b off : Nat) (l : List Fop) : Prop :=
 b < w.heap.size /\ ∀ k, (hk : k < l.length) -> (w.cell? ⟨b, off + k * 7, none⟩ = some (.int .i64 l[k].kind) /\ w.cell? ⟨b, off + k * 7 + 1, none⟩ = some (.int .i64 l[k].a) /\ w.cell? ⟨b, off + k * 7 + 2, none⟩ = some (.string l[k].word) /\ w.cell? ⟨b, off + k * 7 + 3, none⟩ = some (.int .i64 l[k].b) /\
  w.cell? ⟨b, off + k * 7 + 4, none⟩ = some (.int .i64 l[k].lo) /\ w.cell? ⟨b, off + k * 7 + 5, none⟩ = some (.int .i64 l[k].hi) /\ w.cell? ⟨b, off + k * 7 + 6, none⟩ = some (.string l[k].value))
theorem OpsAt.carry {w w' : World} {b off : Nat} {l : List Fop} (h : OpsAt w b off l) (hb : Below w.heap.size w w') : OpsAt w' b off l := by
 obtain ⟨h1, h2⟩ := h
 refine ⟨Nat.lt_of_lt_of_le h1 hb.size, fun k hk => ?_⟩
 obtain ⟨c0, c1, c2, c3, c4, c5, c6⟩ := h2 k hk
 have t : ∀ {o : Nat} {v : Value}, w.cell? ⟨b, o, none⟩ = some v -> w'.cell? ⟨b, o, none⟩ = some v := fun {o v} e => (hb.cell (p := ⟨b, o, none⟩) h1).trans e
 exact ⟨t c0, t c1, t c2, t c3, t c4, t c5, t c6⟩
def ReadsOps (w : World) (v : Value) (l : List Fop) : Prop :=
 ∃ ad cap, v = .slice ad l.length cap /\ (l = [] \/ ∃ b off, ad = some ⟨b, off, none⟩ /\ OpsAt w b off l)
theorem ReadsOps.carry {w w' : World} {v : Value} {l : List Fop} (h : ReadsOps w v l) (hb : Below w.heap.size w w') : ReadsOps w' v l := by
 obtain ⟨ad, cap, hv, h⟩ := h
 refine ⟨ad, cap, hv, ?_⟩
 rcases h with h | ⟨b, off, ha, h⟩
 ·exact Or.inl h
 ·exact Or.inr ⟨b, off, ha, h.carry hb⟩
def FirstBad (l : List Fop) (i : Nat) : Prop := ∃ h : i < l.length, opB l[i] = false /\ ∀ j, (hj : j < i) -> opB l[j] = true
theorem first_bad : ∀ (l : List Fop), (∀ x, x ∈ l -> opB x = true) \/ ∃ i, FirstBad l i
 | [] => Or.inl (by simp)
 | x :: l => by
   cases hx : opB x
   ·exact Or.inr ⟨0, by simp, by simpa using hx, fun j hj => absurd hj (Nat.not_lt_zero _)⟩
   ·rcases first_bad l with h | ⟨i, h1, h2, h3⟩
    ·left
     intro y hy
     rcases List.mem_cons.1 hy with rfl | hy
     ·exact hx
     ·exact h y hy
    ·refine Or.inr ⟨i + 1, by simpa using h1, by simpa using h2, fun j hj => ?_⟩
     cases j with
     | zero => simpa using hx
     | succ j => simpa using h3 j (by omega)
theorem write_wrong (o : Fop) (w : World) (hs : Small o) :
  Calls Tryz.prog 84 #[opV o] w fun e w' => e = .returned (.bool (!opB o)) /\ Below w.heap.size w w' := by
 have HO := zh (fun W => fact_Op o W hs)
 unfold opV opCells at *
 generalize opB o = x at HO ⊢
 go_enter Tryz.func84, Tryz.ntmps84
 go_wp2_with fail
 refine (uh HO _).mono ?_
 rintro e w1 ⟨rfl, b1⟩
 have HB : Hid (Below w.heap.size w w1) := ((Below.refl _ _).alloc zr _).trans (b1.mono (by simp))
 clear b1
 go_wp2
 go_ret
 exact ⟨rfl, uh HB⟩
theorem index_none (l : List Fop) (b off cap : Nat) (w : World) (hn : l.length < 1099511627776) (hs : ∀ x, x ∈ l -> Small x) (h : OpsAt w b off l) (hok : ∀ x, x ∈ l -> opB x = true) :
  Calls Tryz.prog 83 #[.slice (some ⟨b, off, none⟩) l.length cap, .func (.func 84) #[] #[]] w fun e w' => e = .returned (.int .i64 (-1)) /\ Below w.heap.size w w' := by
 have eg : ∀ args w, (callFunc 84 args).run Tryz.prog w = .ok (.enter 84 args) w := enters_of Tryz.func84 (by kernel_rfl) rfl
 have H := zh h
 have HS := zh hs
 have HK := zh hok
 clear h hs hok
 go_enter Tryz.func83, Tryz.ntmps83
 go_wp2
 go_loopw [8] (fun i x => ∃ k : Nat, k <= l.length /\ i = .int .i64 k /\ Below w.heap.size w x) (fun i _ => l.length - (intOf i).toNat)
 case atStart => exact ⟨0, Nat.zero_le _, rfl, Below.refl _ _⟩
 case round =>
  obtain ⟨k, hk, rfl, hb⟩ := hrel
  by_cases hlt : k < l.length
  ·have hlt' : (k : Int) < (l.length : Int) := by omega
   obtain ⟨c0, c1, c2, c3, c4, c5, c6⟩ := ((uh H).carry hb).2 k hlt
   have HC := zh (write_wrong l[k] wr (uh HS _ (List.getElem_mem hlt)))
   have hkk := uh HK _ (List.getElem_mem hlt)
   unfold opV opCells at HC
   rw [hkk] at HC
   have HB := zh hb
   clear hkk hb
   generalize l[k] = o at *
   go_wp2_with (go_at_fn 84; refine (uh HC).mono ?_; rintro e w1 ⟨rfl, b1⟩)
   go_roundw
   case rel => exact ⟨k + 1, by omega, by go_num, (uh HB).trans (b1.mono (uh HB).size)⟩
   case measure => simp [intOf]; omega
  ·have hlt' : ¬ (k : Int) < (l.length : Int) := by omega
   go_wp2
   go_ret
   exact ⟨rfl, hb⟩
theorem index_bad (l : List Fop) (i0 b off cap : Nat) (w : World) (hn : l.length < 1099511627776) (hs : ∀ x, x ∈ l -> Small x) (h : OpsAt w b off l) (hbad : FirstBad l i0) :
  Calls Tryz.prog 83 #[.slice (some ⟨b, off, none⟩) l.length cap, .func (.func 84) #[] #[]] w fun e w' => e = .returned (.int .i64 i0) /\ Below w.heap.size w w' := by
 have eg : ∀ args w, (callFunc 84 args).run Tryz.prog w = .ok (.enter 84 args) w := enters_of Tryz.func84 (by kernel_rfl) rfl
 obtain ⟨hi0, hb1, hb2⟩ := hbad
 have H := zh h
 have HS := zh hs
 have H1 := zh hb1
 have H2 := zh hb2
 clear h hs hb1 hb2
 go_enter Tryz.func83, Tryz.ntmps83
 go_wp2
 go_loopw [8] (fun i x => ∃ k : Nat, k <= i0 /\ i = .int .i64 k /\ Below w.heap.size w x) (fun i _ => l.length - (intOf i).toNat)
 case atStart => exact ⟨0, Nat.zero_le _, rfl, Below.refl _ _⟩
 case round =>
  obtain ⟨k, hk, rfl, hb⟩ := hrel
  have hlt : k < l.length := by omega
  have hlt' : (k : Int) < (l.length : Int) := by omega
  obtain ⟨c0, c1, c2, c3, c4, c5, c6⟩ := ((uh H).carry hb).2 k hlt
  have HC := zh (write_wrong l[k] wr (uh HS _ (List.getElem_mem hlt)))
  unfold opV opCells at HC
  have HB := zh hb
  clear hb
  by_cases hki : k = i0
  ·subst hki
   rw [uh H1] at HC
   clear H1 H2
   generalize l[k] = o at *
   go_wp2_with (go_at_fn 84; refine (uh HC).mono ?_; rintro e w1 ⟨rfl, b1⟩)
   go_ret
   exact ⟨rfl, (uh HB).trans (b1.mono (uh HB).size)⟩
  ·rw [uh H2 k (by omega)] at HC
   clear H1 H2
   generalize l[k] = o at *
   go_wp2_with (go_at_fn 84; refine (uh HC).mono ?_; rintro e w1 ⟨rfl, b1⟩)
   go_roundw
   case rel => exact ⟨k + 1, by omega, by go_num, (uh HB).trans (b1.mono (uh HB).size)⟩
   case measure => simp [intOf]; omega
def AtErr (w' : World) (n i : Int) (v : Value) : Prop :=
 ∃ b, v = .iface 164 (.pointer (some ⟨b, 0, none⟩)) /\ w'.cell? ⟨b, 0, none⟩ = some (.int .i64 n) /\ w'.cell? ⟨b, 1, none⟩ = some (.int .i64 i)
theorem write_limit (l : List Fop) (v : Value) (w : World) (hn : l.length < 1099511627776) (h : ReadsOps w v l) (hl : ¬ (1 <= l.length /\ l.length <= 8)) :
  Calls Tryz.prog 40 #[v] w fun e w' => e = .returned (.tuple #[.string ⟨#[]⟩, .iface 43 (.int .i64 4)]) /\ w' = w := by
 obtain ⟨ad, cap, rfl, h⟩ := h
 clear h
 by_cases h1 : l.length < 1
 ·have h1' : (l.length : Int) < 1 := by omega
  go_enter Tryz.func40, Tryz.ntmps40
  go_wp2
  go_ret2
  exact ⟨rfl, rfl⟩
 ·have h1' : ¬ (l.length : Int) < 1 := by omega
  have h2' : 8 < (l.length : Int) := by omega
  go_enter Tryz.func40, Tryz.ntmps40
  go_wp2
  go_ret2
  exact ⟨rfl, rfl⟩
theorem write_bad (l : List Fop) (i0 : Nat) (v : Value) (w : World) (hs : ∀ x, x ∈ l -> Small x) (h : ReadsOps w v l) (hl : 1 <= l.length /\ l.length <= 8) (hbad : FirstBad l i0) :
  Calls Tryz.prog 40 #[v] w fun e w' => ∃ u, e = .returned (.tuple #[.string ⟨#[]⟩, u]) /\ AtErr w' 1 i0 u /\ Below w.heap.size w w' := by
 obtain ⟨ad, cap, rfl, h⟩ := h
 rcases h with rfl | ⟨b, off, rfl, h⟩
 ·simp at hl
 ·have HC := zh (index_bad l i0 b off cap w (by omega) hs h hbad)
  have h1' : ¬ (l.length : Int) < 1 := by omega
  have h2' : ¬ 8 < (l.length : Int) := by omega
  have h3 : (0 : Int) <= (i0 : Int) := by omega
  clear h hs hbad
  go_enter Tryz.func40, Tryz.ntmps40
  go_wp2_with fail
  refine (uh HC).mono ?_
  rintro e w1 ⟨rfl, b1⟩
  have HB := zh (b1.alloc b1.size (.cells #[.int .i64 1, .int .i64 i0] 166))
  clear b1
  go_wp2
  go_ret2
  refine ⟨_, rfl, ⟨w1.heap.size, rfl, ?_, ?_⟩, uh HB⟩
  ·simp
  ·simp
theorem info_string : (Tryz.prog.info? 9).map (fun i => (i.zero, i.size, i.bytes)) = some (some (.string ⟨#[]⟩), 1, 16) := by kernel_rfl
theorem wpList_appS (w : World) {ops : Array Oper} {rest : List Oper} {o : Oper} {a : Act} {Q : Exit -> Act -> World -> Prop} (hgd : o.guard = none) (s x : Operand)
  (ho : o.op = .call { callee := .builtin .append, args := #[s, x], argTypes := #[117, 117] })
  (base : Nat) (v : Value) (l : List ByteArray) (hs : a.eval s = v) (hown : w.ownsRow base 9 1 v l.length (l.map Value.string))
  (b : Nat) (y : ByteArray) (hx : a.eval x = .slice (some ⟨b, 0, none⟩) 1 1) (hc0 : w.cell? ⟨b, 0, none⟩ = some (.string y))
  (hlen : l.length < 1099511627776) (hbase : base <= w.heap.size)
  (h : ∀ v' w', w'.ownsRow base 9 1 v' (l ++ [y]).length ((l ++ [y]).map Value.string) -> w.grownBy w' v.ownBlock -> wpList Tryz.prog ops Q rest (a.put o.dst v') w') : wpList Tryz.prog ops Q (o :: rest) a w := by
 obtain ⟨i0, hi0, hz0, hz1, hz2⟩ := info_parts info_string
 refine wpList_append_own w hgd s x 117 ho base 9 i0 (.string ⟨#[]⟩) 1 16 Tryz.underlying117 hi0 hz0 hz1 hz2 rfl (by decide) v l.length (l.map Value.string) hs hown ⟨b, 0, none⟩ 1 1 [.string y] hx rfl ?_ ?_ ?_ ?_ hbase ?_
 ·intro j u hj
  match j, hj with
  | 0, hj => simp at hj; subst hj; simpa [Addr.add] using hc0
 ·intro u hu
  simp at hu
  subst hu; rfl
 ·unfold maxLen; omega
 ·omega
 ·intro v' w' k1 k2 _
  refine h v' w' ?_ k2
  simpa using k1
theorem own_cells {w : World} {base : Nat} {v : Value} {l : List ByteArray} (h : w.ownsRow base 9 1 v l.length (l.map Value.string)) (hl : l ≠ []) :
  ∃ g cap, v = .slice (some ⟨g, 0, none⟩) l.length cap /\ l.length <= cap /\ g < w.heap.size /\ ∀ j x, l[j]? = some x -> w.cell? ⟨g, 0 + j, none⟩ = some (.string x) := by
 obtain ⟨_, h2⟩ := h
 rcases h2 with ⟨_, h2⟩ | ⟨g, cap, cur, hv, hg, hh, h3, h4, h5, h6⟩
 ·exact absurd (List.eq_nil_of_length_eq_zero h2) hl
 ·refine ⟨g, cap, hv, h3, ?_, fun j x hj => ?_⟩
  ·rcases Nat.lt_or_ge g w.heap.size with k | k
   ·exact k
   ·rw [Array.getElem?_eq_none k] at hh; cases hh
  ·have hjl : j < l.length := by
    rcases Nat.lt_or_ge j l.length with k | k
    ·exact k
    ·rw [List.getElem?_eq_none k] at hj; cases hj
   have hc : cur.toList[j]? = some (.string x) := by
    rw [<- List.getElem?_take_of_lt (show j < l.length * 1 by omega), h6, List.getElem?_map, hj]; rfl
   unfold World.cell?
   simp only [hh]
   rw [Nat.zero_add, <- Array.getElem?_toList]
   exact hc
def txt (o : Fop) : ByteArray := ⟨(opL o).toArray⟩
theorem txt_data (l : List Fop) : (l.map txt).map (·.data.toList) = l.map opL := by
 rw [List.map_map]; rfl
theorem append_step {w wr w2 wn : World} {B n : Nat} {v : Value} {l : List ByteArray} {y : ByteArray} {t : TypeId} (hB : B <= wr.heap.size) (hb : Below B w wr) (b2 : Below n wr w2) (hn : B <= n) (hown : wr.ownsRow B 9 1 v l.length (l.map Value.string))
  (hg : (w2.alloc (.cells #[.string y] t)).grownBy wn v.ownBlock) : Below B w wn :=
 ((hb.trans (b2.mono hn)).alloc (Nat.le_trans hB b2.size) _).grown hg (by have := b2.size; simp; omega) (fun k hk => (hown.lt k hk).1)
theorem write_ok (l : List Fop) (v : Value) (w : World) (hs : ∀ x, x ∈ l -> Small x) (h : ReadsOps w v l) (hl : okL l) (ht : Tab w) :
  Calls Tryz.prog 40 #[v] w fun e w' => e = .returned (.tuple #[.string ⟨(opsL l).toArray⟩, .nilIface]) /\ Below w.heap.size w w' := by
 obtain ⟨hl1, hl2, hl3⟩ := hl
 obtain ⟨ad, cap, rfl, h⟩ := h
 rcases h with rfl | ⟨b, off, rfl, h⟩
 ·simp at hl1
 ·have HC := zh (index_none l b off cap w (by omega) hs h hl3)
  have h1' : ¬ (l.length : Int) < 1 := by omega
  have h2' : ¬ 8 < (l.length : Int) := by omega
  have H := zh h
  have HT := zh ht
  have H3 := zh hl3
  clear h hs hl3 ht
  go_enter Tryz.func40, Tryz.ntmps40
  go_wp2_with fail
  refine (uh HC).mono ?_
  rintro e w1 ⟨rfl, b1⟩
  have HB1 := zh b1
  clear b1
  go_wp2
  go_loopw [5, 27] (fun t i x => ∃ k : Nat, k <= l.length /\ i = .int .i64 k /\ x.ownsRow w.heap.size 9 1 t ((l.take k).map txt).length (((l.take k).map txt).map Value.string) /\ Below w.heap.size w x) (fun _ i _ => l.length - (intOf i).toNat)
  case atStart => exact ⟨0, Nat.zero_le _, rfl, by simpa using World.ownsRow_nil _ _ _ _, uh HB1⟩
  case round =>
   obtain ⟨k, hk, rfl, hown, hb⟩ := hrel
   by_cases hlt : k < l.length
   ·have hlt' : (k : Int) < (l.length : Int) := by omega
    obtain ⟨c0, c1, c2, c3, c4, c5, c6⟩ := ((uh H).carry hb).2 k hlt
    have hko := uh H3 _ (List.getElem_mem hlt)
    have hz := hb.size
    have HW := zh (fun o => fact_write l[k] (wr.alloc o) hko ((uh HT).carry (hb.alloc hz o)))
    unfold opV opCells at HW
    have htk : l.take (k + 1) = l.take k ++ [l[k]] := List.take_succ_eq_append_getElem hlt
    have HK : Hid ((l.take (k + 1)).map txt = (l.take k).map txt ++ [⟨(opL l[k]).toArray⟩]) := by unfold Hid; rw [htk, List.map_append]; rfl
    have hlk : ((l.take k).map txt).length < 1099511627776 := by simp; omega
    have HB := zh hb
    have HO := zh hown
    clear hb hown htk hko H HC HT H3 HB1
    have hF1 : ∃ F, F = (l.take k).map txt := ⟨_, rfl⟩
    obtain ⟨F, hF⟩ := hF1
    rw [<- hF] at HO HK hlk
    clear hF
    generalize l[k] = o at *
    go_wp2_with fail
    refine (uh HW _).mono ?_
    rintro e w2 ⟨rfl, b2⟩
    have hz2 := b2.size
    simp at hz2
    have B2 : Hid (Below wr.heap.size wr w2) := ((Below.refl _ _).alloc zr _).trans (b2.mono (by simp))
    have O2 := zh (ownsRow_carry (uh HO) (uh B2))
    clear b2 HW
    go_wp2_with (at_builtin; refine wpList_appS _ rfl (.tmp 31) (.tmp 34) rfl w.heap.size _ F rfl ((uh O2).alloc _) w2.heap.size ⟨(opL o).toArray⟩ rfl ?d0 hlk ?d3 ?_)
    case d0 => simp
    case d3 => simp; omega
    intro v' wn k1 k2
    have HBN := zh (append_step hz (uh HB) (uh B2) hz (uh HO) k2)
    have HON : Hid (wn.ownsRow w.heap.size 9 1 v' ((l.take (k + 1)).map txt).length (((l.take (k + 1)).map txt).map Value.string)) := by unfold Hid; rw [uh HK]; simpa using k1
    clear k1 k2
    go_wp2
    go_roundw
    case rel => exact ⟨k + 1, by omega, by go_num, uh HON, uh HBN⟩
    case measure => simp [intOf]; omega
   ·have hlt' : ¬ (k : Int) < (l.length : Int) := by omega
    have hkl : l.take k = l := List.take_of_length_le (by omega)
    rw [hkl] at hown
    obtain ⟨g, cp, rfl, q1, q2, q3⟩ := own_cells hown (by intro e; simp at e; subst e; simp at hl1)
    have hlen : (Lib.join ((l.map txt).map (·.data.toList)) (⟨#[43]⟩ : ByteArray).data.toList).length <= 140737488355328 := by
     rw [txt_data]
     have := wrs_length_le l (uh H3)
     unfold opsL at this
     show (Lib.join (l.map opL) [43]).length <= _
     omega
    have HJ := zh (Tryz.strings_Join g 0 cp (l.map txt) ⟨#[43]⟩ wr q3 q2 (by simp; omega) q1 hlen)
    have HB := zh hb
    clear hb hown hkl hlen q1 q2 q3 H HC HT H3 HB1
    rw [txt_data] at HJ
    simp only [List.length_map] at HJ
    go_wp2_with fail
    refine (uh HJ).mono ?_
    rintro e w2 ⟨rfl, b2⟩
    have HB2 := zh ((uh HB).trans (b2.mono (uh HB).size))
    clear b2
    go_wp2
    go_ret2
    exact ⟨rfl, uh HB2⟩
end Go.Proofs.YtfoojmflbifkpaaGreatDoor
