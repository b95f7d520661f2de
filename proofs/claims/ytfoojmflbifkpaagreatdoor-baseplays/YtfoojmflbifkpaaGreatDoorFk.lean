/- Texts of one proof, one behind the other. -/
import Derived.Test.YtfoojmflbifkpaaGreatDoorEx
import Derived.Test.YtfoojmflbifkpaaGreatDoorFj
import Derived.Maps.RangeWalk
import Derived.Laws.IdiomRangeMap
import Derived.StringKeys
import Derived.Sort.Walk0
import Derived.Deep.AppendLies
set_option maxRecDepth 100000
set_option maxHeartbeats 16000000
namespace Go.Proofs.YtfoojmflbifkpaaGreatDoor
open Go.RowKit Go.Maps
def boolE : Value -> Option (DataW Unit × List MemPlace)
 | .bool b => some (.lit (.bool b), [])
 | _ => none
theorem boolE_at {v : Value} {b : Bool} {ps : List MemPlace} (h : boolE v = some (.lit (.bool b), ps)) : v = .bool b := by
 unfold boolE at h
 split at h
 ·injection h with h
  injection h with h _
  injection h with h
  injection h with h
  rw [h]
 ·cases h
theorem keyedS : Keyed Tryz.prog 9 := string_keyed Tryz.underlying9
theorem zero_bool (w : World) : (zeroValue 4).run Tryz.prog w = .ok (.bool false) w := by kernel_rfl
structure KeysS (D : DataW Unit) (K : List (List UInt8)) : Prop where
 has : ∀ x, x ∈ K -> Maps.has D (.string x) = true /\ ∀ z, D.atKey (.string x) z = .lit (.bool true)
 hasn : ∀ x, x ∉ K -> Maps.has D (.string x) = false
 size : Maps.size D = K.length
 nodup : K.Nodup
theorem keysS_none : KeysS (.map []) [] := ⟨by simp, fun _ _ => rfl, rfl, List.nodup_nil⟩
theorem str_ne {x y : List UInt8} (h : x ≠ y) : Lit.string x ≠ .string y := by
 intro e
 cases e
 exact h rfl
def addS (K : List (List UInt8)) (x : List UInt8) : List (List UInt8) := if x ∈ K then K else x :: K
theorem mem_addS {K : List (List UInt8)} {x y : List UInt8} : y ∈ addS K x ↔ y = x \/ y ∈ K := by
 unfold addS
 by_cases h : x ∈ K
 ·rw [if_pos h]
  constructor
  ·exact .inr
  ·rintro (rfl | q)
   ·exact h
   ·exact q
 ·rw [if_neg h, List.mem_cons]
theorem KeysS.put {D : DataW Unit} {K : List (List UInt8)} (h : KeysS D K) (ht : Tidy D) (x : List UInt8) : KeysS (D.put (.string x) (.lit (.bool true))) (addS K x) := by
 refine ⟨fun y hy => ?_, fun y hy => ?_, ?_, ?_⟩
 ·by_cases e : y = x
  ·subst e
   exact ⟨Maps.has_put_same (k := .string y) ht.isMap trivial _, fun z => Maps.atKey_put_same (k := .string y) ht.isMap trivial _ _⟩
  ·have hk : y ∈ K := by
    rcases mem_addS.1 hy with q | q
    ·exact absurd q e
    ·exact q
   obtain ⟨h1, h2⟩ := h.has y hk
   exact ⟨by rw [Maps.has_put_other (str_ne e)]; exact h1, fun z => by rw [Maps.atKey_put_other (str_ne e)]; exact h2 z⟩
 ·have e : y ≠ x := fun q => hy (mem_addS.2 (.inl q))
  rw [Maps.has_put_other (str_ne e)]
  exact h.hasn y (fun q => hy (mem_addS.2 (.inr q)))
 ·rw [Maps.size_put ht]
  unfold addS
  by_cases q : x ∈ K
  ·rw [if_pos q, (h.has x q).1, if_pos rfl, h.size]
  ·rw [if_neg q, h.hasn x q]
   simp [h.size]
 ·unfold addS
  by_cases q : x ∈ K
  ·rw [if_pos q]; exact h.nodup
  ·rw [if_neg q]; exact List.nodup_cons.2 ⟨q, h.nodup⟩
def Had (y : World) (mb : Nat) (K : List (List UInt8)) : Prop := ∃ D, y.ownsMap Tryz.prog 9 boolE mb K.length D /\ KeysS D K
theorem Had.keeps {y y' : World} {mb : Nat} {K : List (List UInt8)} {F : Nat -> Prop} (h : Had y mb K) (hk : Keeps F y y') (hf : ¬ F mb) : Had y' mb K := by
 obtain ⟨D, h1, h2⟩ := h
 exact ⟨D, ownsMap_keeps h1 hk hf, h2⟩
theorem Had.lt {y : World} {mb : Nat} {K : List (List UInt8)} (h : Had y mb K) : mb < y.heap.size := by
 obtain ⟨D, h1, _⟩ := h
 exact h1.lt
theorem had_new (y : World) : Had (y.alloc (.map #[] 0)) y.heap.size [] := ⟨.map [], World.ownsMap_made y Tryz.prog 9 boolE, keysS_none⟩
theorem Had.put {y y' : World} {mb n : Nat} {K : List (List UInt8)} {D : DataW Unit} (h2 : KeysS D K) (h1 : y.ownsMap Tryz.prog 9 boolE mb K.length D) (x : List UInt8) (ho : y'.ownsMap Tryz.prog 9 boolE mb n (D.put (.string x) (.lit (.bool true)))) : Had y' mb (addS K x) := by
 have hk := h2.put (h1.tidy keyedS) x
 refine ⟨_, ?_, hk⟩
 have := ownsMap_size ho
 rw [hk.size] at this
 exact this
def VisE (f : Nat -> Int -> ByteArray) (Ts : List Int) (lo hi : Int) (c0 c m : Nat) (x : List UInt8) : Prop :=
 ∃ (c' i : Nat) (t : Int), (c0 <= c' /\ c' < c \/ c' = c /\ i < m) /\ Ts[i]? = some t /\ lo <= t /\ t < hi /\ (f c' t).data.toList = x
def EvK (f : Nat -> Int -> ByteArray) (Ts : List Int) (lo hi : Int) (c0 c m : Nat) (K : List (List UInt8)) : Prop := ∀ x, x ∈ K ↔ VisE f Ts lo hi c0 c m x
theorem EvK.start (f : Nat -> Int -> ByteArray) (Ts : List Int) (lo hi : Int) (c0 : Nat) : EvK f Ts lo hi c0 c0 0 [] := fun x => by
 constructor
 ·intro h; cases h
 ·rintro ⟨c', i, t, h, _⟩
  omega
theorem EvK.add {f : Nat -> Int -> ByteArray} {Ts : List Int} {lo hi : Int} {c0 c m : Nat} {K : List (List UInt8)} {t : Int} (h : EvK f Ts lo hi c0 c m K) (ht : Ts[m]? = some t) (h1 : lo <= t) (h2 : t < hi) : EvK f Ts lo hi c0 c (m + 1) (addS K (f c t).data.toList) := fun x => by
 rw [mem_addS, h x]
 constructor
 ·rintro (rfl | ⟨c', i, t', r, q⟩)
  ·exact ⟨c, m, t, .inr ⟨rfl, by omega⟩, ht, h1, h2, rfl⟩
  ·exact ⟨c', i, t', by omega, q⟩
 ·rintro ⟨c', i, t', r, q1, q2, q3, q4⟩
  by_cases z : c' = c /\ i = m
  ·obtain ⟨rfl, rfl⟩ := z
   rw [ht] at q1
   cases q1
   exact .inl q4.symm
  ·exact .inr ⟨c', i, t', by omega, q1, q2, q3, q4⟩
theorem EvK.skip {f : Nat -> Int -> ByteArray} {Ts : List Int} {lo hi : Int} {c0 c m : Nat} {K : List (List UInt8)} {t : Int} (h : EvK f Ts lo hi c0 c m K) (ht : Ts[m]? = some t) (hn : ¬ (lo <= t /\ t < hi)) : EvK f Ts lo hi c0 c (m + 1) K := fun x => by
 rw [h x]
 constructor
 ·rintro ⟨c', i, t', r, q⟩
  exact ⟨c', i, t', by omega, q⟩
 ·rintro ⟨c', i, t', r, q1, q2, q3, q4⟩
  by_cases z : c' = c /\ i = m
  ·obtain ⟨rfl, rfl⟩ := z
   rw [ht] at q1
   cases q1
   exact absurd ⟨q2, q3⟩ hn
  ·exact ⟨c', i, t', by omega, q1, q2, q3, q4⟩
theorem EvK.turn {f : Nat -> Int -> ByteArray} {Ts : List Int} {lo hi : Int} {c0 c : Nat} {K : List (List UInt8)} (h : EvK f Ts lo hi c0 c Ts.length K) (hc : c0 <= c) : EvK f Ts lo hi c0 (c + 1) 0 K := fun x => by
 rw [h x]
 constructor
 ·rintro ⟨c', i, t', r, q⟩
  exact ⟨c', i, t', by omega, q⟩
 ·rintro ⟨c', i, t', r, q1, q2⟩
  refine ⟨c', i, t', ?_, q1, q2⟩
  have : i < Ts.length := by
   rcases Nat.lt_or_ge i Ts.length with z | z
   ·exact z
   ·rw [List.getElem?_eq_none z] at q1; cases q1
  omega
theorem addS_len (K : List (List UInt8)) (x : List UInt8) : (addS K x).length <= K.length + 1 := by unfold addS; split <;> simp
theorem step_appT (w : World) {ops : Array Oper} {o : Oper} {a : Act} {K : Act -> World -> Prop} {Q : Exit -> Act -> World -> Prop} {E : Prop} (hgd : o.guard = none) (s x : Operand)
  (ho : o.op = .call { callee := .builtin .append, args := #[s, x], argTypes := #[68, 68] })
  (base : Nat) (v : Value) (L : List Int) (hs : a.eval s = v) (hown : w.ownsRow base 3 1 v L.length (L.map (Value.int .i64)))
  (b : Nat) (z : Int) (hx : a.eval x = .slice (some ⟨b, 0, none⟩) 1 1) (hc : w.cell? ⟨b, 0, none⟩ = some (.int .i64 z)) (hlen : L.length <= 100000) (hbase : base <= w.heap.size)
  (h : ∀ g cap w', w'.ownsRow base 3 1 (.slice (some ⟨g, 0, none⟩) (L ++ [z]).length cap) (L ++ [z]).length ((L ++ [z]).map (Value.int .i64)) -> Hid (w.grownBy w' v.ownBlock) -> K (a.put o.dst (.slice (some ⟨g, 0, none⟩) (L ++ [z]).length cap)) w') :
  if Region.wanted o (yielded ops a.tmps) = true then Oper.wp Tryz.prog o a w K Q else E := by
 obtain ⟨i0, hi0, hz0, hz1, hz2⟩ := info_parts info3
 refine step_append_lies _ hgd s x 68 ho base 3 i0 (.int .i64 0) 1 8 Tryz.underlying68 hi0 hz0 hz1 hz2 rfl (by decide) v L.length (L.map (Value.int .i64)) hs hown ⟨b, 0, none⟩ 1 1 [.int .i64 z] hx rfl ?_ ?_ (by decide) ?_ ?_ hbase _ rfl ?_
 ·intro j u hj
  match j, hj with
  | 0, hj => simp at hj; subst hj; simpa [Addr.add] using hc
 ·intro u hu
  simp at hu
  subst hu; rfl
 ·unfold maxLen; omega
 ·omega
 ·intro g cap w' k1 k2 _ _
  have el : (L ++ [z]).length = L.length + 1 := by simp
  have := h g cap w'
  rw [el, List.map_append] at this
  exact this k1 k2
def EvH (kb : Nat) (k : Ky) (lo : Int) (w0 x : World) : Prop :=
 x.cell? ⟨kb, 0, none⟩ = some (.int .i64 k.kind) /\ x.cell? ⟨kb, 1, none⟩ = some (.int .i64 k.a) /\ x.cell? ⟨kb, 2, none⟩ = some (.string k.word) /\ x.cell? ⟨kb, 3, none⟩ = some (.int .i64 k.b) /\ x.cell? ⟨kb + 1, 0, none⟩ = some (.int .i64 lo) /\ Below w0.heap.size w0 x
theorem EvH.of {kb : Nat} {k : Ky} {lo : Int} {w0 y : World} (h : EvH kb k lo w0 w0) (hb : Below w0.heap.size w0 y) : EvH kb k lo w0 y := by
 obtain ⟨h1, h2, h3, h4, h5, _⟩ := h
 exact ⟨there_yet h1 hb, there_yet h2 hb, there_yet h3 hb, there_yet h4 hb, there_yet h5 hb, hb⟩
def EverSaysR (w : World) (f : Nat -> Int -> ByteArray) (Ts : List Int) (lo hi : Int) (c0 c1 : Nat) (e : Ending) (w' : World) : Prop :=
 ∃ v L, e = .returned (.tuple #[v, .int .i64 0]) /\ w'.ownsRow w.heap.size 9 1 v (List.length L) (List.map encStr L) /\ L.Pairwise (· < ·) /\ (∀ x, x ∈ L ↔ x ≠ [] /\ VisE f Ts lo hi c0 (c1 + 1) 0 x) /\ Below w.heap.size w w'
theorem str_shape (key : Value) (kl : Lit) (h : keyOf Tryz.prog 9 key = some kl) : ∃ x, key = .string x := by
 obtain ⟨s, e, _⟩ := WideMaps.string_of_keyOf Tryz.underlying9 h
 exact ⟨s, e⟩
def boolV (n : Nat) : Value := .bool (decide (n = 1))
theorem lit_str {x y : List UInt8} : (Lit.string x).sameKey (.string y) = true ↔ x = y := by
 constructor
 ·intro h
  have := WideAt.sameKey_eq h
  injection this
 ·rintro rfl
  exact WideAt.sameKey_self trivial
theorem boolE_inv (v : Value) (y : DataW Unit × List MemPlace) (h : boolE v = some y) : ∃ c, v = boolV c := by
 unfold boolE at h
 split at h
 ·rename_i b
  cases b with
  | true => exact ⟨1, rfl⟩
  | false => exact ⟨0, rfl⟩
 ·cases h
structure RgS (w : World) (mb r : Nat) (K : List (List UInt8)) (D : DataW Unit) (left was : Lit -> Bool) (cnt : Nat) (u : Value) (L : List ByteArray) (y : World) : Prop where
 rg : y.ranges Tryz.prog 9 boolE mb r K.length D left cnt
 row : y.ownsRow (r + 1) 9 1 u L.length (L.map Value.string)
 mem : ∀ x : List UInt8, (∃ s, s ∈ L /\ s.data.toList = x) ↔ x ∈ K /\ was (.string x) = false /\ x ≠ []
 nodup : L.Nodup
 low : Below w.heap.size w y
 wr : w.heap.size <= r
 mr : mb < r
 rs : r < y.heap.size
theorem RgS.below {w : World} {mb r : Nat} {K : List (List UInt8)} {D : DataW Unit} {left was : Lit -> Bool} {cnt : Nat} {u : Value} {L : List ByteArray} {y y' : World} (h : RgS w mb r K D left was cnt u L y) (hb : Below y.heap.size y y') : RgS w mb r K D left was cnt u L y' :=
 ⟨ranges_below h.rg hb, ownsRow_carry h.row hb, h.mem, h.nodup, h.low.trans (hb.mono h.low.size), h.wr, h.mr, Nat.lt_of_lt_of_le h.rs hb.size⟩
theorem RgS.came {w : World} {mb r : Nat} {K : List (List UInt8)} {D : DataW Unit} {left was : Lit -> Bool} {cnt : Nat} {u : Value} {L : List ByteArray} {y y' : World} {cnt' : Nat} {left' : Lit -> Bool} (h : RgS w mb r K D left was cnt u L y) (hg : y.grownBy y' (some r)) (hrg : y'.ranges Tryz.prog 9 boolE mb r K.length D left' cnt') : RgS w mb r K D left' was cnt' u L y' := by
 have hk := keeps_grown hg
 refine ⟨hrg, World.ownsRow.kept h.row hg ?_, h.mem, h.nodup, h.low.trans (keeps_below hk (fun i e => by cases e; exact h.wr) h.low.size), h.wr, h.mr, Nat.lt_of_lt_of_le h.rs hg.size⟩
 rcases e : u.ownBlock with _ | g
 ·exact .inl rfl
 ·refine .inr (fun q => ?_)
  have := (World.ownsRow.lt h.row g e).1
  cases q
  omega
theorem RgS.skip {w : World} {mb r : Nat} {K : List (List UInt8)} {D : DataW Unit} {left : Lit -> Bool} {cnt : Nat} {u : Value} {L : List ByteArray} {y : World} {s : ByteArray} (h : RgS w mb r K D (fun z => left z && !z.sameKey (.string s.data.toList)) left cnt u L y) (hs : s.data.toList = []) : RgS w mb r K D (fun z => left z && !z.sameKey (.string s.data.toList)) (fun z => left z && !z.sameKey (.string s.data.toList)) cnt u L y := by
 refine ⟨h.rg, h.row, fun x => ?_, h.nodup, h.low, h.wr, h.mr, h.rs⟩
 rw [h.mem x]
 constructor
 ·rintro ⟨a, b, c⟩
  exact ⟨a, by simp [b], c⟩
 ·rintro ⟨a, b, c⟩
  refine ⟨a, ?_, c⟩
  cases e : left (.string x) with
  | false => rfl
  | true =>
   simp [e] at b
   exact absurd ((lit_str.1 b).trans hs) c
theorem RgS.add {w : World} {mb r : Nat} {K : List (List UInt8)} {D : DataW Unit} {left : Lit -> Bool} {cnt : Nat} {u : Value} {L : List ByteArray} {y y' : World} {s : ByteArray} {v' : Value} (h : RgS w mb r K D (fun z => left z && !z.sameKey (.string s.data.toList)) left cnt u L y) (hl : left (.string s.data.toList) = true) (hK : s.data.toList ∈ K) (hs : s.data.toList ≠ []) (hg : y.grownBy y' u.ownBlock) (hr : y'.ownsRow (r + 1) 9 1 v' (L ++ [s]).length ((L ++ [s]).map Value.string)) : RgS w mb r K D (fun z => left z && !z.sameKey (.string s.data.toList)) (fun z => left z && !z.sameKey (.string s.data.toList)) cnt v' (L ++ [s]) y' := by
 have hkp := keeps_grown hg
 have hge : ∀ i, some i = u.ownBlock -> r + 1 <= i := fun i e => (World.ownsRow.lt h.row i e.symm).1
 have hmr := h.mr
 refine ⟨ranges_keeps h.rg hkp (fun e => by have := hge mb e; omega) (fun e => by have := hge r e; omega), hr, fun x => ?_, ?_, h.low.trans (keeps_below hkp (fun i e => by have := hge i e; have := h.wr; omega) h.low.size), h.wr, h.mr, Nat.lt_of_lt_of_le h.rs hg.size⟩
 ·constructor
  ·rintro ⟨s', hs', e⟩
   rcases List.mem_append.1 hs' with q | q
   ·obtain ⟨a, b, c⟩ := (h.mem x).1 ⟨s', q, e⟩
    exact ⟨a, by simp [b], c⟩
   ·obtain rfl := List.mem_singleton.1 q
    subst e
    exact ⟨hK, by simp [lit_str.2 rfl], hs⟩
  ·rintro ⟨a, b, c⟩
   cases e : left (.string x) with
   | false =>
    obtain ⟨s', q, e'⟩ := (h.mem x).2 ⟨a, e, c⟩
    exact ⟨s', by simp [q], e'⟩
   | true =>
    simp [e] at b
    exact ⟨s, by simp, (lit_str.1 b).symm⟩
 ·rw [List.nodup_append]
  refine ⟨h.nodup, by simp, fun a ha b hb => ?_⟩
  rw [List.mem_singleton] at hb
  subst hb
  rintro rfl
  have := ((h.mem a.data.toList).1 ⟨a, ha, rfl⟩).2.1
  rw [hl] at this
  cases this
theorem mem_strs {L : List ByteArray} {x : List UInt8} : x ∈ strs L ↔ ∃ s, s ∈ L /\ s.data.toList = x := List.mem_map
theorem mem_srt {l : List (List UInt8)} {x : List UInt8} : x ∈ srt l ↔ x ∈ l := (List.mergeSort_perm l _).mem_iff
theorem strs_nodup {L : List ByteArray} (h : L.Nodup) : (strs L).Nodup := by
 unfold strs
 rw [List.nodup_iff_pairwise_ne, List.pairwise_map]
 refine (List.nodup_iff_pairwise_ne.1 h).imp (fun {a b} hab e => hab ?_)
 exact ByteArray.ext (Array.toList_inj.1 e)
theorem srt_once (L : List ByteArray) (hn : L.Nodup) : (srt (strs L)).Pairwise (· < ·) := by
 have hs := srt_sorted (strs L)
 have hd : (srt (strs L)).Nodup := (List.mergeSort_perm (strs L) _).symm.nodup (strs_nodup hn)
 refine (hs.and (List.nodup_iff_pairwise_ne.1 hd)).imp ?_
 rintro a b ⟨h1, h2⟩
 rcases Classical.em (a < b) with q | q
 ·exact q
 ·exact absurd (List.le_antisymm h1 (List.not_lt.1 q)) h2
theorem rp_ever_ok {w : World} {R : Nat} {txs : List (List Fop)} {known : Int} (h : RefP w R txs known) (k : Ky) (hk : KyOk k) (hkb : keyB k.kind k.a k.word k.b = true) (ca cb : Nat) (a b lo hi : Int) (hca : a = (ca : Int)) (hcb : b = (cb : Int)) (ho : ¬ b < a) (hn : cb <= txs.length) (ha : countErr txs.length known a = 0) (hb : countErr txs.length known b = 0) (hr : rightB lo hi = true) (hE : (endsK txs k).length <= 2400) (hsz : ∀ c t, (refS txs k c t).size <= maxLen) :
  Calls Tryz.prog 53 #[.pointer (some ⟨R, 0, none⟩), .agg #[.int .i64 k.kind, .int .i64 k.a, .string k.word, .int .i64 k.b], .int .i64 a, .int .i64 b, .agg #[.int .i64 lo, .int .i64 hi]] w (EverSaysR w (refS txs k) (endsK txs k ++ [lo]) lo hi ca cb) := by
 have HM := zh h.most
 have HCA := zh hca
 have HCB := zh hcb
 clear hca hcb
 have HB : Hid (Below w.heap.size w (((w.alloc (.cells #[.int .i64 k.kind, .int .i64 k.a, .string k.word, .int .i64 k.b] 32)).alloc (.cells #[.int .i64 lo, .int .i64 hi] 34)).alloc (.cells #[.int .i64 a, .int .i64 b] 3))) := (((Below.refl _ _).alloc zr _).alloc (by simp) _).alloc (by simp; omega) _
 have HP := zh (h.carry (uh HB))
 have HK : Hid (BoxK w.heap.size k (((w.alloc (.cells #[.int .i64 k.kind, .int .i64 k.a, .string k.word, .int .i64 k.b] 32)).alloc (.cells #[.int .i64 lo, .int .i64 hi] 34)).alloc (.cells #[.int .i64 a, .int .i64 b] 3))) := ((boxK_new w k).below (below_box _ _)).below (below_box _ _)
 have s0 : (((w.alloc (.cells #[.int .i64 k.kind, .int .i64 k.a, .string k.word, .int .i64 k.b] 32)).alloc (.cells #[.int .i64 lo, .int .i64 hi] 34)).alloc (.cells #[.int .i64 a, .int .i64 b] 3)).cell? ⟨w.heap.size + 1, 0, none⟩ = some (.int .i64 lo) := by
  rw [World.cell?_alloc_past _ _ _ (by simp)]
  simp
 have s1 : (((w.alloc (.cells #[.int .i64 k.kind, .int .i64 k.a, .string k.word, .int .i64 k.b] 32)).alloc (.cells #[.int .i64 lo, .int .i64 hi] 34)).alloc (.cells #[.int .i64 a, .int .i64 b] 3)).cell? ⟨w.heap.size + 1, 1, none⟩ = some (.int .i64 hi) := by
  rw [World.cell?_alloc_past _ _ _ (by simp)]
  simp
 have t0 : (((w.alloc (.cells #[.int .i64 k.kind, .int .i64 k.a, .string k.word, .int .i64 k.b] 32)).alloc (.cells #[.int .i64 lo, .int .i64 hi] 34)).alloc (.cells #[.int .i64 a, .int .i64 b] 3)).cell? ⟨w.heap.size + 2, 0, none⟩ = some (.int .i64 a) := by
  rw [World.cell?_alloc_at _ _ _ _ (by simp)]
  rfl
 have t1 : (((w.alloc (.cells #[.int .i64 k.kind, .int .i64 k.a, .string k.word, .int .i64 k.b] 32)).alloc (.cells #[.int .i64 lo, .int .i64 hi] 34)).alloc (.cells #[.int .i64 a, .int .i64 b] 3)).cell? ⟨w.heap.size + 2, 1, none⟩ = some (.int .i64 b) := by
  rw [World.cell?_alloc_at _ _ _ _ (by simp)]
  rfl
 obtain ⟨ad, cap, c0⟩ := (uh HP).len
 have HA := zh (rp_Ask c0 (uh HP).c1 a)
 have HA2 := zh (rp_Ask c0 (uh HP).c1 b)
 have k0 := (uh HK).c0
 have k1 := (uh HK).c1
 have k2 := (uh HK).c2
 have k3 := (uh HK).c3
 rw [ha] at HA
 rw [hb] at HA2
 have HKy := zh (fun W => ref_Key k.kind k.a k.word k.b W hk.word)
 rw [hkb] at HKy
 have HRt := zh (fun W => ref_Right lo hi W)
 rw [hr] at HRt
 have HR0 := zh h
 obtain ⟨E, hEk⟩ : ∃ E, E = endsK txs k := ⟨_, rfl⟩
 have HEk := zh hEk
 obtain ⟨f, hf⟩ : ∃ f, f = refS txs k := ⟨_, rfl⟩
 have HFf := zh hf
 rw [<- hEk] at hE
 rw [<- hEk, <- hf]
 have HSz : Hid (∀ c t, (f c t).size <= maxLen) := by rw [hf]; exact hsz
 clear h c0 hb ha hkb hk hr hEk hf hsz
 go_enter Tryz.func53, Tryz.ntmps53
 go_wp2_with fail
 generalize ((w.alloc (.cells #[.int .i64 k.kind, .int .i64 k.a, .string k.word, .int .i64 k.b] 32)).alloc (.cells #[.int .i64 lo, .int .i64 hi] 34)).alloc (.cells #[.int .i64 a, .int .i64 b] 3) = W0 at *
 refine wp_loop_rounds 3 ?_
 rw [rounds_succ]
 go_wp2_with fail
 refine (uh HA).mono ?_
 rintro r W1 ⟨rfl, hW1⟩
 obtain rfl : W0 = W1 := hW1.symm
 clear hW1 HA
 go_wp2_with fail
 rw [rounds_succ]
 go_wp2_with fail
 refine (uh HA2).mono ?_
 rintro r W1 ⟨rfl, hW1⟩
 obtain rfl : W0 = W1 := hW1.symm
 clear hW1 HA2
 go_wp2_with fail
 rw [rounds_succ]
 go_wp2_with fail
 refine (uh HKy _).mono ?_
 rintro e W2 ⟨rfl, hW2⟩
 have b2 : Below W0.heap.size W0 W2 := by rw [hW2]; exact below_box _ _
 have HB2 := zh ((uh HB).trans (b2.mono (uh HB).size))
 have HK2 := zh ((uh HK).below b2)
 have s0' := there_yet s0 b2
 have s1' := there_yet s1 b2
 clear hW2 b2 s0 s1 k0 k1 k2 k3 t0 t1 HKy HK HB HP
 go_wp2_with fail
 refine (uh HRt _).mono ?_
 rintro e W3 ⟨rfl, hW3⟩
 have b3 : Below W2.heap.size W2 W3 := by rw [hW3]; exact below_box _ _
 have HB3 := zh ((uh HB2).trans (b3.mono (uh HB2).size))
 have HK3 := zh ((uh HK2).below b3)
 have z0 := there_yet s0' b3
 have z1 := there_yet s1' b3
 clear hW3 b3 HK2 HB2 s0' s1' HRt
 have hmk := run_makeMap (P := Tryz.prog) 197 W3
 go_upto_region 14 with fail
 clear hmk
 have HHad := zh (had_new W3)
 have HBm := zh (below_box W3 (.map #[] 0))
 have HB4 := zh ((uh HB3).trans ((uh HBm).mono (uh HB3).size))
 have HK4 := zh ((uh HK3).below (uh HBm))
 have y0 := there_yet z0 (uh HBm)
 have y1 := there_yet z1 (uh HBm)
 have hmw := (uh HB3).size
 have hm2 : w.heap.size + 2 <= W3.heap.size := by
  have := lt_of_cell z0
  exact this
 have HY0 := zh y0
 have HY1 := zh y1
 clear z0 z1 HK3 HB3 HBm y0 y1
 generalize hW4 : W3.alloc (.map #[] 0) = W4 at *
 clear hW4
 generalize hmb : W3.heap.size = mb at *
 clear hmb
 obtain rfl := uh HCA
 obtain rfl := uh HCB
 clear HCA HCB
 obtain ⟨Ts, hTs⟩ : ∃ Ts, Ts = E ++ [lo] := ⟨_, rfl⟩
 have HTs := zh hTs
 obtain ⟨nT, hnT⟩ : ∃ nT, nT = Ts.length := ⟨_, rfl⟩
 have HnT := zh hnT
 have hTl : nT <= 2401 := by rw [hnT, hTs, List.length_append]; simp; omega
 clear hTs hnT
 rw [show decide ((cb : Int) < (ca : Int)) = false from decide_eq_false (by omega)]
 go_loopw [16] (fun v16 y => ∃ (c : Nat) (K : List (List UInt8)), v16 = .int .i64 c /\ ca <= c /\ c <= cb + 1 /\ EvK f Ts lo hi ca c 0 K /\ Had y mb K /\ Keeps (fun i => i = mb) W4 y /\ K.length <= (c - ca) * 2401) (fun v16 _ => cb + 1 - (intOf v16).toNat)
 case atStart => exact ⟨ca, [], rfl, Nat.le_refl _, by omega, EvK.start _ _ _ _ _, uh HHad, Keeps.refl _ _, by simp⟩
 case round =>
  revert wr
  intro wo hrel
  clear HHad
  obtain ⟨c, K, rfl, hca, hcb, hEv, hH, hKp, hKl⟩ := hrel
  have HEv := zh hEv
  have HH := zh hH
  have HKp := zh hKp
  clear hEv hH hKp
  by_cases hlt : c <= cb
  ·have hltz : (c : Int) <= (cb : Int) := by omega
   have HBo : Hid (Below w.heap.size w wo) := (uh HB4).trans (keeps_below (uh HKp) (fun i q => by subst q; exact hmw) (uh HB4).size)
   have HRo := zh ((uh HR0).carry (uh HBo))
   have q0 := ((uh HKp).cell (p := ⟨w.heap.size, 0, none⟩) (lt_of_cell (uh HK4).c0) (by show ¬ w.heap.size = mb; omega)).trans (uh HK4).c0
   have q1 := ((uh HKp).cell (p := ⟨w.heap.size, 1, none⟩) (lt_of_cell (uh HK4).c1) (by show ¬ w.heap.size = mb; omega)).trans (uh HK4).c1
   have q2 := ((uh HKp).cell (p := ⟨w.heap.size, 2, none⟩) (lt_of_cell (uh HK4).c2) (by show ¬ w.heap.size = mb; omega)).trans (uh HK4).c2
   have q3 := ((uh HKp).cell (p := ⟨w.heap.size, 3, none⟩) (lt_of_cell (uh HK4).c3) (by show ¬ w.heap.size = mb; omega)).trans (uh HK4).c3
   have q4 := ((uh HKp).cell (p := ⟨w.heap.size + 1, 0, none⟩) (lt_of_cell (uh HY0)) (by show ¬ w.heap.size + 1 = mb; omega)).trans (uh HY0)
   have q5 := ((uh HKp).cell (p := ⟨w.heap.size + 1, 1, none⟩) (lt_of_cell (uh HY1)) (by show ¬ w.heap.size + 1 = mb; omega)).trans (uh HY1)
   have HQ5 := zh q5
   have HE0 : Hid (EvH w.heap.size k lo wo wo) := ⟨q0, q1, q2, q3, q4, Below.refl _ _⟩
   have HEnd : Hid (∀ y, Below wo.heap.size wo y -> Calls Tryz.prog 104 #[.pointer (some ⟨R, 0, none⟩), .agg #[.int .i64 k.kind, .int .i64 k.a, .string k.word, .int .i64 k.b]] y fun e w' => ∃ v, e = .returned v /\ w'.ownsRow y.heap.size 3 1 v E.length (E.map (Value.int .i64)) /\ Below y.heap.size y w') := fun y hy => by
    rw [uh HEk]
    exact rp_ends ((uh HRo).carry hy) k
   clear q5
   go_upto_region 16 with fail
   go_cut [60, 61, 62] (fun s60 s61 s62 wx => ∃ gT cT, s60 = .slice (some ⟨gT, 0, none⟩) nT cT /\ s61 = .int .i64 (nT : Nat) /\ s62 = .int .i64 0 /\ Hid (∀ j, (hj : j < Ts.length) -> wx.cell? ⟨gT, j, none⟩ = some (.int .i64 Ts[j])) /\ wo.heap.size <= gT /\ Below wo.heap.size wo wx)
   case first =>
    refine wp_region_held_drew (S := fun x => x.cell? ⟨w.heap.size, 0, none⟩ = some (.int .i64 k.kind) /\ x.cell? ⟨w.heap.size, 1, none⟩ = some (.int .i64 k.a) /\ x.cell? ⟨w.heap.size, 2, none⟩ = some (.string k.word) /\ x.cell? ⟨w.heap.size, 3, none⟩ = some (.int .i64 k.b) /\ x.cell? ⟨w.heap.size + 1, 0, none⟩ = some (.int .i64 lo) /\ Below wo.heap.size wo x) (by kernel_rfl) ((uh HE0).of (below_drew _)) (fun hHeld => ?_)
    refine takeH 0 (oi := ?o0_1) (v := ?v0_1) ?h0_1 (by kernel_rfl) (by assumption) ?y0_1 ?_
    case h0_1 => (simp only [gA, gZ]; rfl)
    case y0_1 => (refine ⟨fun _ _ _ h => h, rfl, fun w h => ?_⟩; (try dsimp only at h); go_simp <;> with_reducible rfl)
    try simp only [Act.put, sI, sZ, sS]
    refine takeH 1 (oi := ?o1_1) (v := ?v1_1) ?h1_1 (by kernel_rfl) (by assumption) ?y1_1 ?_
    case h1_1 => (simp only [gA, gZ, gS]; rfl)
    case y1_1 => (refine ⟨fun _ _ _ h => h, rfl, fun w h => ?_⟩; (try dsimp only at h); go_simp <;> with_reducible rfl)
    try simp only [Act.put, sI, sZ, sS]
    refine takeH 3 (oi := ?o3_1) (v := ?v3_1) ?h3_1 (by kernel_rfl) (by assumption) ?y3_1 ?_
    case h3_1 => (simp only [gA, gZ, gS]; rfl)
    case y3_1 => (refine ⟨fun _ _ _ h => h, rfl, fun w h => ?_⟩; (try dsimp only at h); go_simp <;> with_reducible rfl)
    try simp only [Act.put, sI, sZ, sS]
    refine takeH 4 (oi := ?o4_1) (v := ?v4_1) ?h4_1 (by kernel_rfl) (by assumption) ?y4_1 ?_
    case h4_1 => (simp only [gA, gZ, gS]; rfl)
    case y4_1 => (refine ⟨fun _ _ _ h => h, rfl, fun w h => ?_⟩; (try dsimp only at h); go_simp <;> with_reducible rfl)
    try simp only [Act.put, sI, sZ, sS]
    refine takeH 8 (oi := ?o8_1) (v := ?v8_1) ?h8_1 (by kernel_rfl) (by assumption) ?y8_1 ?_
    case h8_1 => (simp only [gA, gZ, gS]; rfl)
    case y8_1 => (refine ⟨fun _ _ _ h => h, rfl, fun w h => ?_⟩; (try dsimp only at h); go_simp <;> with_reducible rfl)
    try simp only [Act.put, sI, sZ, sS]
    refine wpAnyH_ready (rs := [2, 5]) (by kernel_rfl) (by simp) ?_
    refine AllReadyH.cons (o := ?bo2) ?bh2 (fun K hK => ?bs2) ?bm2
    case bh2 => (simp only [gA, gZ, gS]; rfl)
    case bs2 =>
     go_simp
     refine (uh HEnd _ (below_drew _)).mono ?_
     rintro e w9 ⟨v, rfl, hv, b9⟩
     have hb9 : Below wo.heap.size wo w9 := (below_drew wo).trans b9
     have hbx := below_box w9 (.cells #[.int .i64 lo] 3)
     have HV := zh (ownsRow_carry (ownsRow_rebase hv zr) hbx)
     have HB9 := zh (hb9.trans (hbx.mono hb9.size))
     clear hv b9 hbx
     refine hK.out _ _ ((uh HE0).of hb9) (fun hHeld => ?_)
     clear hK K hb9
     try simp only [Act.put, sI, sZ, sS]
     refine wpAnyH_ready (rs := [5]) (by kernel_rfl) (by simp) ?_
     refine AllReadyH.cons (o := ?bo5) ?bh5 (fun K hK => ?bs5) ?bm5
     case bh5 => (simp only [gA, gZ, gS]; rfl)
     case bm5 => exact AllReadyH.nil
     case bs5 =>
      go_simp
      refine hK.out _ _ ((uh HE0).of (uh HB9)) (fun hHeld => ?_)
      clear hK K
      try simp only [Act.put, sI, sZ, sS]
      refine wpAnyH_ready (rs := [6]) (by kernel_rfl) (by simp) ?_
      refine AllReadyH.cons (o := ?bo6_a) ?bh6_a (fun K hK => ?bs6_a) ?bm6_a
      case bh6_a => (simp only [gA, gZ, gS]; rfl)
      case bm6_a => exact AllReadyH.nil
      case bs6_a =>
       refine step_appT _ (by rfl) (.tmp 56) (.tmp 59) (by rfl) wo.heap.size v E (by rfl) (uh HV) w9.heap.size lo (by rfl) (by simp) (by omega) (by have := (uh HB9).size; exact this) ?_
       intro gT cT wn e1 e2
       rw [<- uh HTs] at e1 ⊢; rw [<- uh HnT] at e1 ⊢
       have hbn : Below wo.heap.size wo wn := (uh HB9).grown (uh e2) (uh HB9).size (fun i hi => (World.ownsRow.lt (uh HV) i hi).1)
       have HRow := zh e1
       have HBn := zh hbn
       refine hK.out _ _ ((uh HE0).of hbn) (fun hHeld => ?_)
       clear hK K e1 e2 hbn
       try simp only [Act.put, sI, sZ, sS]
       refine takeH 7 (oi := ?o7_2) (v := ?v7_2) ?h7_2 (by kernel_rfl) (by assumption) ?y7_2 ?_
       case h7_2 => (simp only [gA, gZ, gS]; rfl)
       case y7_2 => (refine ⟨fun _ _ _ h => h, rfl, fun w h => ?_⟩; (try dsimp only at h); go_simp <;> with_reducible rfl)
       try simp only [Act.put, sI, sZ, sS]
       refine wpAnyH_done (by kernel_rfl) ?_ _
       clear hHeld
       go_wp2
       go_meet
       case rel =>
        have hro := uh HRow
        rw [uh HnT] at hro
        obtain ⟨g', ad', c', e', hc'⟩ := own_ints hro
        injection e' with e1 e2 e3
        have hgb := (World.ownsRow.lt (uh HRow) gT rfl).1
        refine ⟨gT, cT, rfl, rfl, rfl, fun j hj => ?_, hgb, uh HBn⟩
        obtain ⟨a1, a2⟩ := hc' j hj
        rw [<- e1] at a1
        cases a1
        exact a2
    case bm2 =>
     refine AllReadyH.cons (o := ?bo5x) ?bh5x (fun K hK => ?bs5x) ?bm5x
     case bh5x => (simp only [gA, gZ, gS]; rfl)
     case bm5x => exact AllReadyH.nil
     case bs5x =>
      go_simp
      have hbx : Below wo.heap.size wo (wo.drew.alloc (.cells #[.int .i64 lo] 3)) := (below_drew wo).trans (show Below wo.heap.size wo.drew _ from below_box wo.drew _)
      have HBx := zh hbx
      refine hK.out _ _ ((uh HE0).of hbx) (fun hHeld => ?_)
      clear hK K hbx
      try simp only [Act.put, sI, sZ, sS]
      refine wpAnyH_ready (rs := [2]) (by kernel_rfl) (by simp) ?_
      refine AllReadyH.cons (o := ?bo2x) ?bh2x (fun K hK => ?bs2x) ?bm2x
      case bh2x => (simp only [gA, gZ, gS]; rfl)
      case bm2x => exact AllReadyH.nil
      case bs2x =>
       go_simp
       refine (uh HEnd _ (uh HBx)).mono ?_
       rintro e w9 ⟨v, rfl, hv, b9⟩
       have hb9 : Below wo.heap.size wo w9 := (uh HBx).trans (b9.mono (uh HBx).size)
       have HCl : Hid (w9.cell? ⟨wo.heap.size, 0, none⟩ = some (.int .i64 lo)) := (b9.cell (p := ⟨wo.heap.size, 0, none⟩) (by simp)).trans (by
        show (wo.drew.alloc (.cells #[.int .i64 lo] 3)).cell? ⟨wo.drew.heap.size, 0, none⟩ = _
        rw [World.cell?_alloc_at _ _ _ _ rfl]
        rfl)
       have HV := zh (ownsRow_rebase hv (show wo.heap.size <= _ from (uh HBx).size))
       have HB9 := zh hb9
       clear hv b9
       refine hK.out _ _ ((uh HE0).of hb9) (fun hHeld => ?_)
       clear hK K hb9
       try simp only [Act.put, sI, sZ, sS]
       refine wpAnyH_ready (rs := [6]) (by kernel_rfl) (by simp) ?_
       refine AllReadyH.cons (o := ?bo6_b) ?bh6_b (fun K hK => ?bs6_b) ?bm6_b
       case bh6_b => (simp only [gA, gZ, gS]; rfl)
       case bm6_b => exact AllReadyH.nil
       case bs6_b =>
        refine step_appT _ (by rfl) (.tmp 56) (.tmp 59) (by rfl) wo.heap.size v E (by rfl) (uh HV) wo.heap.size lo (by rfl) (uh HCl) (by omega) (by have := (uh HB9).size; exact this) ?_
        intro gT cT wn e1 e2
        rw [<- uh HTs] at e1 ⊢; rw [<- uh HnT] at e1 ⊢
        have hbn : Below wo.heap.size wo wn := (uh HB9).grown (uh e2) (uh HB9).size (fun i hi => (World.ownsRow.lt (uh HV) i hi).1)
        have HRow := zh e1
        have HBn := zh hbn
        refine hK.out _ _ ((uh HE0).of hbn) (fun hHeld => ?_)
        clear hK K e1 e2 hbn
        try simp only [Act.put, sI, sZ, sS]
        refine takeH 7 (oi := ?o7_3) (v := ?v7_3) ?h7_3 (by kernel_rfl) (by assumption) ?y7_3 ?_
        case h7_3 => (simp only [gA, gZ, gS]; rfl)
        case y7_3 => (refine ⟨fun _ _ _ h => h, rfl, fun w h => ?_⟩; (try dsimp only at h); go_simp <;> with_reducible rfl)
        try simp only [Act.put, sI, sZ, sS]
        refine wpAnyH_done (by kernel_rfl) ?_ _
        clear hHeld
        go_wp2
        go_meet
        case rel =>
         have hro := uh HRow
         rw [uh HnT] at hro
         obtain ⟨g', ad', c', e', hc'⟩ := own_ints hro
         injection e' with e1 e2 e3
         have hgb := (World.ownsRow.lt (uh HRow) gT rfl).1
         refine ⟨gT, cT, rfl, rfl, rfl, fun j hj => ?_, hgb, uh HBn⟩
         obtain ⟨a1, a2⟩ := hc' j hj
         rw [<- e1] at a1
         cases a1
         exact a2
   case rest =>
   obtain ⟨gT, cT, rfl, rfl, rfl, HCt, hgT, hbx⟩ := hcut
   have HBx := zh hbx
   have hzo := hbx.size
   have HH2 := zh ((uh HH).keeps (Keeps.of_below (fun _ => False) hbx zr) (fun q => q))
   have HK2 := zh ((uh HKp).then (Keeps.of_below (fun i => i = mb) hbx zr) (fun _ _ q => q))
   have hmo : mb < wo.heap.size := (uh HH).lt
   clear hbx q0 q1 q2 q3 q4 HH HKp HE0 HEnd HBo HRo HQ5
   go_wp2_with fail
   go_loopw [62] (fun v62 y => ∃ (m : Nat) (K : List (List UInt8)), v62 = .int .i64 m /\ m <= nT /\ EvK f Ts lo hi ca c m K /\ Had y mb K /\ Keeps (fun i => i = mb) W4 y /\ Keeps (fun i => i = mb) wc y /\ K.length <= (c - ca) * 2401 + m) (fun v62 _ => nT - (intOf v62).toNat)
   case atStart => exact ⟨0, K, rfl, Nat.zero_le _, uh HEv, uh HH2, uh HK2, Keeps.refl _ _, by omega⟩
   case round =>
    clear HEv HH2 HK2
    rename_i K0 _ _ _
    obtain ⟨m, K, rfl, hmn, hEv, hH, hKp, hKc, hKl2⟩ := hrel
    have HEv := zh hEv
    have HH := zh hH
    have HKp := zh hKp
    have HKc := zh hKc
    clear hEv hH hKp hKc
    by_cases hml : m < nT
    ·have hmlz : (m : Int) < (nT : Int) := by omega
     have hm0 : (0 : Int) <= (m : Int) := by omega
     have hmT : m < Ts.length := by have := uh HnT; omega
     have a0 := ((uh HKc).cell (p := ⟨gT, m, none⟩) (lt_of_cell (uh HCt m hmT)) (by show ¬ gT = mb; omega)).trans (uh HCt m hmT)
     have HTm : Hid (Ts[m]? = some Ts[m]) := List.getElem?_eq_getElem hmT
     obtain ⟨t, ht⟩ : ∃ t, t = Ts[m] := ⟨_, rfl⟩
     rw [<- ht] at a0 HTm
     have HBo : Hid (Below w.heap.size w wr) := (uh HB4).trans (keeps_below (uh HKp) (fun i q => by subst q; exact hmw) (uh HB4).size)
     have HRo := zh ((uh HR0).carry (uh HBo))
     have q4 := ((uh HKp).cell (p := ⟨w.heap.size + 1, 0, none⟩) (lt_of_cell (uh HY0)) (by show ¬ w.heap.size + 1 = mb; omega)).trans (uh HY0)
     have q5 := ((uh HKp).cell (p := ⟨w.heap.size + 1, 1, none⟩) (lt_of_cell (uh HY1)) (by show ¬ w.heap.size + 1 = mb; omega)).trans (uh HY1)
     have HHs := zh (fun W => ref_Has lo hi t W)
     clear ht hmT
     go_wp2_with fail
     refine (uh HHs _).mono ?_
     rintro e W5 ⟨rfl, b5⟩
     have HB5 := zh b5
     have HR5 := zh ((uh HRo).carry b5)
     have HH5 := zh ((uh HH).keeps (Keeps.of_below (fun _ => False) b5 zr) (fun q => q))
     have HKp5 := zh ((uh HKp).then (Keeps.of_below (fun i => i = mb) b5 zr) (fun _ _ q => q))
     have HKc5 := zh ((uh HKc).then (Keeps.of_below (fun i => i = mb) b5 zr) (fun _ _ q => q))
     clear b5 q4 q5 a0 HHs HH HKp HKc HRo HBo
     by_cases hh : lo <= t /\ t < hi
     ·rw [decide_eq_true hh]
      have HEv2 := zh ((uh HEv).add (uh HTm) hh.1 hh.2)
      have k0 := ((uh HKp5).cell (p := ⟨w.heap.size, 0, none⟩) (lt_of_cell (uh HK4).c0) (by show ¬ w.heap.size = mb; omega)).trans (uh HK4).c0
      have k1 := ((uh HKp5).cell (p := ⟨w.heap.size, 1, none⟩) (lt_of_cell (uh HK4).c1) (by show ¬ w.heap.size = mb; omega)).trans (uh HK4).c1
      have k2 := ((uh HKp5).cell (p := ⟨w.heap.size, 2, none⟩) (lt_of_cell (uh HK4).c2) (by show ¬ w.heap.size = mb; omega)).trans (uh HK4).c2
      have k3 := ((uh HKp5).cell (p := ⟨w.heap.size, 3, none⟩) (lt_of_cell (uh HK4).c3) (by show ¬ w.heap.size = mb; omega)).trans (uh HK4).c3
      have hS := rp_said (uh HR5) k c (by omega) t
      rw [<- uh HFf] at hS
      have HS := zh hS
      clear hS hh
      go_wp2_with fail
      refine (uh HS).mono ?_
      rintro e W6 ⟨rfl, b6⟩
      have HH6 := zh ((uh HH5).keeps (Keeps.of_below (fun _ => False) b6 zr) (fun q => q))
      have HKp6 := zh ((uh HKp5).then (Keeps.of_below (fun i => i = mb) b6 zr) (fun _ _ q => q))
      have HKc6 := zh ((uh HKc5).then (Keeps.of_below (fun i => i = mb) b6 zr) (fun _ _ q => q))
      obtain ⟨D, hD, hKS⟩ := uh HH6
      have HD := zh hD
      have HKS := zh hKS
      have hfm := uh HSz c t
      have hKm : K.length < maxLen := by
       have h1 : (c - ca) * 2401 <= 151 * 2401 := Nat.mul_le_mul_right _ (by have := uh HM; omega)
       unfold maxLen
       omega
      obtain ⟨fv, hfv⟩ : ∃ fv, fv = f c t := ⟨_, rfl⟩
      rw [<- hfv] at hfm HEv2 ⊢
      clear b6 k0 k1 k2 k3 HS hD hKS HH5 HKp5 HKc5 hfv HH6
      go_wp2_with (first
       | (at_mapUpdate; refine wpList_mapUpdate_in _ rfl _ _ _ 197 rfl 9 4 keyedS Tryz.underlying197 boolE mb K.length D rfl (uh HD) hKm _ _ _ rfl rfl (WideMaps.keyOf_string_mk Tryz.underlying9 hfm) (.lit (.bool true)) [] rfl ?_))
      intro W9 own9 turn9
      have HH9 := zh (Had.put (uh HKS) (uh HD) fv.data.toList own9)
      have HK9 := zh ((uh HKp6).then (turned_keeps turn9) (fun _ _ q => q))
      have HC9 := zh ((uh HKc6).then (turned_keeps turn9) (fun _ _ q => q))
      have hl9 := addS_len K fv.data.toList
      clear own9 turn9 HD HKS HKp6 HKc6
      go_wp2
      go_roundw
      case rel => exact ⟨m + 1, _, by go_num, by omega, uh HEv2, uh HH9, uh HK9, uh HC9, by omega⟩
      case measure => simp [intOf]; omega
     ·rw [decide_eq_false hh]
      have HEv2 := zh ((uh HEv).skip (uh HTm) hh)
      clear hh
      go_wp2
      go_roundw
      case rel => exact ⟨m + 1, K, by go_num, by omega, uh HEv2, uh HH5, uh HKp5, uh HKc5, by omega⟩
      case measure => simp [intOf]; omega
    ·obtain rfl : m = nT := by omega
     have hlt3 : ¬ (m : Int) < (m : Int) := by omega
     have hev := uh HEv
     rw [uh HnT] at hev
     have HEv2 := zh (hev.turn hca)
     have hk3 : K.length <= (c + 1 - ca) * 2401 := by
      have : (c + 1 - ca) * 2401 = (c - ca) * 2401 + 2401 := by
       rw [show c + 1 - ca = (c - ca) + 1 by omega, Nat.add_mul]
      omega
     have hc150 : c <= 150 := by have := uh HM; omega
     clear hev
     go_wp2
     go_roundw
     case rel => exact ⟨c + 1, K, by go_num, by omega, by omega, uh HEv2, uh HH, uh HKp, hk3⟩
     case measure => simp [intOf]; omega
  ·obtain rfl : c = cb + 1 := by omega
   have hltz : ¬ ((cb + 1 : Nat) : Int) <= (cb : Int) := by omega
   have HBo : Hid (Below w.heap.size w wo) := (uh HB4).trans (keeps_below (uh HKp) (fun i q => by subst q; exact hmw) (uh HB4).size)
   obtain ⟨D, hD, hKS⟩ := uh HH
   have HD := zh hD
   have HKS := zh hKS
   have hmo : mb < wo.heap.size := (uh HH).lt
   have hKm : K.length <= 400000 := by
    have h1 : (cb + 1 - ca) * 2401 <= 151 * 2401 := Nat.mul_le_mul_right _ (by have := uh HM; omega)
    omega
   clear hD hKS HKp HH
   go_wp2_with (first | (at_range; refine wpList_range_own _ rfl _ 197 rfl 9 4 keyedS Tryz.underlying197 boolE mb K.length D rfl (uh HD) ?_; intro w0 hrg0 hg0 hs0))
   try go_frame
   have HS0 : Hid (RgS w mb wo.heap.size K D (Maps.has D) (Maps.has D) (Maps.size D) (.slice none 0 0) [] w0) := by
    have hb0 := below_grown_none hg0
    refine ⟨hrg0, World.ownsRow_nil _ _ _ _, fun x => ?_, List.nodup_nil, (uh HBo).trans (hb0.mono (uh HBo).size), (uh HBo).size, hmo, by omega⟩
    constructor
    ·rintro ⟨s, q, _⟩; cases q
    ·rintro ⟨q1, q2, _⟩
     rw [((uh HKS).has x q1).1] at q2
     cases q2
   clear hrg0 hg0 hs0 HD
   go_loopw [19] (fun u y => ∃ left cnt L, RgS w mb wo.heap.size K D left left cnt u L y) (fun _ y => y.rangeLeft mb wo.heap.size)
   case atStart => exact ⟨_, _, [], uh HS0⟩
   case round =>
    clear HS0
    obtain ⟨left, cnt, L, hI⟩ := hrel
    have HI := zh hI
    clear hI
    go_wp2_with (first | (at_next; refine wpList_next_ranges _ rfl _ rfl 9 keyedS boolE Value.string boolV str_shape boolE_inv mb wo.heap.size K.length D left cnt rfl (uh HI).rg ?done ?more))
    case done =>
     intro _ hl0
     obtain ⟨ad, c, rfl⟩ := row_slice (uh HI).row
     have hLl : L.length <= K.length := by
      have := nodup_len (strs L) K (strs_nodup (uh HI).nodup) (fun x hx => by
       obtain ⟨s, hs, e⟩ := mem_strs.1 hx
       exact (((uh HI).mem x).1 ⟨s, hs, e⟩).1)
      rwa [strs_length] at this
     have HSo := zh (sort_Strings L _ wr (wo.heap.size + 1) (by omega) (uh HI).row)
     have HL0 := zh hl0
     clear hl0
     go_wp2_with fail
     refine (uh HSo).mono ?_
     rintro e W5 ⟨rfl, hs, hg⟩
     have HR : Hid (EverSaysR w f Ts lo hi ca cb (.returned (.tuple #[.slice ad L.length c, .int .i64 0])) W5) := by
      refine ⟨_, srt (strs L), rfl, ownsRow_rebase hs (by have := (uh HI).wr; omega), srt_once L (uh HI).nodup, fun x => ?_, ?_⟩
      ·rw [mem_srt, mem_strs, (uh HI).mem x, uh HEv x]
       constructor
       ·exact fun q => ⟨q.2.2, q.1⟩
       ·exact fun q => ⟨q.2, uh HL0 _, q.1⟩
      ·refine (uh HI).low.grown hg (uh HI).low.size (fun i hi => ?_)
       have h1 := (World.ownsRow.lt (uh HI).row i hi).1
       have h2 := (uh HI).wr
       omega
     rw [uh HTs] at HR
     clear hs hg HSo HI
     go_wp2
     go_ret2
     exact uh HR
    case more =>
     intro s bv kl y ps w1 cnt1 hkey hlx hv hat hrg1 hlt hg1 hs1 hen
     obtain ⟨s', es, rfl, hsm⟩ := WideMaps.string_of_keyOf Tryz.underlying9 hkey
     injection es with es
     subst es
     have hK : s.data.toList ∈ K := by
      rcases Classical.em (s.data.toList ∈ K) with q | q
      ·exact q
      ·have h1 := (uh HKS).hasn _ q
       rw [has_of_at hat] at h1
       cases h1
     have HL1 := zh ((uh HI).came hg1 hrg1)
     have HMs := zh hlt
     have HCt := zh (uh HI).rg.left_eq
     have HLk := zh hlx
     have HKk := zh hK
     clear hkey hv hat hrg1 hlt hlx hg1 hs1 HI hK
     by_cases he : s.data.toList = []
     ·have hse : s = ⟨#[]⟩ := ByteArray.ext (Array.toList_inj.1 he)
      have HI6 := zh ((uh HL1).skip he)
      have HCn : Hid (w1.rangeLeft mb wo.heap.size < wr.rangeLeft mb wo.heap.size) := by
       have := uh HMs
       show _ < _
       rw [(uh HI6).rg.left_eq, uh HCt]
       omega
      clear HL1 he
      subst hse
      go_wp2
      go_roundw
      case rel => exact ⟨_, _, _, uh HI6⟩
      case measure => exact uh HCn
     ·have hse : s ≠ ByteArray.empty := fun q => he (by rw [q]; rfl)
      obtain ⟨n1, n2⟩ := not_empty hse
      have HI2 := zh ((uh HL1).below (below_box w1 (.cells #[.string s] 9)))
      have hLl : L.length <= 400000 := by
       have := nodup_len (strs L) K (strs_nodup (uh HL1).nodup) (fun x hx => by
        obtain ⟨s, hs, e⟩ := mem_strs.1 hx
        exact (((uh HL1).mem x).1 ⟨s, hs, e⟩).1)
       rw [strs_length] at this
       omega
      clear hse
      go_wp2_with (first
       | (at_builtin; refine wpList_appS _ rfl (.tmp 84) (.tmp 86) rfl (wo.heap.size + 1) _ L rfl (uh HI2).row w1.heap.size s rfl ?d0 ?d1 ?d2 ?_))
      case d0 => simp
      case d1 => omega
      case d2 => have := (uh HI2).rs; omega
      intro v9 W7 r1 r2
      have HI7 := zh ((uh HI2).add (uh HLk) (uh HKk) he r2 (by simpa using r1))
      obtain ⟨ad7, cap7, rfl⟩ := row_slice r1
      have HCn : Hid (W7.rangeLeft mb wo.heap.size < wr.rangeLeft mb wo.heap.size) := by
       have := uh HMs
       show _ < _
       rw [(uh HI7).rg.left_eq, uh HCt]
       omega
      clear r1 r2 HI2 HL1 he n1 n2
      go_wp2
      go_roundw
      case rel => exact ⟨_, _, _, uh HI7⟩
      case measure => exact uh HCn
end Go.Proofs.YtfoojmflbifkpaaGreatDoor
