/- Texts of one proof, one behind the other. -/
import Derived.Test.YtbloahcmakjchaaGreatDoorBa
import Derived.Test.YtbloahcmakjchaaGreatDoorBm
import Derived.Test.YtbloahcmakjchaaGreatDoorBk
import Derived.Maps.AppendAt
import Derived.StringKeys
import Derived.Sort.Walk0

/- A time in a span: walked. -/
namespace Go.Proofs.YtbloahcmakjchaaGreatDoor
open Go.RowKit

set_option maxHeartbeats 1000000 in
theorem span_Has (lo hi t : Int) (w : World) :
    Calls Tryz.prog 24 #[.agg #[.int .i64 lo, .int .i64 hi], .int .i64 t] w fun e w' => e = .returned (.bool (decide (lo ≤ t ∧ t < hi))) ∧ Below w.heap.size w w' := by
  by_cases h1 : lo ≤ t
  · by_cases h2 : t < hi
    · have e : decide (lo ≤ t ∧ t < hi) = true := by simp [h1, h2]
      rw [e]
      clear e
      go_enter Tryz.func24, Tryz.ntmps24
      go_wp2
      go_ret
      exact ⟨rfl, below_box _ _⟩
    · have e : decide (lo ≤ t ∧ t < hi) = false := by simp [h2]
      rw [e]
      clear e
      go_enter Tryz.func24, Tryz.ntmps24
      go_wp2
      go_ret
      exact ⟨rfl, below_box _ _⟩
  · have e : decide (lo ≤ t ∧ t < hi) = false := by simp [h1]
    rw [e]
    clear e
    go_enter Tryz.func24, Tryz.ntmps24
    go_wp2
    go_ret
    exact ⟨rfl, below_box _ _⟩

end Go.Proofs.YtbloahcmakjchaaGreatDoor

/- PastStays: what lies in memory while transactions are said. -/
namespace Go.Proofs.YtbloahcmakjchaaGreatDoor
open Go.RowKit Go.Maps

/-! What is said, plain. -/
theorem sayL_old (now : Int) (k : Ky) (c t : Int) (hc : c ≠ now) : ∀ (l : List Fop) (S : Ky → Int → Int → ByteArray), sayL S now l k c t = S k c t
  | [], _ => rfl
  | o :: l, S => by
    show sayL (setS S (kyO o) now o.lo o.hi o.value) now l k c t = S k c t
    rw [sayL_old now k c t hc l]
    unfold setS
    rw [if_neg (fun q => hc q.2.1)]
theorem sayL_same (now : Int) (k : Ky) (t : Int) : ∀ (l : List Fop) (S : Ky → Int → Int → ByteArray), (∀ o, o ∈ l → ¬ (kyO o = k ∧ o.lo ≤ t ∧ t < o.hi)) → sayL S now l k now t = S k now t
  | [], _, _ => rfl
  | o :: l, S, h => by
    show sayL (setS S (kyO o) now o.lo o.hi o.value) now l k now t = S k now t
    rw [sayL_same now k t l _ (fun x hx => h x (by simp [hx]))]
    unfold setS
    rw [if_neg (fun q => h o (by simp) ⟨(sameK_iff.1 q.1).symm, q.2.2⟩)]
theorem said_old (S : Ky → Int → Int → ByteArray) (now : Int) (l : List Fop) (k : Ky) (c t : Int) (hc : c ≤ now) : sayL (nextS S now) (now + 1) l k c t = S k c t := by
  rw [sayL_old _ _ _ _ (by omega)]
  unfold nextS
  rw [if_neg (by omega)]
theorem said_same (S : Ky → Int → Int → ByteArray) (now : Int) (l : List Fop) (k : Ky) (t : Int) (h : ∀ o, o ∈ l → ¬ (kyO o = k ∧ o.lo ≤ t ∧ t < o.hi)) : sayL (nextS S now) (now + 1) l k (now + 1) t = S k now t := by
  rw [sayL_same _ _ _ _ _ h]
  unfold nextS
  rw [if_pos rfl]

theorem sayL_small (now : Int) : ∀ (l : List Fop) (S : Ky → Int → Int → ByteArray), (∀ o, o ∈ l → o.value.size ≤ 12) → (∀ k c t, (S k c t).size ≤ 12) → ∀ k c t, (sayL S now l k c t).size ≤ 12
  | [], _, _, h => h
  | o :: l, S, hl, h => by
    refine sayL_small now l (setS S (kyO o) now o.lo o.hi o.value) (fun x hx => hl x (by simp [hx])) (fun k c t => ?_)
    unfold setS
    split
    · exact hl o (by simp)
    · exact h k c t
theorem nextS_small {S : Ky → Int → Int → ByteArray} (now : Int) (h : ∀ k c t, (S k c t).size ≤ 12) : ∀ k c t, (nextS S now k c t).size ≤ 12 := fun k c t => by
  unfold nextS
  split
  · exact h k now t
  · exact h k c t

/-! Rows beside the past. -/
def Out (F : Nat → Prop) (v : Value) : Prop := ∀ g, v.ownBlock = some g → ¬ F g
theorem ownsRow_keeps {w w' : World} {F : Nat → Prop} {base : Nat} {e : TypeId} {size : Nat} {v : Value} {n : Nat} {xs : List Value} (h : w.ownsRow base e size v n xs) (hk : Keeps F w w') (ho : Out F v) : w'.ownsRow base e size v n xs := by
  obtain ⟨h1, h2⟩ := h
  refine ⟨h1, ?_⟩
  rcases h2 with h2 | ⟨g, cap, cur, rfl, hg, hh, r⟩
  · exact .inl h2
  · refine .inr ⟨g, cap, cur, rfl, hg, ?_, r⟩
    rw [hk.block g (block_lt hh) (ho g rfl)]
    exact hh
theorem Out.grew {w w' : World} {F F' : Nat → Prop} {base : Nat} {e : TypeId} {size : Nat} {v : Value} {n : Nat} {xs : List Value} (ho : Out F v) (h : w.ownsRow base e size v n xs) (hg : Grew w F F' w') : Out F' v := fun g hv q => by
  rcases hg.1 g q with r | r
  · exact ho g hv r
  · have := (World.ownsRow.lt h g hv).2
    omega
theorem Out.new {w w' : World} {F : Nat → Prop} {base : Nat} {e : TypeId} {size : Nat} {v : Value} {n : Nat} {xs : List Value} (h : w'.ownsRow base e size v n xs) (hF : ∀ i, F i → i < w.heap.size) (hb : w.heap.size ≤ base) : Out F v := fun g hv q => by
  have := (World.ownsRow.lt h g hv).1
  have := hF g q
  omega

/-- A row of cells of one: where it lies. -/
theorem own1_at {w : World} {base : Nat} {e : TypeId} {v : Value} {n : Nat} {xs : List Value} (h : w.ownsRow base e 1 v n xs) : ∃ g ad c, v = .slice ad n c ∧ ∀ j, j < n → ad = some ⟨g, 0, none⟩ ∧ w.cell? ⟨g, j, none⟩ = xs[j]? := by
  rcases h.2 with ⟨rfl, rfl⟩ | ⟨g, cap, cur, rfl, hg, hh, h3, h4, h5, h6⟩
  · exact ⟨0, none, 0, rfl, fun j hj => by omega⟩
  · refine ⟨g, _, cap, rfl, fun j hj => ⟨rfl, ?_⟩⟩
    unfold World.cell?
    simp only [hh]
    rw [← Array.getElem?_toList, ← h6, List.getElem?_take_of_lt (by omega)]
    rfl

def RowV (y : World) (base : Nat) (v : Value) (vs : List Value) : Prop := y.ownsRow base 68 1 v vs.length vs

theorem infoV : (Tryz.prog.info? 68).map (fun i => (i.zero, i.size, i.bytes)) = some (some (.slice none 0 0), 1, 24) := by kernel_rfl

/-- append of one row to a list of rows. -/
theorem wpList_appV (w : World) {ops : Array Oper} {rest : List Oper} {o : Oper} {a : Act} {Q : Exit → Act → World → Prop} (hgd : o.guard = none) (s x : Operand)
    (ho : o.op = .call { callee := .builtin .append, args := #[s, x], argTypes := #[67, 67] })
    (base : Nat) (v : Value) (L : List Value) (hs : a.eval s = v) (hown : RowV w base v L)
    (b : Nat) (ad : Option Addr) (n cap : Nat) (hx : a.eval x = .slice (some ⟨b, 0, none⟩) 1 1) (hc : w.cell? ⟨b, 0, none⟩ = some (.slice ad n cap))
    (hlen : L.length ≤ 1000) (hbase : base ≤ w.heap.size)
    (h : ∀ v' w', RowV w' base v' (L ++ [.slice ad n cap]) → w.grownBy w' v.ownBlock → (v'.ownBlock = v.ownBlock ∨ v'.ownBlock = some w.heap.size) → wpList Tryz.prog ops Q rest (a.put o.dst v') w') : wpList Tryz.prog ops Q (o :: rest) a w := by
  obtain ⟨i0, hi0, hz0, hz1, hz2⟩ := info_parts infoV
  refine wpList_append_own_at w hgd s x 67 ho base 68 i0 (.slice none 0 0) 1 24 Tryz.underlying67 hi0 hz0 hz1 hz2 rfl (by decide) v L.length L hs hown ⟨b, 0, none⟩ 1 1 [.slice ad n cap] hx rfl ?_ ?_ ?_ ?_ hbase ?_
  · intro j u hj
    match j, hj with
    | 0, hj => simp at hj; subst hj; simpa [Addr.add] using hc
  · intro u hu
    simp at hu
    subst hu; rfl
  · unfold maxLen; omega
  · omega
  · intro v' w' k1 k2 _ k3
    refine h v' w' ?_ k2 k3
    unfold RowV
    simpa using k1

/-- Two rows of cells of other types lie apart. -/
theorem types_apart {y : World} {b1 b2 : Nat} {e1 e2 : TypeId} {s1 s2 : Nat} {u v : Value} {n m : Nat} {xs ys : List Value} (hne : e1 ≠ e2) (h : y.ownsRow b1 e1 s1 u n xs) (k : y.ownsRow b2 e2 s2 v m ys) : v.ownBlock = none ∨ v.ownBlock ≠ u.ownBlock := by
  rcases h.2 with ⟨rfl, _⟩ | ⟨g, cap, cur, rfl, _, hb, _⟩
  · rcases k.2 with ⟨rfl, _⟩ | ⟨g', cap', cur', rfl, _, hb', _⟩
    · exact .inl rfl
    · exact .inr (by simp [Value.ownBlock])
  · rcases k.2 with ⟨rfl, _⟩ | ⟨g', cap', cur', rfl, _, hb', _⟩
    · exact .inl rfl
    · refine .inr (fun e => ?_)
      have : g' = g := by simpa [Value.ownBlock] using e
      subst this
      rw [hb] at hb'
      injection hb' with hb'
      injection hb' with _ hb' _
      exact hne hb'

/-- Transactions, and what was said so far, in memory. -/
structure SyI (w : World) (n bx base : Nat) (k : Ky) (now : Int) (S : Ky → Int → Int → ByteArray) (F : Nat → Prop) (u7 : Value) (vs : List Value) (u11 : Value) (ts : List Value) (W : World) : Prop where
  st : St n bx k now S w W F
  nb : n < base
  xb : bx < base
  bW : base ≤ W.heap.size
  was : RowV W base u7 vs
  wasF : Out F u7
  rows : ∀ v, v ∈ vs → ∃ L, RowS W base v L
  rowsF : ∀ v, v ∈ vs → Out F v
  rowsS : ∀ i, (h : i < vs.length) → RowS W base vs[i] (rowOf (S k (i : Int)) 75)
  txs : RowL W base u11 ts
  txsF : Out F u11
  ops : ∀ v, v ∈ ts → Out F v ∧ ∃ l, okL l ∧ RowO W base v l
  sz : ∀ k c t, (S k c t).size ≤ 12

theorem SyI.below {w : World} {n bx base : Nat} {k : Ky} {now : Int} {S : Ky → Int → Int → ByteArray} {F : Nat → Prop} {u7 : Value} {vs : List Value} {u11 : Value} {ts : List Value} {W W' : World} (h : SyI w n bx base k now S F u7 vs u11 ts W) (hb : Below W.heap.size W W') : SyI w n bx base k now S F u7 vs u11 ts W' :=
  ⟨h.st.below hb, h.nb, h.xb, Nat.le_trans h.bW hb.size, ownsRow_carry h.was hb, h.wasF, fun v hv => by
    obtain ⟨L, q⟩ := h.rows v hv
    exact ⟨L, q.carry hb⟩, h.rowsF, fun i hi => (h.rowsS i hi).carry hb, h.txs.carry hb, h.txsF, fun v hv => by
    obtain ⟨q, l, a, b⟩ := h.ops v hv
    exact ⟨q, l, a, b.carry hb⟩, h.sz⟩

/-- A transaction is let be. -/
theorem SyI.commit {w : World} {n bx base : Nat} {k : Ky} {now : Int} {S : Ky → Int → Int → ByteArray} {F : Nat → Prop} {u7 : Value} {vs : List Value} {u11 : Value} {ts : List Value} {W : World} (h : SyI w n bx base k now S F u7 vs u11 ts W) {v : Value} (hv : v ∈ ts) (h0 : 0 ≤ now) (h1 : now < 150) (hlen : (vs.length : Int) ≤ now + 1) :
    ∃ l, okL l ∧ RowO W base v l ∧ Calls Tryz.prog 13 #[.pointer (some ⟨n, 0, none⟩), v] W fun e y => e = .returned .nilIface ∧ RowO y base v l ∧ ∃ F', SyI w n bx base k (now + 1) (sayL (nextS S now) (now + 1) l) F' u7 vs u11 ts y := by
  obtain ⟨hO, l, hl, hr⟩ := h.ops v hv
  have hne : l ≠ [] := fun e => by
    have := hl.1
    rw [e] at this
    simp at this
  obtain ⟨g, cap, rfl, hat, _⟩ := hr.at hne
  refine ⟨l, hl, hr, (commit_ok h.st.past l g 0 cap hl hat (hO g rfl) h.st.tabs h0 h1 (by omega)).mono ?_⟩
  rintro e y ⟨rfl, hc⟩
  obtain ⟨F', p, gr⟩ := hc
  have hk := gr.2
  have hF : ∃ F'', St n bx k (now + 1) (sayL (nextS S now) (now + 1) l) w y F'' ∧ F'' = F' := by
    have hn : ¬ F bx := fun q => (h.st.own _ q).2 rfl
    have hb := keeps_below gr.2 (fun i q => (h.st.own i q).1) (Nat.le_of_lt h.st.nlt)
    refine ⟨F', ⟨p, fun i q => ?_, h.st.box.keeps gr.2 hn, h.st.tab, h.st.base, h.st.low.trans hb, Nat.lt_of_lt_of_le h.st.lt gr.2.size, Nat.lt_of_lt_of_le h.st.nlt gr.2.size⟩, rfl⟩
    rcases gr.1 i q with r | r
    · exact h.st.own i r
    · have := h.st.nlt
      have := h.st.lt
      omega
  obtain ⟨_, hst, rfl⟩ := hF
  refine ⟨rfl, ownsRow_keeps hr hk hO, _, ⟨hst, h.nb, h.xb, Nat.le_trans h.bW hk.size, ownsRow_keeps h.was hk h.wasF, h.wasF.grew h.was gr, fun v hv => ?_, fun v hv => ?_, fun i hi => ?_, ownsRow_keeps h.txs hk h.txsF, h.txsF.grew h.txs gr, fun v hv => ?_, sayL_small _ l _ (fun o ho => (op_fit (hl.2.2 o ho)).2.2.1) (nextS_small now h.sz)⟩⟩
  · obtain ⟨L, q⟩ := h.rows v hv
    exact ⟨L, ownsRow_keeps q hk (h.rowsF v hv)⟩
  · obtain ⟨L, q⟩ := h.rows v hv
    exact (h.rowsF v hv).grew q gr
  · have q := ownsRow_keeps (h.rowsS i hi) hk (h.rowsF _ (List.getElem_mem hi))
    have e : rowOf (sayL (nextS S now) (now + 1) l k (i : Int)) 75 = rowOf (S k (i : Int)) 75 := by
      unfold rowOf
      refine List.map_congr_left fun t _ => ?_
      rw [said_old _ _ _ _ _ _ (by omega)]
    rw [e]
    exact q
  · obtain ⟨q, l', a, b⟩ := h.ops v hv
    exact ⟨q.grew b gr, l', a, ownsRow_keeps b hk q⟩

/-- A row is put behind the others. -/
theorem SyI.push {w : World} {n bx base : Nat} {k : Ky} {now : Int} {S : Ky → Int → Int → ByteArray} {F : Nat → Prop} {u7 : Value} {vs : List Value} {u11 : Value} {ts : List Value} {W W' : World} (h : SyI w n bx base k now S F u7 vs u11 ts W) {r u7' : Value} (hr : RowS W base r (rowOf (S k (vs.length : Int)) 75)) (hrF : Out F r) (hg : W.grownBy W' u7.ownBlock) (hown : RowV W' base u7' (vs ++ [r])) (hloc : u7'.ownBlock = u7.ownBlock ∨ u7'.ownBlock = some W.heap.size) : SyI w n bx base k now S F u7' (vs ++ [r]) u11 ts W' := by
  have hk := keeps_grown hg
  have hge : ∀ i, some i = u7.ownBlock → base ≤ i := fun i e => (World.ownsRow.lt h.was i e.symm).1
  have kp : ∀ {b : Nat} {v : Value} {L : List ByteArray}, RowS W b v L → RowS W' b v L := fun q => World.ownsRow.kept q hg (types_apart (by decide) h.was q)
  have hb : Below n W W' := keeps_below hk (fun i e => by have := hge i e; have := h.nb; omega) (Nat.le_of_lt h.st.nlt)
  refine ⟨⟨h.st.past.keeps hk (fun i hi e => h.wasF i e.symm hi), h.st.own, h.st.box.keeps hk (fun e => by have := hge bx e; have := h.xb; omega), h.st.tab, h.st.base, h.st.low.trans hb, Nat.lt_of_lt_of_le h.st.lt hg.size, Nat.lt_of_lt_of_le h.st.nlt hg.size⟩, h.nb, h.xb, Nat.le_trans h.bW hg.size, hown, ?_, fun v hv => ?_, fun v hv => ?_, fun i hi => ?_, World.ownsRow.kept h.txs hg (types_apart (by decide) h.was h.txs), h.txsF, fun v hv => ?_, h.sz⟩
  · rcases hloc with e | e
    · intro g q
      exact h.wasF g (by rw [← e]; exact q)
    · intro g q z
      rw [e] at q
      cases q
      exact Nat.lt_irrefl _ (h.st.past.lt _ z)
  · rcases List.mem_append.1 hv with q | q
    · obtain ⟨L, z⟩ := h.rows v q
      exact ⟨L, kp z⟩
    · obtain rfl := List.mem_singleton.1 q
      exact ⟨_, kp hr⟩
  · rcases List.mem_append.1 hv with q | q
    · exact h.rowsF v q
    · obtain rfl := List.mem_singleton.1 q
      exact hrF
  · by_cases q : i < vs.length
    · rw [List.getElem_append_left q]
      exact kp (h.rowsS i q)
    · have : i = vs.length := by simp at hi; omega
      subst this
      rw [List.getElem_append_right (Nat.le_refl _)]
      simpa using kp hr
  · obtain ⟨q, l, a, b⟩ := h.ops v hv
    exact ⟨q, l, a, World.ownsRow.kept b hg (types_apart (by decide) h.was b)⟩

end Go.Proofs.YtbloahcmakjchaaGreatDoor

/- A set of texts in a map. -/
namespace Go.Proofs.YtbloahcmakjchaaGreatDoor
open Go.RowKit Go.Maps

def boolE : Value → Option (DataW Unit × List MemPlace)
  | .bool b => some (.lit (.bool b), [])
  | _ => none
theorem boolE_at {v : Value} {b : Bool} {ps : List MemPlace} (h : boolE v = some (.lit (.bool b), ps)) : v = .bool b := by
  unfold boolE at h
  split at h
  · injection h with h
    injection h with h _
    injection h with h
    injection h with h
    rw [h]
  · cases h
theorem keyedS : Keyed Tryz.prog 9 := string_keyed Tryz.underlying9
theorem zero_bool (w : World) : (zeroValue 4).run Tryz.prog w = .ok (.bool false) w := by kernel_rfl

/-- What the map holds: these texts. -/
structure KeysS (D : DataW Unit) (K : List (List UInt8)) : Prop where
  has : ∀ x, x ∈ K → Maps.has D (.string x) = true ∧ ∀ z, D.atKey (.string x) z = .lit (.bool true)
  hasn : ∀ x, x ∉ K → Maps.has D (.string x) = false
  size : Maps.size D = K.length
  nodup : K.Nodup

theorem keysS_none : KeysS (.map []) [] := ⟨by simp, fun _ _ => rfl, rfl, List.nodup_nil⟩

theorem str_ne {x y : List UInt8} (h : x ≠ y) : Lit.string x ≠ .string y := by
  intro e
  cases e
  exact h rfl

/-- A text comes. -/
def addS (K : List (List UInt8)) (x : List UInt8) : List (List UInt8) := if x ∈ K then K else x :: K
theorem mem_addS {K : List (List UInt8)} {x y : List UInt8} : y ∈ addS K x ↔ y = x ∨ y ∈ K := by
  unfold addS
  by_cases h : x ∈ K
  · rw [if_pos h]
    constructor
    · exact .inr
    · rintro (rfl | q)
      · exact h
      · exact q
  · rw [if_neg h, List.mem_cons]

theorem KeysS.put {D : DataW Unit} {K : List (List UInt8)} (h : KeysS D K) (ht : Tidy D) (x : List UInt8) : KeysS (D.put (.string x) (.lit (.bool true))) (addS K x) := by
  refine ⟨fun y hy => ?_, fun y hy => ?_, ?_, ?_⟩
  · by_cases e : y = x
    · subst e
      exact ⟨Maps.has_put_same (k := .string y) ht.isMap trivial _, fun z => Maps.atKey_put_same (k := .string y) ht.isMap trivial _ _⟩
    · have hk : y ∈ K := by
        rcases mem_addS.1 hy with q | q
        · exact absurd q e
        · exact q
      obtain ⟨h1, h2⟩ := h.has y hk
      exact ⟨by rw [Maps.has_put_other (str_ne e)]; exact h1, fun z => by rw [Maps.atKey_put_other (str_ne e)]; exact h2 z⟩
  · have e : y ≠ x := fun q => hy (mem_addS.2 (.inl q))
    rw [Maps.has_put_other (str_ne e)]
    exact h.hasn y (fun q => hy (mem_addS.2 (.inr q)))
  · rw [Maps.size_put ht]
    unfold addS
    by_cases q : x ∈ K
    · rw [if_pos q, (h.has x q).1, if_pos rfl, h.size]
    · rw [if_neg q, h.hasn x q]
      simp [h.size]
  · unfold addS
    by_cases q : x ∈ K
    · rw [if_pos q]; exact h.nodup
    · rw [if_neg q]; exact List.nodup_cons.2 ⟨q, h.nodup⟩

def Had (y : World) (mb : Nat) (K : List (List UInt8)) : Prop := ∃ D, y.ownsMap Tryz.prog 9 boolE mb K.length D ∧ KeysS D K
theorem Had.keeps {y y' : World} {mb : Nat} {K : List (List UInt8)} {F : Nat → Prop} (h : Had y mb K) (hk : Keeps F y y') (hf : ¬ F mb) : Had y' mb K := by
  obtain ⟨D, h1, h2⟩ := h
  exact ⟨D, ownsMap_keeps h1 hk hf, h2⟩
theorem Had.lt {y : World} {mb : Nat} {K : List (List UInt8)} (h : Had y mb K) : mb < y.heap.size := by
  obtain ⟨D, h1, _⟩ := h
  exact h1.lt
theorem had_new (y : World) : Had (y.alloc (.map #[] 0)) y.heap.size [] := ⟨.map [], World.ownsMap_made y Tryz.prog 9 boolE, keysS_none⟩
theorem Had.put {y y' : World} {mb n : Nat} {K : List (List UInt8)} {D : DataW Unit} (h2 : KeysS D K) (h1 : y.ownsMap Tryz.prog 9 boolE mb K.length D) (x : List UInt8) (ho : y'.ownsMap Tryz.prog 9 boolE mb n (D.put (.string x) (.lit (.bool true)))) : Had y' mb (addS K x) := by
  have hk := h2.put (h1.tidy keyedS) x
  refine ⟨_, ?_, hk⟩
  have := ownsMap_size ho
  rw [hk.size] at this
  exact this
theorem Had.look {y : World} {mb : Nat} {K : List (List UInt8)} (h : Had y mb K) {x : ByteArray} (hx : x.data.toList ∈ K) (hs : x.size ≤ maxLen) : (Instr.lookup 84 (.map (some mb)) (.string x) false).run Tryz.prog y = .ok (.bool true) y := by
  obtain ⟨D, h1, h2⟩ := h
  obtain ⟨v, ps, hr, hv⟩ := h1.lookup keyedS Tryz.underlying84 (zero_bool y) (zd := .lit (.bool false)) (zp := []) rfl (WideMaps.keyOf_string_mk Tryz.underlying9 hs)
  rw [(h2.has _ hx).2] at hv
  rw [hr, boolE_at hv]
theorem Had.len {y : World} {mb : Nat} {K : List (List UInt8)} (h : Had y mb K) (ty : TypeId) : (Builtin.len_ #[84] ty #[.map (some mb)]).run Tryz.prog y = .ok (.int .i64 (K.length : Nat)) y := by
  obtain ⟨D, h1, h2⟩ := h
  rw [h1.len Tryz.underlying84 ty, h2.size]

/-- What was met so far, behind counts, at times. -/
def Met75 (f : Int → Int → ByteArray) (a t : Nat) (x : List UInt8) : Prop := ∃ a' t' : Nat, (a' < a ∧ t' < 75 ∨ a' = a ∧ t' < t) ∧ (f (a' : Int) (t' : Int)).data.toList = x
def HadI (f : Int → Int → ByteArray) (a t : Nat) (K : List (List UInt8)) : Prop := ∀ x, x ∈ K ↔ x ≠ [] ∧ Met75 f a t x

theorem HadI.start (f : Int → Int → ByteArray) : HadI f 0 0 [] := fun x => by
  constructor
  · intro h; cases h
  · rintro ⟨_, a', t', h, _⟩
    omega
theorem HadI.add {f : Int → Int → ByteArray} {a t : Nat} {K : List (List UInt8)} (h : HadI f a t K) (hne : (f (a : Int) (t : Int)).data.toList ≠ []) : HadI f a (t + 1) (addS K (f (a : Int) (t : Int)).data.toList) := fun x => by
  rw [mem_addS, h x]
  constructor
  · rintro (rfl | ⟨q, a', t', r, e⟩)
    · exact ⟨hne, a, t, .inr ⟨rfl, by omega⟩, rfl⟩
    · exact ⟨q, a', t', by omega, e⟩
  · rintro ⟨q, a', t', r, e⟩
    by_cases z : a' = a ∧ t' = t
    · obtain ⟨rfl, rfl⟩ := z
      exact .inl e.symm
    · exact .inr ⟨q, a', t', by omega, e⟩
theorem HadI.skip {f : Int → Int → ByteArray} {a t : Nat} {K : List (List UInt8)} (h : HadI f a t K) (hne : (f (a : Int) (t : Int)).data.toList = []) : HadI f a (t + 1) K := fun x => by
  rw [h x]
  constructor
  · rintro ⟨q, a', t', r, e⟩
    exact ⟨q, a', t', by omega, e⟩
  · rintro ⟨q, a', t', r, e⟩
    by_cases z : a' = a ∧ t' = t
    · obtain ⟨rfl, rfl⟩ := z
      exact absurd (e.symm.trans hne) q
    · exact ⟨q, a', t', by omega, e⟩
theorem HadI.turn {f : Int → Int → ByteArray} {a : Nat} {K : List (List UInt8)} (h : HadI f a 75 K) : HadI f (a + 1) 0 K := fun x => by
  rw [h x]
  constructor
  · rintro ⟨q, a', t', r, e⟩
    exact ⟨q, a', t', by omega, e⟩
  · rintro ⟨q, a', t', r, e⟩
    exact ⟨q, a', t', by omega, e⟩

theorem nodup_of_lt {L : List (List UInt8)} (h : L.Pairwise (· < ·)) : L.Nodup := h.imp (fun {a b} q e => by
  subst e
  exact absurd q (List.lt_irrefl a))

/-- What was ever said, told twice, is as much. -/
theorem ever_had {f : Int → Int → ByteArray} {n : Nat} {K L : List (List UInt8)} (hK : HadI f (n + 1) 0 K) (hn : K.Nodup) (hL : L.Pairwise (· < ·)) (hm : ∀ x, x ∈ L ↔ x ≠ [] ∧ ∃ c t, (0 : Int) ≤ c ∧ c ≤ (n : Int) ∧ 0 ≤ t ∧ t < 75 ∧ (f c t).data.toList = x) : (∀ x, x ∈ L ↔ x ∈ K) ∧ L.length = K.length := by
  have h : ∀ x, x ∈ L ↔ x ∈ K := fun x => by
    rw [hm, hK x]
    constructor
    · rintro ⟨q, c, t, h1, h2, h3, h4, e⟩
      refine ⟨q, c.toNat, t.toNat, by omega, ?_⟩
      rw [Int.toNat_of_nonneg h1, Int.toNat_of_nonneg h3]
      exact e
    · rintro ⟨q, a', t', r, e⟩
      exact ⟨q, a', t', by omega, by omega, by omega, by omega, e⟩
  exact ⟨h, Nat.le_antisymm (nodup_len L K (nodup_of_lt hL) (fun x hx => (h x).1 hx)) (nodup_len K L hn (fun x hx => (h x).2 hx))⟩

end Go.Proofs.YtbloahcmakjchaaGreatDoor
