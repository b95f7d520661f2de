/- A region that draws its order, and whose last operations wait for all others: the others in whichever order, then those, one behind the other. So what is read may be taken first even where the last operation writes it. -/
import Derived.StillTail
import Derived.Deep.RegionHeld
namespace Go.Proofs.Ytfcmkaiocnelgaa

variable {P : Program} {ops : Array Oper} {md : Region.Mode} {Q : Exit → Act → World → Prop}

/-- What is to hold behind the head: the tail's walk; at any other end what the whole asks. -/
def behind (P : Program) (ops : Array Oper) (Q : Exit → Act → World → Prop) (tl : List Oper) : Exit → Act → World → Prop
  | .normal, a, w => wpList P ops Q tl a w
  | e, a, w => Q e a w

theorem letsOut_behind {tl : List Oper} (h : LetsOut (behind P ops Q tl)) : LetsOut Q := by
  obtain ⟨a, w, h⟩ := h
  exact ⟨a, w, h⟩

theorem wpOp_behind {tl : List Oper} {i : Nat} {a : Act} {w : World} {K : Act → World → Prop} (h : wpOp P ops (behind P ops Q tl) i K a w) : wpOp P ops Q i K a w := by
  unfold wpOp at h ⊢
  cases e : ops[i]? with
  | none => rw [e] at h; exact h
  | some o =>
    rw [e] at h
    simp only at h ⊢
    by_cases hw : Region.wanted o (yielded ops a.tmps) = true
    · rw [if_pos hw] at h ⊢
      rcases h with h | ⟨h1, h2⟩
      · refine .inl ?_
        unfold Oper.wp at h ⊢
        generalize (execOp a.eval o).run P w = r at h ⊢
        cases r with
        | ok n w' =>
          cases n with
          | enter f args =>
            refine Calls.mono h fun e w'' he => ?_
            cases e with
            | returned v => exact he
            | panicked c => exact he
            | outgrown => exact letsOut_behind he
          | _ => exact h
        | halt x w' => cases x <;> exact h
      · exact .inr ⟨h1, letsOut_behind h2⟩
    · rw [if_neg hw] at h ⊢
      exact h

/-- Every operation of the head waits for elder ones alone. -/
def fwdB (md : Region.Mode) (ops : Array Oper) (n : Nat) : Bool :=
  (List.range n).all fun i => match ops[i]? with
    | some o => o.after.all fun e => !Region.binds md e || decide (e.on < i)
    | none => false

theorem fwd_spec {n i : Nat} (h : fwdB md ops n = true) (hi : i < n) : ∃ o, ops[i]? = some o ∧ ∀ e, e ∈ o.after → Region.binds md e = true → e.on < i := by
  have h1 := List.all_eq_true.1 h i (List.mem_range.2 hi)
  cases e : ops[i]? with
  | none => rw [e] at h1; cases h1
  | some o =>
    rw [e] at h1
    refine ⟨o, rfl, fun x hx hb => ?_⟩
    have := Array.all_eq_true'.1 h1 x hx
    rw [hb] at this
    simpa using this

/-- The head's operations that have not come up, as a list. -/
structure Open (n : Nat) (listed : Array Bool) (U : List Nat) : Prop where
  nodup : U.Nodup
  lt : ∀ i, i ∈ U → i < n
  iff : ∀ i, i < n → (listed.getD i true = false ↔ i ∈ U)

/-- The same, the tail told as if it had come up. -/
structure Marked (n : Nat) (listed marked : Array Bool) : Prop where
  same : ∀ i d, i < n → marked.getD i d = listed.getD i d
  size : marked.size = listed.size

theorem least_ready {n : Nat} {listed : Array Bool} (hf : fwdB md ops n = true) (inv : HeadInv md ops n listed) (hn : n < ops.size) : ∀ (i : Nat), i < n → listed.getD i true = false → ∃ j, j < n ∧ j ∈ Region.ready md ops listed := by
  intro i
  induction i using Nat.strongRecOn with
  | _ i ih =>
    intro hi hun
    by_cases hall : ∃ j, j < i ∧ listed.getD j true = false
    · obtain ⟨j, hj, hju⟩ := hall
      exact ih j hj (by omega) hju
    · obtain ⟨o, ho, hfw⟩ := fwd_spec hf hi
      refine ⟨i, hi, mem_ready.2 ⟨hun, o, ho, fun e he hb => ?_⟩⟩
      have hlt := hfw e he hb
      have hs : e.on < listed.size := by rw [inv.size]; omega
      cases hl : listed.getD e.on false with
      | true => rfl
      | false => exact absurd ⟨e.on, hlt, getD_in hs hl⟩ hall

/-- The head has come up whole: what is left. -/
def doneHead (n m : Nat) : Array Bool := Array.replicate n true ++ Array.replicate m false

theorem doneHead_hi {n m i : Nat} (h : n ≤ i) (hi : i < n + m) : (doneHead n m)[i]? = some false := by
  unfold doneHead
  rw [Array.getElem?_append_right (by simpa using h)]
  have : i - n < m := by omega
  simp [this]

theorem doneHead_lo {n m i : Nat} (h : i < n) : (doneHead n m)[i]? = some true := by
  unfold doneHead
  rw [Array.getElem?_append_left (by simpa using h)]
  simp [h]

theorem done_of {n : Nat} {listed : Array Bool} (inv : HeadInv md ops n listed) (hn : n < ops.size) (h : ∀ i, i < n → listed.getD i true ≠ false) : listed = doneHead n (ops.size - n) := by
  apply Array.ext
  · simp [doneHead, inv.size]; omega
  · intro i h1 h2
    have e2 := Array.getElem?_eq_getElem h2
    rcases Nat.lt_or_ge i n with k | k
    · have := h i k
      simp [h1] at this
      rw [doneHead_lo k] at e2
      rw [this]
      exact Option.some.inj e2
    · have := inv.tail i k (by rw [← inv.size]; exact h1)
      simp [h1] at this
      rw [doneHead_hi k (by simp [doneHead] at h2; exact h2)] at e2
      rw [this]
      exact Option.some.inj e2

theorem wpAny_of_marked {n g : Nat} {tl : List Oper} (hs : Region.sinkB md ops n = true) (hc : Region.chainB md ops n = true) (hn : n < ops.size) (hf : fwdB md ops n = true)
    (hg : tl.length = g) (htl : ∀ j, tl[j]? = ops[n + j]?) (hseq : Region.seqB md ops g n (doneHead n (ops.size - n)) = true) :
    ∀ (f : Nat) (listed marked : Array Bool) (U : List Nat) (a : Act) (w : World), HeadInv md ops n listed → Open n listed U → U.length = f → Marked n listed marked →
      wpAny P md ops (behind P ops Q tl) f marked a w → wpAny P md ops Q (f + g) listed a w
  | 0, listed, marked, U, a, w, inv, hU, hl, _, h => by
    have hd := done_of inv hn (fun i hi hun => by
      have := (hU.iff i hi).1 hun
      rw [List.length_eq_zero_iff.1 hl] at this
      cases this)
    rw [Nat.zero_add]
    have h2 : wpList P ops Q tl a w := h.2
    have := wpAny_of_seq (md := md) (Q' := Q) tl n listed a w htl (by rw [hg, hd]; exact hseq) h2
    rw [hg] at this
    exact this
  | f + 1, listed, marked, U, a, w, inv, hU, hl, hM, h => by
    rw [show f + 1 + g = (f + g) + 1 by omega]
    obtain ⟨u, hu⟩ : ∃ u, u ∈ U := by
      cases U with
      | nil => simp at hl
      | cons u _ => exact ⟨u, by simp⟩
    have hun := (hU.iff u (hU.lt u hu)).2 hu
    refine ⟨fun h0 => ?_, fun i hi => ?_⟩
    · obtain ⟨j, _, hj⟩ := least_ready hf inv hn u (hU.lt u hu) hun
      rw [h0] at hj
      cases hj
    · have hin : i < n := by
        rcases Nat.lt_or_ge i n with k | k
        · exact k
        · exact absurd hi (tail_waits hs hc hn inv _ u rfl (hU.lt u hu) hun i k)
      obtain ⟨hiu, o, ho, hall⟩ := mem_ready.1 hi
      have hi' : i ∈ Region.ready md ops marked := by
        refine mem_ready.2 ⟨by rw [hM.same i true hin]; exact hiu, o, ho, fun e he hb => ?_⟩
        have h1 := hall e he hb
        rcases Nat.lt_or_ge e.on n with k | k
        · rw [hM.same _ false k]; exact h1
        · rcases Nat.lt_or_ge e.on ops.size with k2 | k2
          · rw [getD_both (inv.tail e.on k k2)] at h1; cases h1
          · rw [← inv.size] at k2
            simp [Array.getElem?_eq_none k2] at h1
      have hiU := (hU.iff i hin).1 hiu
      refine wpOp_mono (fun a' w' h' => ?_) (wpOp_behind (h.2 i hi'))
      refine wpAny_of_marked hs hc hn hf hg htl hseq f (listed.setIfInBounds i true) (marked.setIfInBounds i true) (U.erase i) a' w' (inv.set hi hin) ⟨hU.nodup.erase i, fun j hj => hU.lt j (List.mem_of_mem_erase hj), fun j hj => ?_⟩ (by rw [List.length_erase_of_mem hiU]; omega) ⟨fun j d hj => ?_, by simp [hM.size]⟩ h'
      · by_cases hij : i = j
        · subst hij
          have hsz : i < listed.size := by rw [inv.size]; omega
          constructor
          · intro k; simp [hsz] at k
          · intro k; exact absurd k (fun k => by have := (List.Nodup.mem_erase_iff hU.nodup).1 k; exact this.1 rfl)
        · rw [getD_set_ne true hij, hU.iff j hj, List.Nodup.mem_erase_iff hU.nodup]
          exact ⟨fun k => ⟨Ne.symm hij, k⟩, fun k => k.2⟩
      · by_cases hij : i = j
        · subst hij
          have hsz : i < listed.size := by rw [inv.size]; omega
          have hsz' : i < marked.size := by rw [hM.size]; exact hsz
          simp [hsz, hsz']
        · rw [getD_set_ne d hij, getD_set_ne d hij]
          exact hM.same j d hj

/-- Is the region so? The head has n operations. -/
def tailB (md : Region.Mode) (ops : Array Oper) (n : Nat) : Bool :=
  decide (n < ops.size) && Region.sinkB md ops n && Region.chainB md ops n && fwdB md ops n && Region.seqB md ops (ops.size - n) n (doneHead n (ops.size - n))

def markedHead (n m : Nat) : Array Bool := Array.replicate n false ++ Array.replicate m true

theorem wp_region_tail {id : Nat} {a : Act} {w : World} {l : List Oper} (S : World → Prop) (n : Nat) (hm : P.follows .mixedOrders = true) (hB : tailB .any l.toArray n = true) (hS : S w.drew)
    (h : S w.drew → wpAnyH P .any l.toArray (behind P l.toArray Q (l.drop n)) S n (markedHead n (l.toArray.size - n)) a w.drew) : (Code.region id l.toArray true).wp P Q a w := by
  simp only [tailB, Bool.and_eq_true, decide_eq_true_eq] at hB
  obtain ⟨⟨⟨⟨hn, hs⟩, hc⟩, hf⟩, hseq⟩ := hB
  refine wp_region_any hm ?_
  have inv0 : HeadInv .any l.toArray n (Array.replicate l.toArray.size false) :=
    ⟨by simp, fun j oj _ hl => (by rw [getD_replicate_false] at hl; cases hl), fun t _ ht => getD_in (by simpa using ht) (getD_replicate_false _ _)⟩
  have := wpAny_of_marked (Q := Q) (g := l.toArray.size - n) (tl := l.drop n) hs hc hn hf (by simp) (fun j => by simp [List.getElem?_drop]) hseq n (Array.replicate l.toArray.size false) (markedHead n (l.toArray.size - n)) (List.range n) a w.drew inv0
    ⟨List.nodup_range, fun i hi => List.mem_range.1 hi, fun i hi => ⟨fun _ => List.mem_range.2 hi, fun _ => getD_in (by simp at hn ⊢; omega) (getD_replicate_false _ _)⟩⟩ (by simp)
    ⟨fun i d hi => by
      have : i < l.length := by simp at hn; omega
      have e : (markedHead n (l.toArray.size - n))[i]? = some false := by
        unfold markedHead
        rw [Array.getElem?_append_left (by simpa using hi)]
        simp [hi]
      rw [Array.getD_eq_getD_getElem?, Array.getD_eq_getD_getElem?, e]
      simp [this], by simp [markedHead] at hn ⊢; omega⟩ (wpAny_of_held _ _ _ _ (h hS))
  rw [show n + (l.toArray.size - n) = l.toArray.size by omega] at this
  exact this

end Go.Proofs.Ytfcmkaiocnelgaa
