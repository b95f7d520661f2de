/- Texts of one proof, one behind the other. -/
import Derived.Test.YtfoojmflbifkpaaGreatDoorCo
import Derived.Test.YtfoojmflbifkpaaGreatDoorCn
import Derived.Test.YtfoojmflbifkpaaGreatDoorBh
import Derived.Test.YtfoojmflbifkpaaGreatDoorBw
import Derived.ProofKit
import Derived.OpenShut
import Derived.ChangeOld
import Derived.ChangeSame
import Derived.ChangeVars
import Derived.RowKit
import Derived.Deep.Slices
import Derived.Deep.Strs
import Derived.Lib.SmallJoins

/- Both pasts beside each other, wherever they lie: each commits. -/
namespace Go.Proofs.YtfoojmflbifkpaaGreatDoor
open Go.RowKit Go.Maps
structure PqI (w y : World) (P R : Nat) (txs : List (List Fop)) (known : Int) (F G : Nat → Prop) : Prop where
  two : TwoP y (pl0 P) R txs known F G
  k0 : 0 ≤ known
  k1 : known ≤ (txs.length : Int)
  d : ∀ i, G i → ¬ F i
  fge : ∀ i, F i → w.heap.size ≤ i
  rge : w.heap.size ≤ R
  low : Below w.heap.size w y
def PqE (w y : World) (P R : Nat) : Prop := ∃ txs known F G, PqI w y P R txs known F G
theorem PqI.below {w y y' : World} {P R : Nat} {txs : List (List Fop)} {known : Int} {F G : Nat → Prop} (h : PqI w y P R txs known F G) (hb : Below y.heap.size y y') : PqI w y' P R txs known F G :=
  ⟨h.two.below hb, h.k0, h.k1, h.d, h.fge, h.rge, h.low.trans (hb.mono h.low.size)⟩
theorem PqE.below {w y y' : World} {P R : Nat} (h : PqE w y P R) (hb : Below y.heap.size y y') : PqE w y' P R := by
  obtain ⟨_, _, _, _, h⟩ := h
  exact ⟨_, _, _, _, h.below hb⟩
theorem PqE.low {w y : World} {P R : Nat} (h : PqE w y P R) : Below w.heap.size w y := by
  obtain ⟨_, _, _, _, h⟩ := h
  exact h.low
theorem PqI.step {w y y1 y2 : World} {P R : Nat} {txs txs' : List (List Fop)} {known known' : Int} {F G F' G' : Nat → Prop} (h : PqI w y P R txs known F G) (hp : PastT y1 (pl0 P) txs' known' F') (hg : Grew y F F' y1) (hq : RefQ y2 R txs' known' G') (hG : ∀ i, G' i → G i ∨ y1.heap.size ≤ i) (hk : Keeps (fun j => j = R) y1 y2) (h0 : 0 ≤ known') (h1 : known' ≤ (txs'.length : Int)) : PqI w y2 P R txs' known' F' G' := by
  have hz := hg.2.size
  have hR : R < y.heap.size := h.two.q.lt R h.two.q.r
  have hF1 : ∀ i, F' i → i ≠ R := fun i hi e => by
    subst e
    rcases hg.1 _ hi with q | q
    · exact h.d _ h.two.q.r q
    · omega
  have hw := h.low.size
  refine ⟨⟨hp.keeps hk hF1, hq⟩, h0, h1, fun i hi q => ?_, fun i hi => ?_, h.rge, ?_⟩
  · have hlt := PastW.lt hp i q
    rcases hG i hi with r | r
    · rcases hg.1 i q with s | s
      · exact h.d i r s
      · have := h.two.q.lt i r
        omega
    · omega
  · rcases hg.1 i hi with s | s
    · exact h.fge i s
    · omega
  · refine (h.low.trans (keeps_below hg.2 h.fge hw)).trans (keeps_below hk (fun i hi => ?_) (by omega))
    have := h.rge
    omega
def CommitQ (w : World) (P R : Nat) (v : Value) (F : Nat → Prop) (y : World) : Prop :=
  Calls Tryz.prog 7 #[.pointer (some ⟨P, 0, none⟩), v] y fun e y1 => ∃ u, e = .returned u ∧ Keeps F y y1 ∧
    Calls Tryz.prog 8 #[.pointer (some ⟨R, 0, none⟩), v] y1 fun e2 y2 => ∃ n i : Int, e2 = .returned (.agg #[.int .i64 n, .int .i64 i]) ∧ Keeps (fun j => j = R) y1 y2 ∧ PqE w y2 P R ∧
      Calls Tryz.prog 6 #[u, .agg #[.int .i64 n, .int .i64 i]] y2 fun e3 y3 => e3 = .returned (.bool true) ∧ Below y2.heap.size y2 y3
theorem commit_two {w y : World} {P R : Nat} {txs : List (List Fop)} {known : Int} {F G : Nat → Prop} (h : PqI w y P R txs known F G) (ht : Tab w) (hg : ErrorType w) (l : List Fop) (v : Value) (hn : l.length < 1099511627776) (hs : ∀ x, x ∈ l → Small x) (hr : ReadsOps y v l) (hv : l ≠ [] → ∀ b o n c, v = .slice (some ⟨b, o, none⟩) n c → ¬ F b ∧ b ≠ R) : CommitQ w P R v F y := by
  have hty := ht.carry h.low
  unfold CommitQ
  by_cases hl : 1 ≤ l.length ∧ l.length ≤ 8
  · rcases first_bad l with hok | ⟨i0, hb⟩
    · have hokl : okL l := ⟨hl.1, hl.2, hok⟩
      by_cases hf : txs.length < 150
      · obtain ⟨ad, cap, rfl, hO⟩ := hr
        rcases hO with rfl | ⟨b, off, rfl, hO⟩
        · simp at hl
        obtain ⟨v1, v2⟩ := hv (by rintro rfl; simp at hl) b off l.length cap rfl
        refine (commit_txs h.two.p l b off cap hokl hO v1 hty hf h.k1).mono ?_
        rintro e y1 ⟨rfl, F', p1, g1⟩
        refine ⟨_, rfl, g1.2, ?_⟩
        have hO1 := opsAt_keeps hO g1.2 v1
        have q1 := h.two.q.keeps g1.2 h.d
        have hl1 : Below w.heap.size w y1 := h.low.trans (keeps_below g1.2 h.fge h.low.size)
        refine (rp_commit_ok (cap := cap) q1 hO1 hokl (says_ok l _ y1 hs ⟨_, cap, rfl, .inr ⟨b, off, rfl, hO1⟩⟩ (ht.carry hl1) hokl) hf).mono ?_
        rintro e y2 ⟨rfl, ⟨G', q2, hG⟩, k2⟩
        have hn2 : PqI w y2 P R (txs ++ [l]) known F' G' := h.step p1 g1 q2 hG k2 h.k0 (by have := h.k1; rw [List.length_append]; simp; omega)
        exact ⟨0, -1, rfl, k2, ⟨_, _, _, _, hn2⟩, law_is _ 0 (-1) y2 (fun W _ => Place_nil W)⟩
      · have hf' : txs.length = 150 := by have := h.two.q.most; omega
        refine (commit_full h.two.p l v hs hr hokl hty (by omega)).mono ?_
        rintro e y1 ⟨rfl, b1⟩
        have h1 := h.below b1
        refine ⟨_, rfl, Keeps.of_below F b1 (Nat.le_refl _), ?_⟩
        refine (rp_commit_full h1.two.q.refP (says_ok l v y1 hs (hr.carry b1) (ht.carry h1.low) hokl) hf').mono ?_
        rintro e y2 ⟨rfl, b2⟩
        have h2 := h1.below b2
        exact ⟨12, -1, rfl, Keeps.of_below _ b2 (Nat.le_refl _), ⟨_, _, _, _, h2⟩, law_is _ 12 (-1) y2 (fun W hW => Place_errno 12 W ((hg.carry h2.low).carry hW))⟩
    · refine (commit_err y (pl0 P) l i0 v hs hr hl hb).mono ?_
      rintro e y1 ⟨u, rfl, ⟨b, rfl, c0, c1⟩, b1⟩
      have h1 := h.below b1
      refine ⟨_, rfl, Keeps.of_below F b1 (Nat.le_refl _), ?_⟩
      refine (rp_commit_err (says_bad l v y1 hs (hr.carry b1) (ht.carry h1.low) hl i0 hb) (by decide)).mono ?_
      rintro e y2 ⟨rfl, b2⟩
      have h2 := h1.below b2
      exact ⟨1, i0, rfl, Keeps.of_below _ b2 (Nat.le_refl _), ⟨_, _, _, _, h2⟩, law_is _ 1 i0 y2 (fun W hW => Place_at 1 i0 b W (there_yet (there_yet c0 b2) hW) (there_yet (there_yet c1 b2) hW) ((hg.carry h2.low).carry hW))⟩
  · refine (commit_limit y (pl0 P) l v hn hr hl).mono ?_
    rintro e y1 ⟨rfl, rfl⟩
    refine ⟨_, rfl, Keeps.of_below F (Below.refl _ _) (Nat.le_refl _), ?_⟩
    refine (rp_commit_err (s := ⟨#[]⟩) (n := 4) (i := -1) (fun W hW => refw_limit l v W hn (hr.carry hW) hl) (by decide)).mono ?_
    rintro e y2 ⟨rfl, b2⟩
    have h2 := h.below b2
    exact ⟨4, -1, rfl, Keeps.of_below _ b2 (Nat.le_refl _), ⟨_, _, _, _, h2⟩, law_is _ 4 (-1) y2 (fun W hW => Place_errno 4 W ((hg.carry h2.low).carry hW))⟩
theorem commit_two_in {w y : World} {P R : Nat} {txs : List (List Fop)} {known : Int} {F G : Nat → Prop} (h : PqI w y P R txs known F G) (ht : Tab w) (hg : ErrorType w) (l : List Fop) (v : Value) (hn : l.length < 1099511627776) (hs : ∀ x, x ∈ l → Small x) (hr : ReadsOps w v l) : CommitQ w P R v F y := by
  refine commit_two h ht hg l v hn hs (hr.carry h.low) (fun hne b o n c e => ?_)
  obtain ⟨ad, cap, rfl, hO⟩ := hr
  rcases hO with q | ⟨b', o', rfl, hO⟩
  · exact absurd q hne
  · injection e with e1
    cases e1
    have := hO.1
    have := h.rge
    refine ⟨fun q => ?_, by omega⟩
    have := h.fge _ q
    omega
theorem commit_one {y : World} {P : Nat} {txs : List (List Fop)} {known : Int} {F : Nat → Prop} (hp : PastT y (pl0 P) txs known F) (k1 : known ≤ (txs.length : Int)) (ht : Tab y) (l : List Fop) (v : Value) (hn : l.length < 1099511627776) (hs : ∀ x, x ∈ l → Small x) (hr : ReadsOps y v l) (hv : l ≠ [] → ∀ b o n c, v = .slice (some ⟨b, o, none⟩) n c → ¬ F b) :
    Calls Tryz.prog 7 #[.pointer (some ⟨P, 0, none⟩), v] y fun e y1 => ∃ u, e = .returned u ∧ Keeps F y y1 := by
  by_cases hl : 1 ≤ l.length ∧ l.length ≤ 8
  · rcases first_bad l with hok | ⟨i0, hb⟩
    · have hokl : okL l := ⟨hl.1, hl.2, hok⟩
      by_cases hf : txs.length < 150
      · obtain ⟨ad, cap, rfl, hO⟩ := hr
        rcases hO with rfl | ⟨b, off, rfl, hO⟩
        · simp at hl
        exact (commit_txs hp l b off cap hokl hO (hv (by rintro rfl; simp at hl) b off l.length cap rfl) ht hf k1).mono fun e y1 ⟨q, F', _, g1⟩ => ⟨_, q, g1.2⟩
      · exact (commit_full hp l v hs hr hokl ht (by omega)).mono fun e y1 ⟨q, b1⟩ => ⟨_, q, Keeps.of_below F b1 (Nat.le_refl _)⟩
    · exact (commit_err y (pl0 P) l i0 v hs hr hl hb).mono fun e y1 ⟨u, q, _, b1⟩ => ⟨u, q, Keeps.of_below F b1 (Nat.le_refl _)⟩
  · refine (commit_limit y (pl0 P) l v hn hr hl).mono ?_
    rintro e y1 ⟨rfl, rfl⟩
    exact ⟨_, rfl, Keeps.refl F _⟩
theorem pq_start (w : World) : PqI w ((w.alloc (.cells #[.int .i64 0, .int .i64 0, .map none] 26)).alloc (.cells #[.slice none 0 0, .int .i64 0] 30)) w.heap.size (w.heap.size + 1) [] 0 (fun i => i = w.heap.size) (fun i => i = w.heap.size + 1) := by
  have b1 := below_box w (.cells #[.int .i64 0, .int .i64 0, .map none] 26)
  have hp := past_new w
  have e0 : pastF (pl0 w.heap.size) none [] (fun _ _ => False) = fun i => i = w.heap.size := by
    funext i
    simp [pastF]
  rw [e0] at hp
  have s1 : (w.alloc (.cells #[.int .i64 0, .int .i64 0, .map none] 26)).heap.size = w.heap.size + 1 := by simp
  generalize w.alloc (.cells #[.int .i64 0, .int .i64 0, .map none] 26) = w1 at *
  have b2 := below_box w1 (.cells #[.slice none 0 0, .int .i64 0] 30)
  have r0 : (w1.alloc (.cells #[.slice none 0 0, .int .i64 0] 30)).cell? ⟨w.heap.size + 1, 0, none⟩ = some (.slice none 0 0) := by rw [← s1]; simp
  have r1 : (w1.alloc (.cells #[.slice none 0 0, .int .i64 0] 30)).cell? ⟨w.heap.size + 1, 1, none⟩ = some (.int .i64 0) := by rw [← s1]; simp
  have t0 : (w1.alloc (.cells #[.slice none 0 0, .int .i64 0] 30)).frozen? ⟨w.heap.size + 1, 0, none⟩ = false := by rw [← s1]; simp
  have t1 : (w1.alloc (.cells #[.slice none 0 0, .int .i64 0] 30)).frozen? ⟨w.heap.size + 1, 1, none⟩ = false := by rw [← s1]; simp
  have s2 : (w1.alloc (.cells #[.slice none 0 0, .int .i64 0] 30)).heap.size = w.heap.size + 2 := by simp [s1]
  have hp2 := PastW.below hp b2
  generalize w1.alloc (.cells #[.slice none 0 0, .int .i64 0] 30) = w2 at *
  have hq : RefQ w2 (w.heap.size + 1) [] 0 (fun i => i = w.heap.size + 1) := ⟨rfl, .inl ⟨rfl, r0⟩, r1, t0, t1, by simp, by simp, fun i hi => by omega⟩
  refine ⟨⟨?_, hq⟩, Int.le_refl _, by simp, fun i hi q => by omega, fun i hi => by omega, by omega, (b1.trans (b2.mono (by omega)))⟩
  exact PastW.congr hp2 (fun k c _ _ t => by unfold noneS refI refS; rw [List.take_nil]; rfl)
end Go.Proofs.YtfoojmflbifkpaaGreatDoor

/- What the statements ask of their arguments first: that they are short. And what no error tells. -/
namespace Go.Proofs.YtfoojmflbifkpaaGreatDoor
open Go.RowKit
def Shorts (l : List Fop) : Prop := l.length ≤ 20 ∧ ∀ x, x ∈ l → x.word.size ≤ 60 ∧ x.value.size ≤ 60
def ShortSays (l : List Fop) (w : World) (e : Ending) (w' : World) : Prop := ∃ r, e = .returned (.bool r) ∧ (r = true → Shorts l) ∧ w' = w
theorem law_short_len (l : List Fop) (ad : Option Addr) (cap : Nat) (w : World) (hn : l.length ≤ maxLen) (h : 20 < l.length) :
    Calls Tryz.prog 9 #[.slice ad l.length cap] w fun e w' => e = .returned (.bool false) ∧ w' = w := by
  unfold maxLen at hn
  have h' : 20 < (l.length : Int) := by omega
  go_enter Tryz.func9, Tryz.ntmps9
  go_wp2
  go_ret
  exact ⟨rfl, rfl⟩
theorem law_short_none (ad : Option Addr) (cap : Nat) (w : World) :
    Calls Tryz.prog 9 #[.slice ad 0 cap] w fun e w' => e = .returned (.bool true) ∧ w' = w := by
  go_enter Tryz.func9, Tryz.ntmps9
  go_wp2
  refine wp_loop_rounds 1 ?_
  rw [rounds_succ]
  go_wp2
  go_ret
  exact ⟨rfl, rfl⟩
set_option maxHeartbeats 4000000 in
theorem law_short_at (l : List Fop) (b off cap : Nat) (w : World) (hl : l.length ≤ 20) (hs : ∀ x, x ∈ l → x.word.size ≤ maxLen ∧ x.value.size ≤ maxLen) (h : OpsAt w b off l) :
    Calls Tryz.prog 9 #[.slice (some ⟨b, off, none⟩) l.length cap] w (ShortSays l w) := by
  have H := hide h
  have HS := hide hs
  clear h hs
  have h' : ¬ 20 < (l.length : Int) := by omega
  go_enter Tryz.func9, Tryz.ntmps9
  go_wp2
  go_loop [3] (fun i => ∃ k : Nat, k ≤ l.length ∧ i = .int .i64 k ∧ ∀ j, (hj : j < l.length) → j < k → l[j].word.size ≤ 60 ∧ l[j].value.size ≤ 60) (fun i => l.length - (intOf i).toNat)
  case atStart => exact ⟨0, Nat.zero_le _, rfl, fun j _ h => absurd h (Nat.not_lt_zero _)⟩
  case round =>
    obtain ⟨k, hk, rfl, hz⟩ := hrel
    have HZ := hide hz
    clear hz
    by_cases hlt : k < l.length
    · have hlt' : (k : Int) < (l.length : Int) := by omega
      obtain ⟨_, _, c2, _, _, _, c6⟩ := (unhide H).2 k hlt
      have hq := unhide HS _ (List.getElem_mem hlt)
      unfold maxLen at hq
      by_cases h1 : 60 < l[k].word.size
      · have h1' : 60 < (l[k].word.size : Int) := by omega
        generalize l[k] = o at *
        go_wp2
        go_ret
        exact ⟨false, rfl, (by intro e; cases e), rfl⟩
      · have h1' : ¬ 60 < (l[k].word.size : Int) := by omega
        by_cases h2 : 60 < l[k].value.size
        · have h2' : 60 < (l[k].value.size : Int) := by omega
          generalize l[k] = o at *
          go_wp2
          go_ret
          exact ⟨false, rfl, (by intro e; cases e), rfl⟩
        · have h2' : ¬ 60 < (l[k].value.size : Int) := by omega
          have HN : Hid (∀ j, (hj : j < l.length) → j < k + 1 → l[j].word.size ≤ 60 ∧ l[j].value.size ≤ 60) := by
            intro j hj hjk
            by_cases e : j = k
            · subst e; omega
            · exact unhide HZ j hj (by omega)
          generalize l[k] = o at *
          go_wp2
          go_round
          case rel => exact ⟨k + 1, by omega, by go_num, unhide HN⟩
          case measure => simp [intOf]; omega
    · have hlt' : ¬ (k : Int) < (l.length : Int) := by omega
      have HN : Hid (Shorts l) := ⟨hl, fun x hx => by
        obtain ⟨j, hj, rfl⟩ := List.getElem_of_mem hx
        exact unhide HZ j hj (by omega)⟩
      go_wp2
      go_ret
      exact ⟨true, rfl, fun _ => unhide HN, rfl⟩
theorem law_short (l : List Fop) (v : Value) (w : World) (hn : l.length ≤ maxLen) (hs : ∀ x, x ∈ l → Small x) (h : ReadsOps w v l) :
    Calls Tryz.prog 9 #[v] w (ShortSays l w) := by
  obtain ⟨ad, cap, rfl, h⟩ := h
  by_cases h20 : 20 < l.length
  · exact (law_short_len l ad cap w hn h20).mono fun e w' ⟨h1, h2⟩ => ⟨false, h1, (by intro e; cases e), h2⟩
  · rcases h with rfl | ⟨b, off, rfl, h⟩
    · exact (law_short_none ad cap w).mono fun e w' ⟨h1, h2⟩ => ⟨true, h1, fun _ => ⟨by simp, by simp⟩, h2⟩
    · exact law_short_at l b off cap w (by omega) hs h
end Go.Proofs.YtfoojmflbifkpaaGreatDoor

/- What a slice of changes that came in holds, and what a key that came in holds. -/
namespace Go.Proofs.YtfoojmflbifkpaaGreatDoor
open Go.ChangeShapes Go.WideShapes Go.ChangeAt Go.RowKit Go.Deep
theorem cellsOp : Tryz.prog.cellsOf 36 = 7 := by kernel_rfl
theorem cellsKey : Tryz.prog.cellsOf 32 = 4 := by kernel_rfl
theorem cellsSpan : Tryz.prog.cellsOf 34 = 2 := by kernel_rfl
theorem cellsInt : Tryz.prog.cellsOf 3 = 1 := by kernel_rfl
theorem cellsString : Tryz.prog.cellsOf 9 = 1 := by kernel_rfl
theorem list7 {α : Type} {cs : List α} (h : cs.length = 7) : ∃ c0 c1 c2 c3 c4 c5 c6, cs = [c0, c1, c2, c3, c4, c5, c6] := by
  match cs, h with
  | [c0, c1, c2, c3, c4, c5, c6], _ => exact ⟨c0, c1, c2, c3, c4, c5, c6, rfl⟩
theorem op_cells {H : Type} {enc : TypeId × Value → H} {W : World} {base n : Nat} {spare : Nat → Bool} {held : Bool} {cs : List Value} {x : DataW H × List MemPlace} (h : DataW.trod enc Tryz.prog W base spare held n 36 cs = some x) :
    ∃ o : Fop, Small o ∧ cs = opCells o := by
  obtain ⟨y0, y1, y2, m, _, hl, h0, h1, h2⟩ := Go.Deep.trod_struct3 Tryz.underlying36 h
  rw [cellsOp] at hl
  obtain ⟨c0, c1, c2, c3, c4, c5, c6, rfl⟩ := list7 hl
  simp only [cellsKey, cellsSpan, cellsString, List.drop, List.take] at h0 h1 h2
  obtain ⟨z0, z1, z2, z3, m1, _, _, k0, k1, k2, k3⟩ := Go.Joins.trod_struct4 Tryz.underlying32 h0
  simp only [cellsInt, cellsString, List.drop, List.take] at k0 k1 k2 k3
  obtain ⟨s0, s1, m2, _, _, q0, q1⟩ := trod_struct2 Tryz.underlying34 h1
  simp only [cellsInt, List.drop, List.take] at q0 q1
  obtain ⟨n0, e0, _, _⟩ := DataW.trod_int Tryz.underlying3 k0
  obtain ⟨n1, e1, _, _⟩ := DataW.trod_int Tryz.underlying3 k1
  obtain ⟨t2, e2, _, g2⟩ := DataW.trod_string Tryz.underlying9 k2
  obtain ⟨n3, e3, _, _⟩ := DataW.trod_int Tryz.underlying3 k3
  obtain ⟨n4, e4, _, _⟩ := DataW.trod_int Tryz.underlying3 q0
  obtain ⟨n5, e5, _, _⟩ := DataW.trod_int Tryz.underlying3 q1
  obtain ⟨t6, e6, _, g6⟩ := DataW.trod_string Tryz.underlying9 h2
  simp only [List.cons.injEq, and_true] at e0 e1 e2 e3 e4 e5 e6
  subst e0 e1 e2 e3 e4 e5 e6
  exact ⟨⟨n0, n1, t2, n3, n4, n5, t6⟩, ⟨g2, g6⟩, rfl⟩
theorem reads_ops {H : Type} {enc : TypeId × Value → H} {W : World} {v : Value} {d : DataW H} {p : List MemPlace} (hv : ∃ a len cap, v = .slice a len cap) (h : DataW.Trod enc Tryz.prog W 0 (fun _ => true) true 37 v d p) :
    ∃ l, ReadsOps W v l ∧ (∀ x, x ∈ l → Small x) ∧ l.length ≤ maxLen := by
  obtain ⟨a0, len0, cap0, rfl⟩ := hv
  obtain ⟨fuel, hf⟩ := h
  rcases Go.Deep.open_slice Tryz.underlying37 hf with ⟨hcs, _⟩ | ⟨a, len, cap, m, n, D, Pl, hcs, _, hl, hm, hmm, _, hx⟩
  · simp [Value.cells] at hcs
    obtain ⟨rfl, rfl, rfl⟩ := hcs
    exact ⟨[], ⟨none, 0, rfl, Or.inl rfl⟩, by simp, by simp⟩
  · simp [Value.cells] at hcs
    obtain ⟨rfl, rfl, rfl⟩ := hcs
    simp only [if_true] at hmm
    subst hmm
    rw [cellsOp] at hx
    have hex : ∀ i : Nat, ∃ o : Fop, i < len0 → Small o ∧ W.cells? 0 (a.add (i * 7)) 7 = some (opCells o) := by
      intro i
      by_cases hi : i < len0
      · obtain ⟨cs', h1, h2⟩ := hx i (by omega)
        obtain ⟨o, ho, rfl⟩ := op_cells h2
        exact ⟨o, fun _ => ⟨ho, h1⟩⟩
      · exact ⟨⟨0, 0, ⟨#[]⟩, 0, 0, 0, ⟨#[]⟩⟩, fun h => absurd h hi⟩
    let f := fun i => Classical.choose (hex i)
    have hf2 : ∀ i, i < len0 → Small (f i) ∧ W.cells? 0 (a.add (i * 7)) 7 = some (opCells (f i)) := fun i hi => Classical.choose_spec (hex i) hi
    refine ⟨(List.range len0).map f, ⟨some a, m, by simp, ?_⟩, ?_, by simpa using Nat.le_trans hl hm⟩
    · by_cases h0 : len0 = 0
      · subst h0; exact Or.inl rfl
      · right
        obtain ⟨b, off, spot⟩ := a
        have h00 := (World.cells?_some (hf2 0 (by omega)).2).2.2 0 (by omega)
        have h01 : W.cell? ⟨b, off, spot⟩ = some (.int .i64 (f 0).kind) := by simpa [Addr.add, opCells] using h00
        have hspot : spot = none := World.cell?_spot h01
        subst hspot
        refine ⟨b, off, rfl, lt_of_cell h01, ?_⟩
        intro k hk
        have hk' : k < len0 := by simpa using hk
        have hc := (World.cells?_some (hf2 k hk').2).2.2
        have e : ((List.range len0).map f)[k] = f k := by simp
        rw [e]
        have q : ∀ i v, i < 7 → (opCells (f k))[i]? = some v → W.cell? ⟨b, off + k * 7 + i, none⟩ = some v := by
          intro i v hi hv
          have := hc i hi
          rw [Go.WideShapes.add_plain, Go.WideShapes.add_plain] at this
          rw [this]; exact hv
        exact ⟨q 0 _ (by omega) rfl, q 1 _ (by omega) rfl, q 2 _ (by omega) rfl, q 3 _ (by omega) rfl, q 4 _ (by omega) rfl, q 5 _ (by omega) rfl, q 6 _ (by omega) rfl⟩
    · intro x hx
      simp only [List.mem_map, List.mem_range] at hx
      obtain ⟨i, hi, rfl⟩ := hx
      exact (hf2 i hi).1
end Go.Proofs.YtfoojmflbifkpaaGreatDoor

/- What a row of transactions that came in holds. -/
namespace Go.Proofs.YtfoojmflbifkpaaGreatDoor
open Go.ChangeShapes Go.WideShapes Go.ChangeAt Go.RowKit Go.Deep
theorem cellsOpsRow : Tryz.prog.cellsOf 37 = 1 := by kernel_rfl
structure TxN where
  v : Value
  l : List Fop
def TxOk (W : World) (z : TxN) : Prop := ReadsOps W z.v z.l ∧ z.l.length ≤ maxLen ∧ ∀ x, x ∈ z.l → Small x
def TxsHere (W : World) (ad : Option Addr) (L : List TxN) : Prop := ∀ j, (hj : j < L.length) → ∃ b o, ad = some ⟨b, o, none⟩ ∧ W.cell? ⟨b, o + j, none⟩ = some L[j].v ∧ TxOk W L[j]
theorem tx_cells {H : Type} {enc : TypeId × Value → H} {W : World} {n : Nat} {cs : List Value} {x : DataW H × List MemPlace} (h : DataW.trod enc Tryz.prog W 0 (fun _ => true) true n 37 cs = some x) :
    ∃ z : TxN, TxOk W z ∧ cs = [z.v] := by
  have hc3 : ∃ a len cap, cs = [.slice a len cap] := by
    rcases Go.Deep.open_slice Tryz.underlying37 h with ⟨hcs, _⟩ | ⟨a, len, cap, m, n, D, Pl, hcs, _⟩
    · exact ⟨_, _, _, hcs⟩
    · exact ⟨_, _, _, hcs⟩
  obtain ⟨a, len, cap, rfl⟩ := hc3
  obtain ⟨l, r1, r2, r3⟩ := reads_ops (W := W) (enc := enc) (v := .slice a len cap) (d := x.1) (p := x.2) ⟨_, _, _, rfl⟩ ⟨n, h⟩
  exact ⟨⟨.slice a len cap, l⟩, ⟨r1, r3, r2⟩, rfl⟩
theorem reads_txs {H : Type} {enc : TypeId × Value → H} {W : World} {v : Value} {d : DataW H} {p : List MemPlace} (hv : ∃ a len cap, v = .slice a len cap) (h : DataW.Trod enc Tryz.prog W 0 (fun _ => true) true 28 v d p) :
    ∃ (l : List TxN) (ad : Option Addr) (c : Nat), v = .slice ad l.length c ∧ TxsHere W ad l ∧ l.length ≤ maxLen := by
  obtain ⟨a0, len0, cap0, rfl⟩ := hv
  obtain ⟨fuel, hf⟩ := h
  rcases Go.Deep.open_slice Tryz.underlying28 hf with ⟨hcs, _⟩ | ⟨a, len, cap, m, n, D, Pl, hcs, _, hl, hm, hmm, _, hx⟩
  · simp [Value.cells] at hcs
    obtain ⟨rfl, rfl, rfl⟩ := hcs
    exact ⟨[], none, 0, rfl, fun j hj => by simp at hj, by simp⟩
  · simp [Value.cells] at hcs
    obtain ⟨rfl, rfl, rfl⟩ := hcs
    simp only [if_true] at hmm
    subst hmm
    rw [cellsOpsRow] at hx
    have hex : ∀ i : Nat, ∃ z : TxN, i < len0 → TxOk W z ∧ W.cells? 0 (a.add (i * 1)) 1 = some [z.v] := by
      intro i
      by_cases hi : i < len0
      · obtain ⟨cs', h1, h2⟩ := hx i (by omega)
        obtain ⟨o, ho, rfl⟩ := tx_cells h2
        exact ⟨o, fun _ => ⟨ho, h1⟩⟩
      · exact ⟨⟨.slice none 0 0, []⟩, fun h => absurd h hi⟩
    let f := fun i => Classical.choose (hex i)
    have hf2 : ∀ i, i < len0 → TxOk W (f i) ∧ W.cells? 0 (a.add (i * 1)) 1 = some [(f i).v] := fun i hi => Classical.choose_spec (hex i) hi
    refine ⟨(List.range len0).map f, some a, m, by simp, fun k hk => ?_, by simpa using Nat.le_trans hl hm⟩
    have hk' : k < len0 := by simpa using hk
    obtain ⟨b, off, spot⟩ := a
    have h00 := (World.cells?_some (hf2 0 (by omega)).2).2.2 0 (by omega)
    have h01 : W.cell? ⟨b, off, spot⟩ = some (f 0).v := by simpa [Addr.add] using h00
    have hspot : spot = none := World.cell?_spot h01
    subst hspot
    have hc := (World.cells?_some (hf2 k hk').2).2.2 0 (by omega)
    have e : ((List.range len0).map f)[k] = f k := by simp
    rw [e]
    refine ⟨b, off, rfl, ?_, (hf2 k hk').1⟩
    rw [Go.WideShapes.add_plain, Go.WideShapes.add_plain] at hc
    simpa using hc
end Go.Proofs.YtfoojmflbifkpaaGreatDoor
