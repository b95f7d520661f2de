/- Texts of one proof, one behind the other. -/
import Derived.Test.YtbloahcmakjchabGreatDoorDe
import Derived.Test.YtbloahcmakjchabGreatDoorBl
import Derived.Test.YtbloahcmakjchabGreatDoorBm
import Derived.Test.YtbloahcmakjchabGreatDoorBu

/- A new disk; the fact that BaseCrashes leans on: walked. -/
namespace Go.Proofs.YtbloahcmakjchabGreatDoor
open Go.RowKit Go.Maps

theorem zeros_all : (List.range 150).all (fun j => match Tryz.zeroCells59[j]? with | some (.string s) => decide (s.data = #[]) | _ => false) = true := by kernel_rfl
theorem zeros_at (j : Nat) (hj : j < 150) : Tryz.zeroCells59[j]? = some (.string ⟨#[]⟩) := by
  have h := List.all_eq_true.1 zeros_all j (List.mem_range.2 hj)
  split at h
  · rename_i s e
    have := of_decide_eq_true h
    rw [e]
    cases s
    dsimp only at this
    rw [this]
  · cases h
theorem zeros_c : Tryz.zeroCells59[150]? = some (.bool false) := by kernel_rfl
theorem zeros_l : Tryz.zeroCells59[151]? = some (.int .i64 0) := by kernel_rfl

theorem disk_new (w : World) : DiskW (w.alloc (.cells Tryz.zeroCells59 59)) w.heap.size (fun _ => ⟨#[]⟩) false 0 := by
  have key : ∀ j, (w.alloc (.cells Tryz.zeroCells59 59)).cell? ⟨w.heap.size, j, none⟩ = Tryz.zeroCells59[j]? := fun j => by
    unfold World.cell?
    rw [heap_alloc_new]
    rfl
  exact ⟨fun j hj => (key j).trans (zeros_at j hj), (key 150).trans zeros_c, (key 151).trans zeros_l, fun i => by simp, fun j => by show (0 : Nat) < 50000; decide, by decide⟩

theorem stE_inl (C : List (List Fop)) : stE (C.map .inl) = (C, 0) := by
  obtain ⟨n, hn⟩ : ∃ n, n = C.length := ⟨_, rfl⟩
  induction n generalizing C with
  | zero =>
    obtain rfl := List.length_eq_zero_iff.1 hn.symm
    rfl
  | succ n ih =>
    rcases List.eq_nil_or_concat C with rfl | ⟨m, x, rfl⟩
    · simp at hn
    rw [List.concat_eq_append] at *
    rw [List.map_append, List.map_singleton, stE_snoc, ih m (by simpa using hn)]
    rfl

def opK : Fop := ⟨1, 1, ⟨#[]⟩, 0, 0, 5, ⟨#[97]⟩⟩
theorem opK_ok : okL [opK] := ⟨by decide, by decide, fun o h => by
  obtain rfl := List.mem_singleton.1 h
  simp [opB, opK, keyB, idB, empty_is, rightB]
  exact .inr (by decide)⟩
theorem kyN_1 : kyN 1 = ⟨1, 1, ⟨#[]⟩, 0⟩ := by
  rcases kyN_some 1 with h
  have : pickI 1 9 = 1 := by decide
  simp [this] at h
  exact h
theorem refI_1 : refI [[opK]] ⟨1, 1, ⟨#[]⟩, 0⟩ 1 3 = ⟨#[97]⟩ := by
  have hs : sameK ⟨1, 1, ⟨#[]⟩, 0⟩ ⟨1, 1, ⟨#[]⟩, 0⟩ = true := by decide
  simp [refI, refS, lastV, stepV, opK, kyO, hs]

theorem small_of {l : List Fop} (hl : okL l) : ∀ x, x ∈ l → Small x := fun x hx => by
  obtain ⟨_, q1, q2, _⟩ := op_fit (hl.2.2 x hx)
  have ml : (12 : Nat) ≤ maxLen := by unfold maxLen; omega
  exact ⟨Nat.le_trans q1 ml, Nat.le_trans q2 ml⟩

set_option maxRecDepth 100000 in
set_option maxHeartbeats 4000000 in
theorem kept_ok (w : World) (ht : Tab w) (hl : Libs w) : Calls Tryz.prog 37 #[] w fun e w' => e = .returned (.bool true) ∧ Below w.heap.size w w' := by
  have HB0 := hide (below_box w (.cells Tryz.zeroCells59 59))
  have HD0 := hide (disk_new w)
  have HT := hide ht
  have HL := hide hl
  have HO := hide (base_Open (es := []) (unhide HD0) holds_nil (by decide) (ht.carry (unhide HB0)) (hl.carry (unhide HB0)))
  have HKy := hide (fun W => keep_keyOf 1 W)
  rw [kyN_1] at HKy
  clear ht hl
  go_enter Tryz.func37, Tryz.ntmps37
  go_wp2_with fail
  generalize w.alloc (.cells Tryz.zeroCells59 59) = W0 at *
  refine (unhide HO).mono ?_
  rintro e W1 ⟨B, F, rfl, hB, hF, b1⟩
  have hb1 : Below w.heap.size w W1 := (unhide HB0).trans (b1.mono (unhide HB0).size)
  have h0 := (unhide HB0).size
  have hDlt := (unhide HD0).lt
  have hBd : BdW W1 B w.heap.size [] false (fun _ => ⟨#[]⟩) false 0 F := ⟨hB, (unhide HD0).below b1, holds_nil, fun q => by have := hF _ q; omega, by decide⟩
  have HBd := hide hBd
  have HB1 := hide hb1
  have HF1 := hide hF
  have h0' : w.heap.size ≤ W0.heap.size := h0
  clear hB hF b1 hb1 hBd HO h0
  go_wp2_with fail
  refine (unhide HKy _).mono ?_
  rintro e W2 ⟨rfl, b2⟩
  have HB2 := hide ((unhide HB1).trans (b2.mono (unhide HB1).size))
  have HB3 := hide ((unhide HB2).trans ((below_box W2 (.cells #[.int .i64 opK.kind, .int .i64 opK.a, .string opK.word, .int .i64 opK.b, .int .i64 opK.lo, .int .i64 opK.hi, .string opK.value] 103)).mono (unhide HB2).size))
  have HBd3 := hide (((unhide HBd).below b2).below (below_box W2 (.cells #[.int .i64 opK.kind, .int .i64 opK.a, .string opK.word, .int .i64 opK.b, .int .i64 opK.lo, .int .i64 opK.hi, .string opK.value] 103)))
  have HC := hide (base_Commit_on (unhide HBd3) (by decide) [opK] (.slice (some ⟨W2.heap.size, 0, none⟩) 1 1) opK_ok ⟨_, 1, rfl, .inr ⟨_, 0, rfl, opsAt_box W2 opK⟩⟩ (small_of opK_ok) (-1) (.inl rfl) (unhide HB3) (Nat.le_refl _) (unhide HT) (unhide HL))
  have hF2 : ∀ i, F i → w.heap.size ≤ i := fun i hi => Nat.le_trans h0' (unhide HF1 i hi)
  have HF2 := hide hF2
  clear b2 HBd HBd3 HB1 HB2 HF1 hF2
  unfold opK at HC HB3
  dsimp only at HC HB3
  go_wp2_with fail
  generalize W2.alloc (.cells #[.int .i64 1, .int .i64 1, .string ⟨#[]⟩, .int .i64 0, .int .i64 0, .int .i64 5, .string ⟨#[97]⟩] 103) = W3 at *
  refine (unhide HC).mono ?_
  rintro e W4 ⟨rfl, F4, ps4, left4, bd4, went4⟩
  have hb4 : Below w.heap.size w W4 := (unhide HB3).trans (keeps_below went4.2 (fun i q => by
    rcases q with q | q
    · exact unhide HF2 i q
    · exact Nat.le_of_eq q.symm) (unhide HB3).size)
  have HB4 := hide hb4
  have HO := hide (base_Open bd4.disk bd4.holds bd4.most ((unhide HT).carry hb4) ((unhide HL).carry hb4))
  clear bd4 went4 hb4 HC HF2 HB3
  go_wp2_with fail
  refine (unhide HO).mono ?_
  rintro e W5 ⟨C, F5, rfl, hC, hF5, b5⟩
  have HB5 := hide ((unhide HB4).trans (b5.mono (unhide HB4).size))
  have HC5 := hide hC
  have HP := hide (fun W => base_Past W C)
  have hk1 : KyOk (⟨1, 1, ⟨#[]⟩, 0⟩ : Ky) ∧ keyB 1 1 ⟨#[]⟩ 0 = true := by
    have := kyN_ok 1
    rw [kyN_1] at this
    exact this
  have HKo := hide hk1.1
  have HKb := hide hk1.2
  clear hC hF5 b5 HO HB4 hk1
  go_wp2_with fail
  refine (unhide HP _).mono ?_
  rintro e W6 ⟨rfl, hW6⟩
  obtain rfl : W5 = W6 := hW6.symm
  clear hW6
  go_wp2_with fail
  refine (unhide HP _).mono ?_
  rintro e W6 ⟨rfl, hW6⟩
  obtain rfl : W5 = W6 := hW6.symm
  clear hW6 HP
  go_wp2_with fail
  refine (unhide HKy _).mono ?_
  rintro e W7 ⟨rfl, b7⟩
  have HB7 := hide ((unhide HB5).trans (b7.mono (unhide HB5).size))
  have HC7 := hide ((unhide HC5).below b7)
  have HV := hide (value_ok (show PastW _ _ _ _ _ _ _ from unhide HC7) (by decide) ⟨1, 1, ⟨#[]⟩, 0⟩ (unhide HKo) (unhide HKb) 1 3 (by decide) (by decide) (by decide) (by decide) (by decide))
  have hv : refI (stE ([] ++ [Sum.inl [(⟨1, 1, ⟨#[]⟩, 0, 0, 5, ⟨#[97]⟩⟩ : Fop)]])).1 ⟨1, 1, ⟨#[]⟩, 0⟩ 1 3 = ⟨#[97]⟩ := refI_1
  rw [hv] at HV
  clear b7 HB5 HC5 HKy hv
  go_wp2_with fail
  refine (unhide HV).mono ?_
  rintro e W8 ⟨rfl, b8⟩
  have HB8 := hide ((unhide HB7).trans (b8.mono (unhide HB7).size))
  have HU := hide (base_Used ((unhide HC7).below b8))
  clear b8 HB7 HC7 HV
  go_wp2_with fail
  refine (unhide HU).mono ?_
  rintro e W9 ⟨rfl, hW9⟩
  obtain rfl : W8 = W9 := hW9.symm
  clear hW9 HU
  go_wp2
  go_ret
  exact ⟨rfl, unhide HB8⟩

end Go.Proofs.YtbloahcmakjchabGreatDoor

/- BaseCrashes: a base, its disk, and a past beside them, in memory. -/
namespace Go.Proofs.YtbloahcmakjchabGreatDoor
open Go.RowKit Go.Maps

theorem OpsAt.keeps {W W' : World} {g o : Nat} {l : List Fop} {H : Nat → Prop} (h : OpsAt W g o l) (hk : Keeps H W W') (hg : ¬ H g) : OpsAt W' g o l := by
  obtain ⟨q1, q2⟩ := h
  refine ⟨Nat.lt_of_lt_of_le q1 hk.size, fun k hk' => ?_⟩
  obtain ⟨a0, a1, a2, a3, a4, a5, a6⟩ := q2 k hk'
  have t : ∀ {o : Nat} {v : Value}, W.cell? ⟨g, o, none⟩ = some v → W'.cell? ⟨g, o, none⟩ = some v := fun {o v} e => (hk.cell (p := ⟨g, o, none⟩) q1 hg).trans e
  exact ⟨t a0, t a1, t a2, t a3, t a4, t a5, t a6⟩

structure CrI (w0 : World) (B D np bx base : Nat) (k : Ky) (down : Bool) (C Cp : List (List Fop)) (ps : Nat → ByteArray) (cut : Bool) (left : Int) (F Fp : Nat → Prop) (u14 : Value) (ts : List Value) (W : World) : Prop where
  bd : BdW W B D (C.map .inl) down ps cut left F
  pw : PastT W (pl0 np) Cp 0 Fp
  ap : ∀ i, F i → ¬ Fp i
  dp : ¬ Fp D
  of : ∀ i, F i → w0.heap.size ≤ i ∧ i ≠ bx
  op : ∀ i, Fp i → w0.heap.size ≤ i ∧ i ≠ bx
  od : w0.heap.size ≤ D ∧ D ≠ bx
  box : BoxK bx k W
  low : Below w0.heap.size w0 W
  txs : RowL W base u14 ts
  tg : ∀ v, v = u14 ∨ v ∈ ts → ∀ g, v.ownBlock = some g → ¬ F g ∧ ¬ Fp g ∧ g ≠ D
  ops : ∀ v, v ∈ ts → ∃ l, okL l ∧ RowO W base v l
  bW : bx < W.heap.size

section
variable {w0 : World} {B D np bx base : Nat} {k : Ky} {down : Bool} {C Cp : List (List Fop)} {ps : Nat → ByteArray} {cut : Bool} {left : Int} {F Fp : Nat → Prop} {u14 : Value} {ts : List Value} {W : World}

theorem CrI.below (h : CrI w0 B D np bx base k down C Cp ps cut left F Fp u14 ts W) {W' : World} (hb : Below W.heap.size W W') : CrI w0 B D np bx base k down C Cp ps cut left F Fp u14 ts W' :=
  ⟨h.bd.below hb, h.pw.below hb, h.ap, h.dp, h.of, h.op, h.od, h.box.below hb, h.low.trans (hb.mono h.low.size), h.txs.carry hb, h.tg, fun v hv => by
    obtain ⟨l, a, b⟩ := h.ops v hv
    exact ⟨l, a, b.carry hb⟩, Nat.lt_of_lt_of_le h.bW hb.size⟩

/-- What lies beside the base and the past. -/
theorem CrI.beside (h : CrI w0 B D np bx base k down C Cp ps cut left F Fp u14 ts W) {W' : World} {H : Nat → Prop} (hk : Keeps H W W') (h1 : ∀ i, H i → F i ∨ Fp i ∨ i = D) :
    BoxK bx k W' ∧ Below w0.heap.size w0 W' ∧ RowL W' base u14 ts ∧ (∀ v, v ∈ ts → ∃ l, okL l ∧ RowO W' base v l) ∧ bx < W'.heap.size := by
  have hH : ∀ i, H i → w0.heap.size ≤ i ∧ i ≠ bx := fun i hi => by
    rcases h1 i hi with q | q | q
    · exact h.of i q
    · exact h.op i q
    · rw [q]; exact h.od
  have hO : ∀ v, v = u14 ∨ v ∈ ts → Out H v := fun v hv g hg q => by
    obtain ⟨t1, t2, t3⟩ := h.tg v hv g hg
    rcases h1 g q with r | r | r
    · exact t1 r
    · exact t2 r
    · exact t3 r
  refine ⟨h.box.keeps hk (fun q => (hH bx q).2 rfl), h.low.trans (keeps_below hk (fun i q => (hH i q).1) h.low.size), ownsRow_keeps h.txs hk (hO u14 (.inl rfl)), fun v hv => ?_, Nat.lt_of_lt_of_le h.bW hk.size⟩
  obtain ⟨l, a, b⟩ := h.ops v hv
  exact ⟨l, a, ownsRow_keeps b hk (hO v (.inr hv))⟩

/-- Where the rows lie. -/
theorem CrI.rows (h : CrI w0 B D np bx base k down C Cp ps cut left F Fp u14 ts W) : ∀ v, v = u14 ∨ v ∈ ts → ∀ g, v.ownBlock = some g → g < W.heap.size := fun v hv g hg => by
  rcases hv with rfl | hv
  · exact (World.ownsRow.lt h.txs g hg).2
  · obtain ⟨l, _, b⟩ := h.ops v hv
    exact (World.ownsRow.lt b g hg).2

theorem CrI.disk (h : CrI w0 B D np bx base k down C Cp ps cut left F Fp u14 ts W) {W' : World} {cut' : Bool} {left' : Int} (hD : DiskW W' D ps cut' left') (hk : Keeps (· = D) W W') : CrI w0 B D np bx base k down C Cp ps cut' left' F Fp u14 ts W' := by
  obtain ⟨b1, b2, b3, b4, b5⟩ := h.beside hk (fun i e => .inr (.inr e))
  exact ⟨⟨h.bd.base.keeps hk (fun i hi e => h.bd.apart (by rw [← e]; exact hi)), hD, h.bd.holds, h.bd.apart, h.bd.most⟩, h.pw.keeps hk (fun i hi e => h.dp (by rw [← e]; exact hi)), h.ap, h.dp, h.of, h.op, h.od, b1, b2, b3, h.tg, b4, b5⟩

theorem CrI.wrote (h : CrI w0 B D np bx base k down C Cp ps cut left F Fp u14 ts W) {W' : World} {l : List Fop} (hw : WroteOn W B D (C.map .inl ++ [.inl l]) cut F W') : ∃ F' ps' left', CrI w0 B D np bx base k false (C ++ [l]) Cp ps' cut left' F' Fp u14 ts W' := by
  obtain ⟨F', ps', left', bd, g1, g2⟩ := hw
  obtain ⟨b1, b2, b3, b4, b5⟩ := h.beside g2 (fun i q => by
    rcases q with q | q
    · exact .inl q
    · exact .inr (.inr q))
  refine ⟨F', ps', left', ?_, h.pw.keeps g2 (fun i hi q => ?_), fun i hi q => ?_, h.dp, fun i hi => ?_, h.op, h.od, b1, b2, b3, fun v hv g hg => ?_, b4, b5⟩
  · rw [List.map_append, List.map_singleton]
    exact bd
  · rcases q with q | q
    · exact h.ap i q hi
    · exact h.dp (by rw [← q]; exact hi)
  · rcases g1 i hi with r | r
    · exact h.ap i r q
    · have := PastW.lt h.pw i q
      omega
  · rcases g1 i hi with r | r
    · exact h.of i r
    · have := h.low.size
      have := h.bW
      exact ⟨by omega, by omega⟩
  · obtain ⟨t1, t2, t3⟩ := h.tg v hv g hg
    refine ⟨fun q => ?_, t2, t3⟩
    rcases g1 g q with r | r
    · exact t1 r
    · have := h.rows v hv g hg
      omega

theorem CrI.off (h : CrI w0 B D np bx base k down C Cp ps cut left F Fp u14 ts W) {W' : World} (hw : WroteOff W B D (C.map .inl) F W') : ∃ ps', CrI w0 B D np bx base k true C Cp ps' true 0 F Fp u14 ts W' := by
  obtain ⟨ps', bd, g1, g2⟩ := hw
  obtain ⟨b1, b2, b3, b4, b5⟩ := h.beside g2 (fun i q => by
    rcases q with q | q
    · exact .inl q
    · exact .inr (.inr q))
  refine ⟨ps', bd, h.pw.keeps g2 (fun i hi q => ?_), h.ap, h.dp, h.of, h.op, h.od, b1, b2, b3, h.tg, b4, b5⟩
  rcases q with q | q
  · exact h.ap i q hi
  · exact h.dp (by rw [← q]; exact hi)

theorem CrI.said (h : CrI w0 B D np bx base k down C Cp ps cut left F Fp u14 ts W) {W' : World} {txs : List (List Fop)} (hc : ChangedT W (pl0 np) txs 0 Fp W') : ∃ Fp', CrI w0 B D np bx base k down C txs ps cut left F Fp' u14 ts W' := by
  obtain ⟨Fp', pw, g1, g2⟩ := hc
  obtain ⟨b1, b2, b3, b4, b5⟩ := h.beside g2 (fun i q => .inr (.inl q))
  refine ⟨Fp', ⟨h.bd.base.keeps g2 (fun i hi q => h.ap i hi q), h.bd.disk.keeps g2 h.dp, h.bd.holds, h.bd.apart, h.bd.most⟩, pw, fun i hi q => ?_, fun q => ?_, h.of, fun i hi => ?_, h.od, b1, b2, b3, fun v hv g hg => ?_, b4, b5⟩
  · rcases g1 i q with r | r
    · exact h.ap i hi r
    · have := h.bd.base.lt i hi
      omega
  · rcases g1 D q with r | r
    · exact h.dp r
    · have := h.bd.disk.lt
      omega
  · rcases g1 i hi with r | r
    · exact h.op i r
    · have := h.low.size
      have := h.bW
      exact ⟨by omega, by omega⟩
  · obtain ⟨t1, t2, t3⟩ := h.tg v hv g hg
    refine ⟨t1, fun q => ?_, t3⟩
    rcases g1 g q with r | r
    · exact t2 r
    · have := h.rows v hv g hg
      omega

/-- The disk is opened anew. -/
theorem CrI.again (h : CrI w0 B D np bx base k down C Cp ps cut left F Fp u14 ts W) {W' : World} {B' : Nat} {F' : Nat → Prop} (hB : BaseW W' B' D ((C.map Sum.inl : List (List Fop ⊕ Int)).length : Nat) false (stE (C.map .inl)).1 (stE (C.map .inl)).2 F') (hF : ∀ i, F' i → W.heap.size ≤ i) (hb : Below W.heap.size W W') : CrI w0 B' D np bx base k false C Cp ps cut left F' Fp u14 ts W' := by
  have h2 := h.below hb
  refine ⟨⟨hB, h2.bd.disk, h2.bd.holds, fun q => ?_, h2.bd.most⟩, h2.pw, fun i hi q => ?_, h2.dp, fun i hi => ?_, h2.op, h2.od, h2.box, h2.low, h2.txs, fun v hv g hg => ?_, h2.ops, h2.bW⟩
  · have := hF D q
    have := h.bd.disk.lt
    omega
  · have := hF i hi
    have := PastW.lt h.pw i q
    omega
  · have := hF i hi
    have := h.low.size
    have := h.bW
    exact ⟨by omega, by omega⟩
  · obtain ⟨t1, t2, t3⟩ := h.tg v hv g hg
    refine ⟨fun q => ?_, t2, t3⟩
    have := hF g q
    have := h.rows v hv g hg
    omega

end

end Go.Proofs.YtbloahcmakjchabGreatDoor
