/- Texts of one proof, one behind the other. -/
import Derived.Test.YtfoojmflbifkpaaGreatDoorCb
import Derived.Sort.WalkB2
import Derived.Deep.DeepCutAuto

/- A heap's one step, under a less that lays blocks: walked. -/
namespace Go.Proofs.YtfoojmflbifkpaaGreatDoor
open Go.RowKit Go.Maps Go.Shelf Go.Sort
def Child {α : Type} [Inhabited α] (lt : α → α → Bool) (hi first root : Nat) (d : Array α) (c : Nat) : Prop :=
  (c = 2 * root + 2 ∧ 2 * root + 2 < hi ∧ lt d[first + (2 * root + 1)]! d[first + (2 * root + 2)]! = true) ∨ (c = 2 * root + 1 ∧ 2 * root + 1 < hi ∧ (2 * root + 2 < hi → lt d[first + (2 * root + 1)]! d[first + (2 * root + 2)]! = false))
theorem child_stop {α : Type} [Inhabited α] {lt : α → α → Bool} {hi first root c : Nat} {d : Array α} (h : Child lt hi first root d c) (hl : lt d[first + root]! d[first + c]! = false) : siftDown lt hi first root d = d := by
  rcases h with ⟨rfl, h1, h2⟩ | ⟨rfl, h1, h2⟩
  · exact sd_right_stop lt d h1 h2 hl
  · exact sd_left_stop lt d h1 h2 hl
theorem child_go {α : Type} [Inhabited α] {lt : α → α → Bool} {hi first root c : Nat} {d : Array α} (h : Child lt hi first root d c) (hl : lt d[first + root]! d[first + c]! = true) : siftDown lt hi first root d = siftDown lt hi first c (swp d (first + root) (first + c)) := by
  rcases h with ⟨rfl, h1, h2⟩ | ⟨rfl, h1, h2⟩
  · exact sd_right_go lt d h1 h2 hl
  · exact sd_left_go lt d h1 h2 hl
theorem child_in {α : Type} [Inhabited α] {lt : α → α → Bool} {hi first root c : Nat} {d : Array α} (h : Child lt hi first root d c) : c < hi ∧ root < c := by
  rcases h with ⟨rfl, h1, _⟩ | ⟨rfl, h1, _⟩ <;> omega
set_option maxRecDepth 100000 in
set_option maxHeartbeats 4000000 in
theorem sift_func {α : Type} [Inhabited α] {g sf : Nat} {lb sb : Array Value} {enc : α → List Value} {k : Nat} {lt : α → α → Bool} {blk off size : Nat} {w0 : World} {d0 : Array α} (f : Fam g sf lb sb enc k lt blk off size w0 d0) (W : World) (d : Array α) (h : SWK enc k w0 blk off d W) (hd : d.size = size) (lo hi first : Nat) (hlo : lo ≤ hi) (hb : first + hi ≤ size) :
    Calls Tryz.prog 268 #[dataV g sf lb sb, .int .i64 lo, .int .i64 hi, .int .i64 first] W fun e w' => e = .returned (.tuple #[]) ∧ Sorts enc k w0 blk off (siftDown lt hi first lo d) W w' := by
  have eg := f.eg
  have hsz := f.sz
  have hbl := h.lt f.lt0
  have HF := hide f
  have HB0 := hide (below_box W (.cells #[.func (.func g) #[] lb, .func (.func sf) #[] sb] 245))
  have HS1 := hide (h.alloc (.cells #[.func (.func g) #[] lb, .func (.func sf) #[] sb] 245))
  have c0 : (W.alloc (.cells #[.func (.func g) #[] lb, .func (.func sf) #[] sb] 245)).cell? ⟨W.heap.size, 0, none⟩ = some (.func (.func g) #[] lb) := by simp
  have c1 : (W.alloc (.cells #[.func (.func g) #[] lb, .func (.func sf) #[] sb] 245)).cell? ⟨W.heap.size, 1, none⟩ = some (.func (.func sf) #[] sb) := by simp
  have HC0 := hide c0
  have HC1 := hide c1
  have HK1 := hide (Keeps.of_below (fun i => i = blk) (unhide HB0) (Nat.le_refl _))
  clear h f c0 c1 HB0
  have hne : ¬ W.heap.size = blk := by omega
  unfold dataV
  go_enter Tryz.func268, Tryz.ntmps268
  go_wp2
  generalize W.alloc (.cells #[.func (.func g) #[] lb, .func (.func sf) #[] sb] 245) = W1 at *
  go_loopw [8] (fun vi y => ∃ (root : Nat) (dk : Array α), vi = .int .i64 root ∧ root ≤ hi ∧ dk.size = size ∧ SWK enc k w0 blk off dk y ∧ Keeps (fun i => i = blk) W1 y ∧ siftDown lt hi first root dk = siftDown lt hi first lo d) (fun vi _ => hi - natV vi)
  case atStart => exact ⟨lo, d, rfl, hlo, hd, unhide HS1, Keeps.refl _ _, rfl⟩
  case round =>
    revert wr
    intro wo hrel
    obtain ⟨root, dk, rfl, hr, hsk, hS, hKp, hO⟩ := hrel
    have HO := hide hO
    have HSo := hide hS
    have HKo := hide hKp
    clear hO hS hKp HS1
    by_cases h0 : hi ≤ 2 * root + 1
    · have h0z : (hi : Int) ≤ 2 * (root : Int) + 1 := by omega
      have HR : Hid (Sorts enc k w0 blk off (siftDown lt hi first lo d) W wo) := by
        refine ⟨?_, (unhide HK1).then (unhide HKo) (fun _ _ q => q)⟩
        rw [← unhide HO, sd_end lt dk h0]
        exact unhide HSo
      go_wp2
      (try simp only [Exit.inBlock, Exit.then])
      refine bodyPost_end (results_none rfl _ _ _) rfl ?_
      exact ⟨rfl, unhide HR⟩
    · have h0z : ¬ (hi : Int) ≤ 2 * (root : Int) + 1 := by omega
      have z0 := ((unhide HKo).cell (p := ⟨W.heap.size, 0, none⟩) (lt_of_cell (unhide HC0)) hne).trans (unhide HC0)
      go_upto_region 4 with fail
      go_cut [32] (fun s32 wx => ∃ bb : Bool, s32 = .bool bb ∧ (bb = true → 2 * root + 2 < hi ∧ lt dk[first + (2 * root + 1)]! dk[first + (2 * root + 2)]! = true) ∧ (bb = false → 2 * root + 2 < hi → lt dk[first + (2 * root + 1)]! dk[first + (2 * root + 2)]! = false) ∧ SWK enc k w0 blk off dk wx ∧ Keeps (fun i => i = blk) W1 wx)
      case first =>
        by_cases h1 : 2 * root + 2 < hi
        · have h1z : 2 * (root : Int) + 1 + 1 < (hi : Int) := by omega
          have hl := (unhide HF).less wo dk (unhide HSo) hsk (first + (2 * root + 1)) (first + (2 * root + 2)) (by omega) (by omega)
          rw [show ((first + (2 * root + 1) : Nat) : Int) = (first : Int) + (2 * (root : Int) + 1) by omega, show ((first + (2 * root + 2) : Nat) : Int) = (first : Int) + (2 * (root : Int) + 1) + 1 by omega] at hl
          have HL := hide hl
          clear hl
          go_wp2_with (go_at_fn g; refine (unhide HL).mono ?_; rintro e w' ⟨rfl, hS2, hB2⟩)
          go_meet
          case rel => exact ⟨_, rfl, fun q => ⟨h1, q⟩, fun q _ => q, hS2, (unhide HKo).then (Keeps.of_below (fun i => i = blk) hB2 (Nat.le_refl _)) (fun _ _ q => q)⟩
        · have h1z : decide (2 * (root : Int) + 1 + 1 < (hi : Int)) = false := decide_eq_false (by omega)
          go_wp2
          go_meet
          case rel => exact ⟨false, rfl, fun q => (by cases q), fun _ q => absurd q h1, unhide HSo, unhide HKo⟩
      case rest =>
        obtain ⟨bb, rfl, ht, hf, hS, hKp⟩ := hcut
        have HT := hide ht
        have HFf := hide hf
        have HS := hide hS
        have HKq := hide hKp
        clear ht hf hS hKp HSo HKo z0
        go_upto_if 32 with fail
        go_cut [9] (fun s9 wx => ∃ c : Nat, s9 = .int .i64 c ∧ Child lt hi first root dk c ∧ SWK enc k w0 blk off dk wx ∧ Keeps (fun i => i = blk) W1 wx)
        case first =>
          cases bb with
          | true =>
            go_wp2
            go_meet
            case rel => exact ⟨2 * root + 2, by go_num, .inl ⟨rfl, (unhide HT (by first | rfl | trivial)).1, (unhide HT (by first | rfl | trivial)).2⟩, unhide HS, unhide HKq⟩
          | false =>
            go_wp2
            go_meet
            case rel => exact ⟨2 * root + 1, by go_num, .inr ⟨rfl, by omega, unhide HFf (by first | rfl | trivial)⟩, unhide HS, unhide HKq⟩
        case rest =>
        clear HS HKq HT HFf
        obtain ⟨c, rfl, hch, hS, hKp⟩ := hcut
        have hci := child_in hch
        have HCh := hide hch
        have y0 := (hKp.cell (p := ⟨W.heap.size, 0, none⟩) (lt_of_cell (unhide HC0)) hne).trans (unhide HC0)
        have hl := (unhide HF).less wc dk hS hsk (first + root) (first + c) (by omega) (by omega)
        rw [show ((first + root : Nat) : Int) = (first : Int) + (root : Int) by omega, show ((first + c : Nat) : Int) = (first : Int) + (c : Int) by omega] at hl
        have HKp := hide hKp
        have hfb : first + hi < 4611686018427387904 := by omega
        clear hch hS hKp
        cases hlv : lt dk[first + root]! dk[first + c]! with
        | true =>
          rw [hlv] at hl
          have HL := hide hl
          clear hl
          go_wp2_with (go_at_fn g; refine (unhide HL).mono ?_; rintro e w' ⟨rfl, hS2, hB2⟩; have z1 := (hB2.cell (p := ⟨W.heap.size, 1, none⟩) (Nat.lt_of_lt_of_le (lt_of_cell (unhide HC1)) (unhide HKp).size)).trans (((unhide HKp).cell (p := ⟨W.heap.size, 1, none⟩) (lt_of_cell (unhide HC1)) hne).trans (unhide HC1)))
          have hs := (unhide HF).swap w' dk (hS2.holds (unhide HF).lt0 (unhide HF).holds (by rw [hsk]; exact (unhide HF).size0.symm)) hsk (first + root) (first + c) (by omega) (by omega)
          rw [show ((first + root : Nat) : Int) = (first : Int) + (root : Int) by omega, show ((first + c : Nat) : Int) = (first : Int) + (c : Int) by omega] at hs
          have HS3 := hide (hS2.swap (unhide HF).hk (unhide HF).lt0 (first + root) (first + c) (by omega) (by omega))
          have HK3 : Hid (Keeps (fun i => i = blk) W1 ((w'.setCells blk (off + (first + root) * k) (enc dk[first + c]!)).setCells blk (off + (first + c) * k) (enc dk[first + root]!))) := ((unhide HKp).then (Keeps.of_below (fun i => i = blk) hB2 (Nat.le_refl _)) (fun _ _ q => q)).then swap_keeps (fun _ _ q => q)
          rw [hs, Oper.upon_value]
          clear hs hS2 hB2 HL y0 z1 HKp
          generalize (w'.setCells blk (off + (first + root) * k) (enc dk[first + c]!)).setCells blk (off + (first + c) * k) (enc dk[first + root]!) = w3 at *
          go_wp2
          go_roundw
          case rel => exact ⟨c, swp dk (first + root) (first + c), rfl, by omega, by rw [size_swp]; exact hsk, unhide HS3, unhide HK3, by rw [← unhide HO, child_go (unhide HCh) hlv]⟩
          case measure => simp [natV]; omega
        | false =>
          rw [hlv] at hl
          have HL := hide hl
          clear hl
          go_wp2_with (go_at_fn g; refine (unhide HL).mono ?_; rintro e w' ⟨rfl, hS2, hB2⟩)
          have HR : Hid (Sorts enc k w0 blk off (siftDown lt hi first lo d) W w') := by
            refine ⟨?_, (unhide HK1).then ((unhide HKp).then (Keeps.of_below (fun i => i = blk) hB2 (Nat.le_refl _)) (fun _ _ q => q)) (fun _ _ q => q)⟩
            rw [← unhide HO, child_stop (unhide HCh) hlv]
            exact hS2
          refine bodyPost_ret (v := .tuple #[]) (results_none rfl _ _ _) rfl ?_
          exact ⟨rfl, unhide HR⟩
end Go.Proofs.YtfoojmflbifkpaaGreatDoor
