/- Texts of one proof, one behind the other. -/
import Derived.Test.YtfoojmflbifkpaaGreatDoorEh
import Derived.Test.YtfoojmflbifkpaaGreatDoorEw
set_option maxRecDepth 100000
set_option maxHeartbeats 16000000
namespace Go.Proofs.YtfoojmflbifkpaaGreatDoor
open Go.RowKit
theorem words_length (ns : List Int) (hb : ∀ n, n ∈ ns -> -9223372036854775808 <= n /\ n <= 9223372036854775807) : (Lib.join (ns.map Lib.itoa) [32]).length <= ns.length * 22 := by
 have := join_length 32 21 (ns.map Lib.itoa) (fun y hy => by
  obtain ⟨n, hn, rfl⟩ := List.mem_map.1 hy
  exact Lib.itoa_length_le n (hb n hn).1 (hb n hn).2)
 simpa using this
def itxt (n : Int) : ByteArray := ⟨(Lib.itoa n).toArray⟩
theorem itxt_data (l : List Int) : (l.map itxt).map (·.data.toList) = l.map Lib.itoa := by
 rw [List.map_map]; rfl
theorem ref_Words (ns : List Int) (b cap : Nat) (w : World) (h1 : 1 <= ns.length) (h9 : ns.length <= 100) (hb : ∀ n, n ∈ ns -> -9223372036854775808 <= n /\ n <= 9223372036854775807)
  (hb0 : b < w.heap.size) (hc : ∀ k, (hk : k < ns.length) -> w.cell? ⟨b, 0 + k, none⟩ = some (.int .i64 ns[k])) (ht : Tab w) :
  Calls Tryz.prog 94 #[.slice (some ⟨b, 0, none⟩) ns.length cap] w fun e w' => e = .returned (.string ⟨(Lib.join (ns.map Lib.itoa) [32]).toArray⟩) /\ Below w.heap.size w w' := by
 have HC := zh hc
 have HT := zh ht
 have HN := zh hb
 clear hc ht hb
 go_enter Tryz.func94, Tryz.ntmps94
 go_wp2
 go_loopw [3, 8] (fun t i x => ∃ k : Nat, k <= ns.length /\ i = .int .i64 k /\ x.ownsRow w.heap.size 9 1 t ((ns.take k).map itxt).length (((ns.take k).map itxt).map Value.string) /\ Below w.heap.size w x) (fun _ i _ => ns.length - (intOf i).toNat)
 case atStart => exact ⟨0, Nat.zero_le _, rfl, by simpa using World.ownsRow_nil _ _ _ _, Below.refl _ _⟩
 case round =>
  obtain ⟨k, hk, rfl, hown, hb⟩ := hrel
  by_cases hlt : k < ns.length
  ·have hlt' : (k : Int) < (ns.length : Int) := by omega
   have c0 := (hb.cell (p := ⟨b, 0 + k, none⟩) hb0).trans (uh HC k hlt)
   rw [Nat.zero_add] at c0
   have hz := hb.size
   have hnk := uh HN _ (List.getElem_mem hlt)
   have HW := zh (itoa ns[k] wr hnk.1 hnk.2 ((uh HT).carry hb))
   have htk : ns.take (k + 1) = ns.take k ++ [ns[k]] := List.take_succ_eq_append_getElem hlt
   have HK : Hid ((ns.take (k + 1)).map itxt = (ns.take k).map itxt ++ [⟨(Lib.itoa ns[k]).toArray⟩]) := by unfold Hid; rw [htk, List.map_append]; rfl
   have hlk : ((ns.take k).map itxt).length < 1099511627776 := by simp; omega
   have HB := zh hb
   have HO := zh hown
   clear hb hown htk hnk HC HT HN
   have hF1 : ∃ F, F = (ns.take k).map itxt := ⟨_, rfl⟩
   obtain ⟨F, hF⟩ := hF1
   rw [<- hF] at HO HK hlk
   clear hF
   generalize ns[k] = n at *
   go_wp2_with fail
   refine (uh HW).mono ?_
   rintro e w2 ⟨rfl, b2⟩
   have hz2 := b2.size
   have B2 := zh b2
   have O2 := zh (ownsRow_carry (uh HO) b2)
   clear b2 HW
   go_wp2_with (at_builtin; refine wpList_appS _ rfl (.tmp 12) (.tmp 15) rfl w.heap.size _ F rfl ((uh O2).alloc _) w2.heap.size ⟨(Lib.itoa n).toArray⟩ rfl ?d0 hlk ?d3 ?_)
   case d0 => simp
   case d3 => simp; omega
   intro v' wn k1 k2
   have HBN := zh (append_step hz (uh HB) (uh B2) hz (uh HO) k2)
   have HON : Hid (wn.ownsRow w.heap.size 9 1 v' ((ns.take (k + 1)).map itxt).length (((ns.take (k + 1)).map itxt).map Value.string)) := by unfold Hid; rw [uh HK]; simpa using k1
   clear k1 k2
   go_wp2
   go_roundw
   case rel => exact ⟨k + 1, by omega, by go_num, uh HON, uh HBN⟩
   case measure => simp [intOf]; omega
  ·have hlt' : ¬ (k : Int) < (ns.length : Int) := by omega
   have hkl : ns.take k = ns := List.take_of_length_le (by omega)
   rw [hkl] at hown
   obtain ⟨g, cp, rfl, q1, q2, q3⟩ := own_cells hown (by intro e; simp at e; subst e; simp at h1)
   have hlen : (Lib.join ((ns.map itxt).map (·.data.toList)) (⟨#[32]⟩ : ByteArray).data.toList).length <= 140737488355328 := by
    rw [itxt_data]
    have := words_length ns (uh HN)
    show (Lib.join (ns.map Lib.itoa) [32]).length <= _
    omega
   have HJ := zh (Tryz.strings_Join g 0 cp (ns.map itxt) ⟨#[32]⟩ wr q3 q2 (by simp; omega) q1 hlen)
   have HB := zh hb
   clear hb hown hkl hlen q1 q2 q3 HC HT HN
   rw [itxt_data] at HJ
   simp only [List.length_map] at HJ
   go_wp2_with fail
   refine (uh HJ).mono ?_
   rintro e w2 ⟨rfl, b2⟩
   have HB2 := zh ((uh HB).trans (b2.mono (uh HB).size))
   clear b2
   go_wp2
   go_ret
   exact ⟨rfl, uh HB2⟩
def I64 (n : Int) : Prop := -9223372036854775808 <= n /\ n <= 9223372036854775807
theorem words2 (x y : Int) (b cap : Nat) (w : World) (hx : I64 x) (hy : I64 y) (h0 : w.cell? ⟨b, 0, none⟩ = some (.int .i64 x)) (h1 : w.cell? ⟨b, 1, none⟩ = some (.int .i64 y)) (ht : Tab w) :
  Calls Tryz.prog 94 #[.slice (some ⟨b, 0, none⟩) 2 cap] w fun e w' => ∃ s : ByteArray, e = .returned (.string s) /\ s.size <= 44 /\ Hid (s.data.toList = Lib.itoa x ++ 32 :: Lib.itoa y) /\ Below w.heap.size w w' := by
 have hb : ∀ n, n ∈ [x, y] -> -9223372036854775808 <= n /\ n <= 9223372036854775807 := by
  intro n hn; simp at hn; rcases hn with rfl | rfl
  ·exact hx
  ·exact hy
 have hl := words_length [x, y] hb
 refine (ref_Words [x, y] b cap w (by simp) (by simp) hb (lt_of_cell h0) ?_ ht).mono ?_
 ·intro k hk
  have hk' : k < 2 := hk
  rcases k with _ | _ | k
  ·exact h0
  ·exact h1
  ·omega
 ·rintro e w' ⟨rfl, b1⟩
  refine ⟨_, rfl, ?_, ?_, b1⟩
  ·simpa [ByteArray.size] using hl
  ·show (Lib.join [Lib.itoa x, Lib.itoa y] [32]) = _
   rw [join_two, Lib.join_one]
theorem words1 (x : Int) (b cap : Nat) (w : World) (hx : I64 x) (h0 : w.cell? ⟨b, 0, none⟩ = some (.int .i64 x)) (ht : Tab w) :
  Calls Tryz.prog 94 #[.slice (some ⟨b, 0, none⟩) 1 cap] w fun e w' => ∃ s : ByteArray, e = .returned (.string s) /\ s.size <= 22 /\ Hid (s.data.toList = Lib.itoa x) /\ Below w.heap.size w w' := by
 have hb : ∀ n, n ∈ [x] -> -9223372036854775808 <= n /\ n <= 9223372036854775807 := by
  intro n hn; simp at hn; rw [hn]; exact hx
 have hl := words_length [x] hb
 refine (ref_Words [x] b cap w (by simp) (by simp) hb (lt_of_cell h0) ?_ ht).mono ?_
 ·intro k hk
  have hk' : k < 1 := hk
  rcases k with _ | k
  ·exact h0
  ·omega
 ·rintro e w' ⟨rfl, b1⟩
  refine ⟨_, rfl, ?_, ?_, b1⟩
  ·simpa [ByteArray.size] using hl
  ·show (Lib.join [Lib.itoa x] [32]) = _
   rw [Lib.join_one]
theorem ref_dash (s : ByteArray) (w : World) : Calls Tryz.prog 95 #[.string s] w fun e w' => e = .returned (.string (dashB s)) /\ w' = w := by
 by_cases h : s.toList = []
 ·have E : Hid (dashB s = ⟨#[45]⟩) := by unfold Hid dashB; rw [if_pos h]
  go_enter Tryz.func95, Tryz.ntmps95
  go_wp2
  go_ret
  exact ⟨ret_string (uh E), rfl⟩
 ·have E : Hid (dashB s = s) := by unfold Hid dashB; rw [if_neg h]
  have h' : s.toList.isEmpty = false := by simp [h]
  go_enter Tryz.func95, Tryz.ntmps95
  go_wp2
  go_ret
  exact ⟨ret_string (uh E), rfl⟩
def keyL (k a : Int) (wd : ByteArray) (b : Int) : List UInt8 := Lib.itoa k ++ 32 :: Lib.itoa a ++ 32 :: dashL wd.data.toList ++ 32 :: Lib.itoa b
theorem opL_key (o : Fop) : opL o = keyL o.kind o.a o.word o.b ++ 32 :: (Lib.itoa o.lo ++ 32 :: Lib.itoa o.hi) ++ 32 :: dashL o.value.data.toList := by
 unfold opL fieldsL keyL
 rw [join_two, join_two, join_two, join_two, join_two, join_two, Lib.join_one]
 simp [List.append_assoc]
def KHeld (w : World) (k a : Int) (wd : ByteArray) (b : Int) (x : World) : Prop :=
 (x.cell? ⟨w.heap.size, 0, none⟩ = some (.int .i64 k) /\ x.cell? ⟨w.heap.size, 1, none⟩ = some (.int .i64 a) /\ x.cell? ⟨w.heap.size, 2, none⟩ = some (.string wd) /\ x.cell? ⟨w.heap.size, 3, none⟩ = some (.int .i64 b)) /\ Below w.heap.size w x
theorem KHeld.carry {w : World} {k a : Int} {wd : ByteArray} {b : Int} {x y : World} (h : KHeld w k a wd b x) (hb : Below x.heap.size x y) : KHeld w k a wd b y := by
 obtain ⟨⟨h1, h2, h3, h4⟩, h5⟩ := h
 have t : ∀ {p : Addr} {v : Value}, x.cell? p = some v -> y.cell? p = some v := fun {p v} e => (hb.cell (p := p) (lt_of_cell e)).trans e
 exact ⟨⟨t h1, t h2, t h3, t h4⟩, h5.trans (hb.mono h5.size)⟩
theorem KHeld.tab {w : World} {k a : Int} {wd : ByteArray} {b : Int} {x : World} (h : KHeld w k a wd b x) (ht : Tab w) : Tab x := ht.carry h.2
theorem size_data (s : ByteArray) : s.size = s.data.toList.length := Array.length_toList.symm
theorem dashB_size (s : ByteArray) (h : s.size <= 12) : (dashB s).size <= 12 := by
 unfold dashB
 split
 ·show 1 <= 12; omega
 ·exact h
theorem bytes_ext {a b : ByteArray} (h : a.data.toList = b.data.toList) : a = b := by
 cases a; cases b
 simp only [ByteArray.mk.injEq]
 exact Array.toList_inj.1 h
theorem app_data (a b : ByteArray) : (a ++ b).data.toList = a.data.toList ++ b.data.toList := by simp
theorem cat {P : Program} (a b : ByteArray) (h : a.size + b.size <= 10000) (w : World) : (Op.stringOp .add a b).run P w = .ok (.string (a ++ b)) w := run_string_add_sum w a b (by omega)
theorem blank_size : (⟨#[32]⟩ : ByteArray).size = 1 := rfl
theorem ref_KeyText (k a : Int) (wd : ByteArray) (b : Int) (w : World) (hk : I64 k) (ha : I64 a) (hb : I64 b) (hw : wd.size <= 12) (ht : Tab w) :
  Calls Tryz.prog 93 #[.agg #[.int .i64 k, .int .i64 a, .string wd, .int .i64 b]] w fun e w' => ∃ s : ByteArray, e = .returned (.string s) /\ s.size <= 80 /\ Hid (s.data.toList = keyL k a wd b) /\ Below w.heap.size w w' := by
 have HT := zh ht
 have hd := dashB_size wd hw
 have HD := zh (dashB_data wd)
 have HH : Hid (KHeld w k a wd b (w.alloc (.cells #[.int .i64 k, .int .i64 a, .string wd, .int .i64 b] 32))) := by
  unfold Hid KHeld
  exact ⟨⟨by simp, by simp, by simp, by simp⟩, below_box _ _⟩
 have HI := zh (And.intro hk (And.intro ha hb))
 clear ht hk ha hb hw
 go_enter Tryz.func93, Tryz.ntmps93
 go_wp2
 generalize w.alloc (.cells #[.int .i64 k, .int .i64 a, .string wd, .int .i64 b] 32) = W at HH ⊢
 go_region_held3 (fun x => (x.cell? ⟨w.heap.size, 0, none⟩ = some (.int .i64 k) /\ x.cell? ⟨w.heap.size, 1, none⟩ = some (.int .i64 a) /\ x.cell? ⟨w.heap.size, 2, none⟩ = some (.string wd) /\ x.cell? ⟨w.heap.size, 3, none⟩ = some (.int .i64 b)) /\ Below w.heap.size w x)
  (first | exact KHeld.carry (uh HH) (below_drew _) | (refine KHeld.carry (by assumption) ?_; exact below_box _ _) | (refine KHeld.carry (by assumption) ?_; assumption) | assumption)
  (first
   | (go_at_call_of 94 (2 : Nat); refine (words2 k a _ _ _ (uh HI).1 (uh HI).2.1 (by simp [go_sem]) (by simp [go_sem]) (KHeld.tab (k := k) (a := a) (wd := wd) (b := b) (by assumption) (uh HT))).mono ?_; rintro e w1 ⟨s1, rfl, hs1, E1, b1⟩; have q1 := fun W => cat (P := Tryz.prog) s1 ⟨#[32]⟩ (by rw [blank_size]; omega) W; have q2 := fun W => cat (P := Tryz.prog) (s1 ++ ⟨#[32]⟩) (dashB wd) (by rw [ByteArray.size_append, blank_size]; omega) W; have q3 := fun W => cat (P := Tryz.prog) (s1 ++ ⟨#[32]⟩ ++ dashB wd) ⟨#[32]⟩ (by rw [ByteArray.size_append, ByteArray.size_append, blank_size]; omega) W)
   | (go_at_call 94; refine (words1 b _ _ _ (uh HI).2.2 (by first | (simp [go_sem]; done) | (rw [b1.cell (by first | (simp; done) | (simp; omega))]; simp [go_sem]; done)) (KHeld.tab (k := k) (a := a) (wd := wd) (b := b) (by assumption) (uh HT))).mono ?_; rintro e w2 ⟨s2, rfl, hs2, E2, b2⟩; have q4 := fun W => cat (P := Tryz.prog) (s1 ++ ⟨#[32]⟩ ++ dashB wd ++ ⟨#[32]⟩) s2 (by rw [ByteArray.size_append, ByteArray.size_append, ByteArray.size_append, blank_size]; omega) W)
   | (go_at_call 95; refine (ref_dash _ _).mono ?_; rintro e w3 ⟨rfl, rfl⟩))
 all_goals
  rename_i hh
  have HF := zh hh.2
  clear hh b1 b2 q1 q2 q3 q4
  go_wp2
  go_ret
  refine ⟨_, rfl, ?_, ?_, uh HF⟩
  ·rw [ByteArray.size_append, ByteArray.size_append, ByteArray.size_append, ByteArray.size_append, blank_size]; omega
  ·show (s1 ++ ⟨#[32]⟩ ++ dashB wd ++ ⟨#[32]⟩ ++ s2).data.toList = keyL k a wd b
   rw [app_data, app_data, app_data, app_data, uh E1, uh E2, uh HD]
   simp [keyL, List.append_assoc]
theorem ref_Bare (n : Int) (w : World) : Calls Tryz.prog 44 #[.int .i64 n] w fun e w' => e = .returned (.agg #[.int .i64 n, .int .i64 (-1)]) /\ w' = w.alloc (.cells #[.int .i64 n, .int .i64 (-1)] 45) := by
 go_enter Tryz.func44, Tryz.ntmps44
 go_wp2
 exact bodyPost_ret (v := .agg #[.int .i64 n, .int .i64 (-1)]) (by simp [results, Tryz.results44, go_sem]) rfl ⟨rfl, rfl⟩
theorem refw_limit (l : List Fop) (v : Value) (w : World) (hn : l.length < 1099511627776) (h : ReadsOps w v l) (hl : ¬ (1 <= l.length /\ l.length <= 8)) :
  Calls Tryz.prog 42 #[v] w fun e w' => e = .returned (.tuple #[.string ⟨#[]⟩, .agg #[.int .i64 4, .int .i64 (-1)]]) /\ Below w.heap.size w w' := by
 obtain ⟨ad, cap, rfl, h⟩ := h
 clear h
 have hi : inB (l.length : Int) 1 8 = false := by unfold inB; simp only [decide_eq_false_iff_not]; omega
 have HI := zh (fun W => ref_in_is _ _ _ _ hi W)
 have HR := zh (fun W => ref_Bare 4 W)
 clear hi
 go_enter Tryz.func42, Tryz.ntmps42
 go_wp2_with (first | (go_at_call 47; refine (uh HI _).mono ?_; rintro e w1 ⟨rfl, rfl⟩) | (go_at_call 44; refine (uh HR _).mono ?_; rintro e w2 ⟨rfl, rfl⟩))
 exact bodyPost_ret (v := .tuple #[.string ⟨#[]⟩, .agg #[.int .i64 4, .int .i64 (-1)]]) (by simp [results, Tryz.results42, go_sem]) rfl ⟨rfl, ((Below.refl _ _).alloc zr _).alloc (by simp) _⟩
def THeld (w : World) (B : Nat) (o : Fop) (x : World) : Prop :=
 (x.cell? ⟨B, 0, none⟩ = some (.int .i64 o.kind) /\ x.cell? ⟨B, 1, none⟩ = some (.int .i64 o.a) /\ x.cell? ⟨B, 2, none⟩ = some (.string o.word) /\ x.cell? ⟨B, 3, none⟩ = some (.int .i64 o.b)) /\
 x.cell? ⟨B, 4, none⟩ = some (.int .i64 o.lo) /\ x.cell? ⟨B, 5, none⟩ = some (.int .i64 o.hi) /\ x.cell? ⟨B, 6, none⟩ = some (.string o.value) /\ Below w.heap.size w x
theorem THeld.carry {w : World} {B : Nat} {o : Fop} {x y : World} (h : THeld w B o x) (hb : Below x.heap.size x y) : THeld w B o y := by
 obtain ⟨⟨h1, h2, h3, h4⟩, h5, h6, h7, h8⟩ := h
 have t : ∀ {p : Addr} {v : Value}, x.cell? p = some v -> y.cell? p = some v := fun {p v} e => (hb.cell (p := p) (lt_of_cell e)).trans e
 exact ⟨⟨t h1, t h2, t h3, t h4⟩, t h5, t h6, t h7, h8.trans (hb.mono h8.size)⟩
theorem THeld.tab {w : World} {B : Nat} {o : Fop} {x : World} (h : THeld w B o x) (ht : Tab w) : Tab x := ht.carry h.2.2.2.2
def Place0 (w x : World) : Prop := (x.cell? ⟨w.heap.size, 0, none⟩ = some (.int .i64 0) /\ x.frozen? ⟨w.heap.size, 0, none⟩ = false) /\ x.cell? ⟨w.heap.size, 1, none⟩ = some (.int .i64 0) /\ x.frozen? ⟨w.heap.size, 1, none⟩ = false
theorem Place0.carry {w x y : World} (h : Place0 w x) (hb : Below x.heap.size x y) : Place0 w y := by
 obtain ⟨⟨h1, h2⟩, h3, h4⟩ := h
 exact ⟨⟨(hb.cell (lt_of_cell h1)).trans h1, (hb.frozen (lt_of_cell h1)).trans h2⟩, (hb.cell (lt_of_cell h3)).trans h3, (hb.frozen (lt_of_cell h3)).trans h4⟩
theorem opsL_snoc (l : List Fop) (k : Nat) (hk : k < l.length) : opsL (l.take (k + 1)) = (if k = 0 then [] else opsL (l.take k) ++ [43]) ++ opL l[k] := by
 have htk : l.take (k + 1) = l.take k ++ [l[k]] := List.take_succ_eq_append_getElem hk
 rw [htk]
 have key : ∀ (m : List Fop) (o : Fop), m ≠ [] -> opsL (m ++ [o]) = opsL m ++ [43] ++ opL o := by
  intro m
  induction m with
  | nil => intro o h; exact absurd rfl h
  | cons x m ih =>
   intro o _
   cases m with
   | nil => simp [opsL, join_two, Lib.join_one]
   | cons y m =>
    have := ih o (by simp)
    simp only [opsL, List.cons_append, List.map_cons] at this ⊢
    rw [join_two, this, join_two]
    simp [List.append_assoc]
 by_cases h0 : k = 0
 ·subst h0
  simp [opsL, Lib.join_one]
 ·rw [if_neg h0, key _ _ (by
   intro e
   have := congrArg List.length e
   simp at this
   rcases this with this | this
   ·omega
   ·subst this; simp at hk)]
def RefWrote (w : World) (l : List Fop) (i : Nat) (e : Ending) (w' : World) : Prop :=
 Below w.heap.size w w' /\ ((i = l.length /\ e = .returned (.tuple #[.string ⟨(opsL l).toArray⟩, .agg #[.int .i64 0, .int .i64 (-1)]])) \/ (i < l.length /\ e = .returned (.tuple #[.string ⟨#[]⟩, .agg #[.int .i64 1, .int .i64 i]])))
theorem plus_size : (⟨#[43]⟩ : ByteArray).size = 1 := rfl
theorem ok_length (o : Fop) (h : opB o = true) : o.word.size <= 12 /\ o.value.size <= 12 := by
 obtain ⟨_, _, _, _, h5, h6⟩ := op_parts o h
 constructor
 ·rw [size_data]
  rcases h5 with h | h
  ·rw [h]; simp
  ·exact (word_length _ h).2
 ·rw [size_data]
  rcases h6 with h | h
  ·rw [h]; simp
  ·exact (word_length _ h).2
theorem ok_ints (o : Fop) (h : opB o = true) : (I64 o.kind /\ I64 o.a /\ I64 o.b) /\ I64 o.lo /\ I64 o.hi := by
 obtain ⟨_, _, _, _, _, _⟩ := op_parts o h
 unfold I64
 omega
theorem refw_main (l : List Fop) (i0 b off cap : Nat) (w : World) (hl : 1 <= l.length /\ l.length <= 8) (hs : ∀ x, x ∈ l -> Small x) (h : OpsAt w b off l) (ht : Tab w)
  (hi0 : i0 <= l.length) (hgood : ∀ j, (hj : j < l.length) -> j < i0 -> opB l[j] = true) (hbad : (hj : i0 < l.length) -> opB l[i0] = false) :
  Calls Tryz.prog 42 #[.slice (some ⟨b, off, none⟩) l.length cap] w (RefWrote w l i0) := by
 have hi : inB (l.length : Int) 1 8 = true := by unfold inB; simp only [decide_eq_true_eq]; omega
 have HI := zh (fun W => ref_in_is _ _ _ _ hi W)
 have H := zh h
 have HS := zh hs
 have HT := zh ht
 have HG := zh hgood
 have HD := zh hbad
 clear hi h hs ht hgood hbad
 go_enter Tryz.func42, Tryz.ntmps42
 go_wp2_with (go_at_call 47; refine (uh HI _).mono ?_; rintro e w1 ⟨rfl, rfl⟩)
 go_loopw [4, 14] (fun t i x => ∃ (k : Nat) (s : ByteArray), k <= i0 /\ i = .int .i64 k /\ t = .string s /\ s.size <= k * 155 /\ Hid (s.data.toList = opsL (l.take k)) /\ Place0 w x /\ Below w.heap.size w x) (fun _ i _ => l.length - (intOf i).toNat)
 case atStart =>
  refine ⟨0, ⟨#[]⟩, Nat.zero_le _, rfl, rfl, Nat.zero_le _, by simp [Hid, opsL, Lib.join_nil], ?_, below_box _ _⟩
  exact ⟨⟨by simp, by simp⟩, by simp, by simp⟩
 case round =>
  obtain ⟨k, s, hk, rfl, rfl, hsz, HE, hpl, hb⟩ := hrel
  by_cases hlt : k < l.length
  ·have hlt' : (k : Int) < (l.length : Int) := by omega
   obtain ⟨c0, c1, c2, c3, c4, c5, c6⟩ := ((uh H).carry hb).2 k hlt
   have hz := hb.size
   have HW := zh (fun o => ref_Op l[k] (wr.alloc o) (uh HS _ (List.getElem_mem hlt)))
   unfold opV opCells at HW
   have HB := zh hb
   have HP := zh hpl
   clear hb hpl
   by_cases hki : k = i0
   ·subst hki
    rw [uh HD hlt] at HW
    clear HG HD H HS HI HT
    generalize l[k] = o at *
    go_wp2_with fail
    refine (uh HW _).mono ?_
    rintro e w2 ⟨rfl, b2⟩
    have b2' : Below wr.heap.size wr w2 := ((Below.refl _ _).alloc zr _).trans (b2.mono (by simp))
    obtain ⟨⟨p0, f0⟩, p1, f1⟩ := (uh HP).carry b2'
    have HB2 := zh ((uh HB).trans (b2'.mono hz))
    clear b2 b2' HP HB HW
    have q := two_set w2 w.heap.size (.int .i64 1) (.int .i64 k) _ _ p0 p1
    go_wp2
    exact bodyPost_ret (v := .tuple #[.string ⟨#[]⟩, .agg #[.int .i64 1, .int .i64 k]]) (by simp [results, Tryz.results42, go_sem, q.1, q.2]) rfl ⟨((uh HB2).setCell zr _).setCell zr _, Or.inr ⟨hlt, rfl⟩⟩
   ·have hok := uh HG k hlt (by omega)
    rw [hok] at HW
    have hki1 : k + 1 <= i0 := by omega
    have hsn := opsL_snoc l k hlt
    have hol := wr_length l[k] hok
    have hws := ok_length l[k] hok
    have HII := zh (ok_ints l[k] hok)
    have HEQ := zh (opL_key l[k])
    clear hki HG HD H HS HI hok
    have HSN := zh hsn
    clear hsn
    generalize l[k] = o at *
    have hd := dashB_size o.value hws.2
    have HDD := zh (dashB_data o.value)
    go_wp2_with fail
    refine (uh HW _).mono ?_
    rintro e w2 ⟨rfl, b2⟩
    have b2' : Below wr.heap.size wr w2 := ((Below.refl _ _).alloc zr _).trans (b2.mono (by simp))
    have HP2 := zh ((uh HP).carry b2')
    have hz2 : wr.heap.size < w2.heap.size := by have := b2.size; simp at this; omega
    have HT2 := zh ((uh HT).carry ((uh HB).trans (b2'.mono hz)))
    have HB2 := zh ((uh HB).trans (b2'.mono hz))
    have HH : Hid (THeld w2 wr.heap.size o w2) := by
     unfold Hid THeld
     have t : ∀ {j : Nat} {v : Value}, (wr.alloc (.cells #[.int .i64 o.kind, .int .i64 o.a, .string o.word, .int .i64 o.b, .int .i64 o.lo, .int .i64 o.hi, .string o.value] 36)).cell? ⟨wr.heap.size, j, none⟩ = some v -> w2.cell? ⟨wr.heap.size, j, none⟩ = some v := fun {j v} e => (b2.cell (p := ⟨wr.heap.size, j, none⟩) (by simp)).trans e
     exact ⟨⟨t (by simp), t (by simp), t (by simp), t (by simp)⟩, t (by simp), t (by simp), t (by simp), Below.refl _ _⟩
    clear b2 b2' HP HB HW HT
    rcases Nat.eq_zero_or_pos k with h0 | h0
    ·have h0' : ¬ (0 : Int) < (k : Int) := by omega
     go_wp2
     have hpe : ∃ p, p = s := ⟨_, rfl⟩
     obtain ⟨p, hpe⟩ := hpe
     have hsp : p.size + 154 <= (k + 1) * 155 := by rw [hpe]; subst h0; omega
     have HPP : Hid (p.data.toList ++ opL o = opsL (l.take (k + 1))) := by
      unfold Hid
      rw [uh HSN, if_pos h0, hpe, uh HE, h0]
      simp [opsL, Lib.join_nil]
     rw [<- hpe]
     clear hpe HSN HE
     go_region_held3 (fun x => (x.cell? ⟨wr.heap.size, 0, none⟩ = some (.int .i64 o.kind) /\ x.cell? ⟨wr.heap.size, 1, none⟩ = some (.int .i64 o.a) /\ x.cell? ⟨wr.heap.size, 2, none⟩ = some (.string o.word) /\ x.cell? ⟨wr.heap.size, 3, none⟩ = some (.int .i64 o.b)) /\
       x.cell? ⟨wr.heap.size, 4, none⟩ = some (.int .i64 o.lo) /\ x.cell? ⟨wr.heap.size, 5, none⟩ = some (.int .i64 o.hi) /\ x.cell? ⟨wr.heap.size, 6, none⟩ = some (.string o.value) /\ Below w2.heap.size w2 x)
      (first | exact THeld.carry (uh HH) (below_drew _) | (refine THeld.carry (by assumption) ?_; exact below_box _ _) | (refine THeld.carry (by assumption) ?_; assumption) | assumption)
      (first
       | (go_at_call 93; refine (ref_KeyText o.kind o.a o.word o.b _ (uh HII).1.1 (uh HII).1.2.1 (uh HII).1.2.2 hws.1 (THeld.tab (B := wr.heap.size) (o := o) (by assumption) (uh HT2))).mono ?_; rintro e w3 ⟨s1, rfl, hs1, E1, b3⟩; have q1 := fun W => cat (P := Tryz.prog) s1 ⟨#[32]⟩ (by rw [blank_size]; omega) W)
       | (go_at_call 94; refine (words2 o.lo o.hi _ _ _ (uh HII).2.1 (uh HII).2.2 (by first | (simp [go_sem]; done) | (rw [b3.cell (by first | (simp; done) | (simp; omega))]; simp [go_sem]; done)) (by first | (simp [go_sem]; done) | (rw [b3.cell (by first | (simp; done) | (simp; omega))]; simp [go_sem]; done)) (THeld.tab (B := wr.heap.size) (o := o) (by assumption) (uh HT2))).mono ?_; rintro e w4 ⟨s2, rfl, hs2, E2, b4⟩; have q2 := fun W => cat (P := Tryz.prog) (s1 ++ ⟨#[32]⟩) s2 (by rw [ByteArray.size_append, blank_size]; omega) W; have q3 := fun W => cat (P := Tryz.prog) (s1 ++ ⟨#[32]⟩ ++ s2) ⟨#[32]⟩ (by rw [ByteArray.size_append, ByteArray.size_append, blank_size]; omega) W; have q4 := fun W => cat (P := Tryz.prog) (s1 ++ ⟨#[32]⟩ ++ s2 ++ ⟨#[32]⟩) (dashB o.value) (by rw [ByteArray.size_append, ByteArray.size_append, ByteArray.size_append, blank_size]; omega) W; have q5 := fun W => cat (P := Tryz.prog) p (s1 ++ ⟨#[32]⟩ ++ s2 ++ ⟨#[32]⟩ ++ dashB o.value) (by rw [ByteArray.size_append, ByteArray.size_append, ByteArray.size_append, ByteArray.size_append, blank_size]; omega) W)
       | (go_at_call 95; refine (ref_dash _ _).mono ?_; rintro e w5 ⟨rfl, rfl⟩))
     all_goals
      rename_i hh
      have HF := zh (And.intro ((uh HP2).carry hh.2.2.2.2) ((uh HB2).trans (hh.2.2.2.2.mono (uh HB2).size)))
      clear hh q1 q2 q3 q4 q5
      have HD2 : Hid ((p ++ (s1 ++ ⟨#[32]⟩ ++ s2 ++ ⟨#[32]⟩ ++ dashB o.value)).data.toList = opsL (l.take (k + 1))) := by
       unfold Hid
       rw [<- uh HPP, app_data, app_data, app_data, app_data, app_data, uh E1, uh E2, uh HDD, uh HEQ]
       simp [List.append_assoc]
      have hsz2 : (p ++ (s1 ++ ⟨#[32]⟩ ++ s2 ++ ⟨#[32]⟩ ++ dashB o.value)).size <= (k + 1) * 155 := by
       rw [size_data, uh HD2, <- uh HPP, List.length_append, <- size_data]; omega
      clear E1 E2 hs1 hs2
      generalize p ++ (s1 ++ ⟨#[32]⟩ ++ s2 ++ ⟨#[32]⟩ ++ dashB o.value) = t at HD2 hsz2 ⊢
      go_wp2
      exact ⟨⟨k + 1, t, hki1, by rw [h0]; rfl, rfl, hsz2, HD2, (uh HF).1, (uh HF).2⟩, by simp [intOf]; omega⟩
    ·have h0' : (0 : Int) < (k : Int) := by omega
     have q0 := fun W => cat (P := Tryz.prog) s ⟨#[43]⟩ (by rw [plus_size]; omega) W
     go_wp2
     have hpe : ∃ p, p = s ++ ⟨#[43]⟩ := ⟨_, rfl⟩
     obtain ⟨p, hpe⟩ := hpe
     have hsp : p.size + 154 <= (k + 1) * 155 := by rw [hpe, ByteArray.size_append, plus_size]; omega
     have HPP : Hid (p.data.toList ++ opL o = opsL (l.take (k + 1))) := by
      unfold Hid
      rw [uh HSN, if_neg (by omega), hpe, app_data, uh HE]
     rw [<- hpe]
     clear hpe HSN HE q0
     go_region_held3 (fun x => (x.cell? ⟨wr.heap.size, 0, none⟩ = some (.int .i64 o.kind) /\ x.cell? ⟨wr.heap.size, 1, none⟩ = some (.int .i64 o.a) /\ x.cell? ⟨wr.heap.size, 2, none⟩ = some (.string o.word) /\ x.cell? ⟨wr.heap.size, 3, none⟩ = some (.int .i64 o.b)) /\
       x.cell? ⟨wr.heap.size, 4, none⟩ = some (.int .i64 o.lo) /\ x.cell? ⟨wr.heap.size, 5, none⟩ = some (.int .i64 o.hi) /\ x.cell? ⟨wr.heap.size, 6, none⟩ = some (.string o.value) /\ Below w2.heap.size w2 x)
      (first | exact THeld.carry (uh HH) (below_drew _) | (refine THeld.carry (by assumption) ?_; exact below_box _ _) | (refine THeld.carry (by assumption) ?_; assumption) | assumption)
      (first
       | (go_at_call 93; refine (ref_KeyText o.kind o.a o.word o.b _ (uh HII).1.1 (uh HII).1.2.1 (uh HII).1.2.2 hws.1 (THeld.tab (B := wr.heap.size) (o := o) (by assumption) (uh HT2))).mono ?_; rintro e w3 ⟨s1, rfl, hs1, E1, b3⟩; have q1 := fun W => cat (P := Tryz.prog) s1 ⟨#[32]⟩ (by rw [blank_size]; omega) W)
       | (go_at_call 94; refine (words2 o.lo o.hi _ _ _ (uh HII).2.1 (uh HII).2.2 (by first | (simp [go_sem]; done) | (rw [b3.cell (by first | (simp; done) | (simp; omega))]; simp [go_sem]; done)) (by first | (simp [go_sem]; done) | (rw [b3.cell (by first | (simp; done) | (simp; omega))]; simp [go_sem]; done)) (THeld.tab (B := wr.heap.size) (o := o) (by assumption) (uh HT2))).mono ?_; rintro e w4 ⟨s2, rfl, hs2, E2, b4⟩; have q2 := fun W => cat (P := Tryz.prog) (s1 ++ ⟨#[32]⟩) s2 (by rw [ByteArray.size_append, blank_size]; omega) W; have q3 := fun W => cat (P := Tryz.prog) (s1 ++ ⟨#[32]⟩ ++ s2) ⟨#[32]⟩ (by rw [ByteArray.size_append, ByteArray.size_append, blank_size]; omega) W; have q4 := fun W => cat (P := Tryz.prog) (s1 ++ ⟨#[32]⟩ ++ s2 ++ ⟨#[32]⟩) (dashB o.value) (by rw [ByteArray.size_append, ByteArray.size_append, ByteArray.size_append, blank_size]; omega) W; have q5 := fun W => cat (P := Tryz.prog) p (s1 ++ ⟨#[32]⟩ ++ s2 ++ ⟨#[32]⟩ ++ dashB o.value) (by rw [ByteArray.size_append, ByteArray.size_append, ByteArray.size_append, ByteArray.size_append, blank_size]; omega) W)
       | (go_at_call 95; refine (ref_dash _ _).mono ?_; rintro e w5 ⟨rfl, rfl⟩))
     all_goals
      rename_i hh
      have HF := zh (And.intro ((uh HP2).carry hh.2.2.2.2) ((uh HB2).trans (hh.2.2.2.2.mono (uh HB2).size)))
      clear hh q1 q2 q3 q4 q5
      have HD2 : Hid ((p ++ (s1 ++ ⟨#[32]⟩ ++ s2 ++ ⟨#[32]⟩ ++ dashB o.value)).data.toList = opsL (l.take (k + 1))) := by
       unfold Hid
       rw [<- uh HPP, app_data, app_data, app_data, app_data, app_data, uh E1, uh E2, uh HDD, uh HEQ]
       simp [List.append_assoc]
      have hsz2 : (p ++ (s1 ++ ⟨#[32]⟩ ++ s2 ++ ⟨#[32]⟩ ++ dashB o.value)).size <= (k + 1) * 155 := by
       rw [size_data, uh HD2, <- uh HPP, List.length_append, <- size_data]; omega
      clear E1 E2 hs1 hs2
      generalize p ++ (s1 ++ ⟨#[32]⟩ ++ s2 ++ ⟨#[32]⟩ ++ dashB o.value) = t at HD2 hsz2 ⊢
      go_wp2
      go_roundw
      case rel => exact ⟨k + 1, t, hki1, by go_num, rfl, hsz2, HD2, (uh HF).1, (uh HF).2⟩
      case measure => simp [intOf]; omega
  ·have hlt' : ¬ (k : Int) < (l.length : Int) := by omega
   have hkl : l.take k = l := List.take_of_length_le (by omega)
   rw [hkl] at HE
   have hki : i0 = l.length := by omega
   have HR := zh (fun W => ref_Bare 0 W)
   obtain ⟨⟨p0, f0⟩, p1, f1⟩ := hpl.carry (below_box wr (.cells #[.int .i64 0, .int .i64 (-1)] 45))
   have q := two_set _ w.heap.size (.int .i64 0) (.int .i64 (-1)) _ _ p0 p1
   have HB2 := zh (hb.alloc hb.size (.cells #[.int .i64 0, .int .i64 (-1)] 45))
   have hse : s = ⟨(opsL l).toArray⟩ := bytes_ext (by rw [uh HE])
   subst hse
   clear hb hpl HE HG HD H HS HI HT hkl hsz
   go_wp2_with fail
   refine (uh HR _).mono ?_
   rintro e w2 ⟨rfl, rfl⟩
   go_wp2
   exact bodyPost_ret (v := .tuple #[.string ⟨(opsL l).toArray⟩, .agg #[.int .i64 0, .int .i64 (-1)]]) (by simp [results, Tryz.results42, go_sem, q.1, q.2]) rfl ⟨((uh HB2).setCell zr _).setCell zr _, Or.inl ⟨hki, rfl⟩⟩
def PlaceSays (w : World) (u : Value) (n i : Int) : Prop :=
 ∀ W, Below w.heap.size w W -> Calls Tryz.prog 39 #[u] W fun e w' => e = .returned (.tuple #[.int .i64 n, .int .i64 i]) /\ Below W.heap.size W w'
def RefSays (v : Value) (s : ByteArray) (n i : Int) (w : World) : Prop :=
 Calls Tryz.prog 42 #[v] w fun e w' => e = .returned (.tuple #[.string s, .agg #[.int .i64 n, .int .i64 i]]) /\ Below w.heap.size w w'
def FactGives (s : ByteArray) (n i : Int) (w : World) (e : Ending) (w' : World) : Prop := ∃ u, e = .returned (.tuple #[.string s, u]) /\ PlaceSays w' u n i /\ Below w.heap.size w w'
def FactSays (v : Value) (s : ByteArray) (n i : Int) (w : World) : Prop := Calls Tryz.prog 40 #[v] w (FactGives s n i w)
theorem both (l : List Fop) (v : Value) (w : World) (hn : l.length < 1099511627776) (hs : ∀ x, x ∈ l -> Small x) (h : ReadsOps w v l) (ht : Tab w) (hg : ErrorType w) :
  ∃ (s : ByteArray) (n i : Int), ∀ W, Below w.heap.size w W -> RefSays v s n i W /\ FactSays v s n i W := by
 by_cases hl : 1 <= l.length /\ l.length <= 8
 ·rcases first_bad l with hok | ⟨i0, hb⟩
  ·refine ⟨⟨(opsL l).toArray⟩, 0, -1, fun W hW => ⟨?_, ?_⟩⟩
   ·have h' := h.carry hW
    obtain ⟨ad, cap, rfl, h'⟩ := h'
    rcases h' with rfl | ⟨b, off, rfl, h'⟩
    ·simp at hl
    ·exact (refw_main l l.length b off cap W hl hs h' (ht.carry hW) zr (fun j hj _ => hok _ (List.getElem_mem hj)) (fun hj => absurd hj (Nat.lt_irrefl _))).mono fun e w' ⟨hb, hr⟩ => by
      rcases hr with ⟨_, he⟩ | ⟨hlt, _⟩
      ·exact ⟨he, hb⟩
      ·exact absurd hlt (Nat.lt_irrefl _)
   ·exact (write_ok l v W hs (h.carry hW) ⟨hl.1, hl.2, hok⟩ (ht.carry hW)).mono fun e w' ⟨he, hb⟩ => ⟨_, he, fun W' _ => Place_nil W', hb⟩
  ·refine ⟨⟨#[]⟩, 1, i0, fun W hW => ⟨?_, ?_⟩⟩
   ·have h' := h.carry hW
    obtain ⟨ad, cap, rfl, h'⟩ := h'
    rcases h' with rfl | ⟨b, off, rfl, h'⟩
    ·simp at hl
    ·obtain ⟨b1, b2, b3⟩ := hb
     exact (refw_main l i0 b off cap W hl hs h' (ht.carry hW) (Nat.le_of_lt b1) (fun j hj hji => b3 j hji) (fun _ => b2)).mono fun e w' ⟨hb, hr⟩ => by
      rcases hr with ⟨heq, _⟩ | ⟨_, he⟩
      ·exact absurd b1 (by omega)
      ·exact ⟨he, hb⟩
   ·exact (write_bad l i0 v W hs (h.carry hW) hl hb).mono fun e w' ⟨u, he, ⟨b, hu, c0, c1⟩, hbl⟩ => ⟨u, he, fun W' hW' => by
     subst hu
     exact Place_at 1 i0 b W' ((hW'.cell (lt_of_cell c0)).trans c0) ((hW'.cell (lt_of_cell c1)).trans c1) (((hg.carry hW).carry hbl).carry hW'), hbl⟩
 ·refine ⟨⟨#[]⟩, 4, -1, fun W hW => ⟨?_, ?_⟩⟩
  ·exact refw_limit l v W hn (h.carry hW) hl
  ·exact (write_limit l v W hn (h.carry hW) hl).mono fun e w' ⟨he, hw⟩ => ⟨_, he, fun W' hW' => Place_errno 4 W' ((hg.carry hW).carry (by rw [<- hw]; exact hW')), by rw [hw]; exact Below.refl _ _⟩
end Go.Proofs.YtfoojmflbifkpaaGreatDoor
