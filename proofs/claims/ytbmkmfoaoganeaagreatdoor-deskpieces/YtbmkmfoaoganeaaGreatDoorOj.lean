/- Texts of one proof, one behind the other. -/
import Derived.Test.YtbmkmfoaoganeaaGreatDoorOi
import Derived.Test.YtbmkmfoaoganeaaGreatDoorOh
import Derived.Test.YtbmkmfoaoganeaaGreatDoorShelfQ
import Derived.Test.YtbmkmfoaoganeaaGreatDoorOd
set_option maxRecDepth 100000
set_option maxHeartbeats 16000000
namespace Go.Proofs.YtbmkmfoaoganeaaGreatDoor
open Go.RowKit Go.Maps
theorem hops_missing {w : World} {g m : Nat} {X : List (Int × Nat)} {Nd : Nat -> Gn} {Fs : Nat -> Nat -> Prop} (h : GraphX w g m X Nd Fs) (n : Int) (hw : (Lit.int .i64 n).wf = true) (hn : n ∉ X.map (·.1)) (word : ByteArray) (H : Int) :
  Calls Tryz.prog 59 #[.pointer (some ⟨g, 0, none⟩), .int .i64 n, .string word, .int .i64 H] w fun e w' => e = .returned (.tuple #[.slice none 0 0, .iface 25 (.int .i64 7)]) /\ Below w.heap.size w w' := by
 have HAl := zh (all_ok h.c0)
 have hlx := lookG_none h.map n hw (fun x hx e => hn (List.mem_map.2 ⟨x, hx, e⟩))
 clear h hn
 go_enter Tryz.func59, Tryz.ntmps59
 go_wp2_with fail
 refine (uh HAl).mono ?_
 rintro e w1 ⟨rfl, rfl⟩
 go_wp2
 go_ret2
 exact ⟨rfl, Below.refl _ _⟩
theorem hops_range {w : World} {g m : Nat} {X : List (Int × Nat)} {Nd : Nat -> Gn} {Fs : Nat -> Nat -> Prop} (h : GraphX w g m X Nd Fs) (n : Int) (hw : (Lit.int .i64 n).wf = true) (hn : n ∈ X.map (·.1)) (word : ByteArray) (H : Int) (hH : H < 0 \/ 1048576 < H) :
  Calls Tryz.prog 59 #[.pointer (some ⟨g, 0, none⟩), .int .i64 n, .string word, .int .i64 H] w fun e w' => e = .returned (.tuple #[.slice none 0 0, .iface 25 (.int .i64 2)]) /\ Below w.heap.size w w' := by
 have HAl := zh (all_ok h.c0)
 obtain ⟨⟨n', bx⟩, hxm, e⟩ := List.mem_map.1 hn
 obtain rfl : n' = n := e
 have hlx := lookG_at h.map (n', bx) hw hxm
 dsimp only at hlx
 clear h hn hxm
 by_cases h0 : H < 0
 ·clear hH
  go_enter Tryz.func59, Tryz.ntmps59
  go_wp2_with fail
  refine (uh HAl).mono ?_
  rintro e w1 ⟨rfl, rfl⟩
  go_wp2
  go_ret2
  exact ⟨rfl, Below.refl _ _⟩
 ·have h1 : (1048576 : Int) < H := by omega
  clear hH
  go_enter Tryz.func59, Tryz.ntmps59
  go_wp2_with fail
  refine (uh HAl).mono ?_
  rintro e w1 ⟨rfl, rfl⟩
  go_wp2
  go_ret2
  exact ⟨rfl, Below.refl _ _⟩
theorem way_missing {w : World} {g m : Nat} {X : List (Int × Nat)} {Nd : Nat -> Gn} {Fs : Nat -> Nat -> Prop} (h : GraphX w g m X Nd Fs) (x y : Int) (hwx : (Lit.int .i64 x).wf = true) (hwy : (Lit.int .i64 y).wf = true) (hn : x ∉ X.map (·.1) \/ y ∉ X.map (·.1)) (word : ByteArray) :
  Calls Tryz.prog 78 #[.pointer (some ⟨g, 0, none⟩), .int .i64 x, .int .i64 y, .string word] w fun e w' => e = .returned (.tuple #[.slice none 0 0, .iface 25 (.int .i64 7)]) /\ Below w.heap.size w w' := by
 have HAl := zh (all_ok h.c0)
 by_cases hx : x ∈ X.map (·.1)
 ·have hy : y ∉ X.map (·.1) := by
   rcases hn with q | q
   ·exact absurd hx q
   ·exact q
  obtain ⟨⟨x', bx⟩, hxm, e⟩ := List.mem_map.1 hx
  obtain rfl : x' = x := e
  have hlx := lookG_at h.map (x', bx) hwx hxm
  dsimp only at hlx
  have hly := lookG_none h.map y hwy (fun z hz e => hy (List.mem_map.2 ⟨z, hz, e⟩))
  clear h hn hxm hx hy
  go_enter Tryz.func78, Tryz.ntmps78
  go_wp2_with fail
  refine (uh HAl).mono ?_
  rintro e w1 ⟨rfl, rfl⟩
  go_wp2_with fail
  refine (uh HAl).mono ?_
  rintro e w2 ⟨rfl, rfl⟩
  go_wp2
  go_ret2
  exact ⟨rfl, Below.refl _ _⟩
 ·have hlx := lookG_none h.map x hwx (fun z hz e => hx (List.mem_map.2 ⟨z, hz, e⟩))
  clear h hn hx
  go_enter Tryz.func78, Tryz.ntmps78
  go_wp2_with fail
  refine (uh HAl).mono ?_
  rintro e w1 ⟨rfl, rfl⟩
  go_wp2
  go_ret2
  exact ⟨rfl, Below.refl _ _⟩
theorem NoI.skip {w : World} {m r n : Nat} {X : List (Int × Nat)} {D : DataW Unit} {left : Lit -> Bool} {cnt : Nat} {u : Value} {L : List Int} {y : World} {a : Int} (h : NoI w m r n X D (fun z => left z && !z.sameKey (.int .i64 a)) left cnt u L y) (hx : a ∉ X.map (·.1)) : NoI w m r n X D (fun z => left z && !z.sameKey (.int .i64 a)) (fun z => left z && !z.sameKey (.int .i64 a)) cnt u L y := by
 refine ⟨h.rg, h.row, fun k' => ?_, h.nodup, h.low, h.mr, h.far, h.rs⟩
 rw [h.mem k']
 constructor
 ·rintro ⟨p, q⟩
  exact ⟨p, by simp [q]⟩
 ·rintro ⟨p, q⟩
  refine ⟨p, ?_⟩
  cases e : left (.int .i64 k') with
  | false => rfl
  | true =>
   simp [e] at q
   have e2 : Lit.int .i64 k' = .int .i64 a := WideAt.sameKey_eq q
   cases e2
   exact absurd p hx
def kindX (Nd : Nat -> Gn) (kind : ByteArray) (X : List (Int × Nat)) : List (Int × Nat) := X.filter (fun x => decide ((Nd x.2).kind = kind))
theorem mem_kindX {Nd : Nat -> Gn} {kind : ByteArray} {X : List (Int × Nat)} {x : Int × Nat} : x ∈ kindX Nd kind X ↔ x ∈ X /\ (Nd x.2).kind = kind := by
 unfold kindX
 rw [List.mem_filter, decide_eq_true_iff]
theorem one_block {X : List (Int × Nat)} (h : (X.map (·.1)).Nodup) {a : Int} {b b' : Nat} (h1 : (a, b) ∈ X) (h2 : (a, b') ∈ X) : b = b' := by
 induction X with
 | nil => cases h1
 | cons q C ih =>
  rw [List.map_cons, List.nodup_cons] at h
  rcases List.mem_cons.1 h1 with r | r
  ·rcases List.mem_cons.1 h2 with s | s
   ·rw [<- r] at s; cases s; rfl
   ·exact absurd (List.mem_map.2 ⟨_, s, by rw [<- r]⟩) h.1
  ·rcases List.mem_cons.1 h2 with s | s
   ·exact absurd (List.mem_map.2 ⟨_, r, by rw [<- s]⟩) h.1
   ·exact ih h.2 r s
theorem nodes_kind {w : World} {g m : Nat} {X : List (Int × Nat)} {Nd : Nat -> Gn} {Fs : Nat -> Nat -> Prop} (h : GraphX w g m X Nd Fs) (hw : ∀ a, a ∈ X.map (·.1) -> (Lit.int .i64 a).wf = true) (hX : X.length <= 4000) (kind : ByteArray) (hkd : kind ≠ ⟨#[]⟩) :
  Calls Tryz.prog 64 #[.pointer (some ⟨g, 0, none⟩), .string kind] w (NextSays w (sortedI ((kindX Nd kind X).map (·.1)))) := by
 have HAl := zh (all_ok h.c0)
 obtain ⟨D, hoD, hKD⟩ := h.map
 have HO := zh hoD
 have HK := zh hKD
 have HW := zh hw
 have hm := h.map.lt
 have HNd : Hid ((X.map (·.1)).Nodup) := by
  unfold Hid
  exact List.pairwise_map.2 h.ids
 have HNk : Hid (((kindX Nd kind X).map (·.1)).Nodup) := (uh HNd).sublist (List.Sublist.map _ List.filter_sublist)
 have HKs : Hid (∀ a, a ∈ (kindX Nd kind X).map (·.1) -> ∃ x, x ∈ X /\ x.1 = a) := fun a ha => by
  obtain ⟨x, hx, e⟩ := List.mem_map.1 ha
  exact ⟨x, (mem_kindX.1 hx).1, e⟩
 have HKl : Hid ((kindX Nd kind X).length <= X.length) := List.length_filter_le _ _
 have HCk : Hid (∀ x, x ∈ X -> w.cell? ⟨x.2, 0, none⟩ = some (.string (Nd x.2).kind)) := fun x hx => by
  obtain ⟨ev, pv, hX, _⟩ := h.node x hx
  exact hX.c0
 have hne := list_some kind hkd
 clear h hoD hKD hw hkd
 go_enter Tryz.func64, Tryz.ntmps64
 go_wp2_with fail
 refine (uh HAl).mono ?_
 rintro e w' ⟨rfl, hw'⟩
 obtain rfl : w = w' := hw'.symm
 clear hw'
 go_wp2_with (first | (at_range; refine wpList_range_own _ rfl _ 129 rfl 3 132 keyedV Tryz.underlying129 ptrElem m X.length D rfl (uh HO) ?_; intro w0 hrg0 hg0 hs0))
 try go_frame
 have HS0 : Hid (NoI w m w.heap.size X.length (kindX Nd kind X) D (Maps.has D) (Maps.has D) (Maps.size D) (.slice none 0 0) [] w0) := by
  have hb0 := below_grown_none hg0
  refine ⟨hrg0, ⟨rfl, .inl ⟨rfl, rfl⟩⟩, fun a => ?_, List.nodup_nil, hb0, hm, Nat.le_refl _, by omega⟩
  constructor
  ·intro q; cases q
  ·rintro ⟨p, q⟩
   obtain ⟨x, hx, rfl⟩ := uh HKs _ p
   rw [(uh HK).has x hx] at q
   cases q
 clear hrg0 hg0 hs0 HO HAl
 go_loopw [5] (fun u y => ∃ left cnt L, NoI w m w.heap.size X.length (kindX Nd kind X) D left left cnt u L y) (fun _ y => y.rangeLeft m w.heap.size)
 case atStart => exact ⟨_, _, [], uh HS0⟩
 case round =>
  clear HS0
  obtain ⟨left, cnt, L, hI⟩ := hrel
  have HI := zh hI
  have hshort : L.length <= X.length := by
   have := nodup_len L ((kindX Nd kind X).map (·.1)) hI.nodup (fun k hk => ((hI.mem k).1 hk).1)
   rw [List.length_map] at this
   exact Nat.le_trans this (uh HKl)
  clear hI
  go_wp2_with (first | (at_next; refine wpList_next_ranges _ rfl _ rfl 3 keyedV ptrElem (Value.int .i64) Value.pointer (fun key kl hkey => by obtain ⟨x, rfl, _⟩ := Maps.keyOf_int_inv Tryz.underlying3 hkey; exact ⟨x, rfl⟩) ptrElem_inv m w.heap.size X.length D left cnt rfl (uh HI).rg ?done ?more))
  case done =>
   intro _ hl0
   obtain ⟨ad, c, rfl⟩ : ∃ ad c, u5 = .slice ad L.length c := row_slice (show World.ownsRow _ _ _ _ _ _ _ from (uh HI).row)
   have HSo := zh (sort_ints L _ wr (w.heap.size + 1) (by omega) (uh HI).row)
   have HE : Hid (sortedI L = sortedI ((kindX Nd kind X).map (·.1))) := sortedI_perm (nodup_perm (uh HI).nodup (uh HNk) (fun x => by rw [(uh HI).mem x]; exact ⟨fun q => q.1, fun q => ⟨q, hl0 _⟩⟩))
   clear hl0
   go_wp2_with fail
   refine (uh HSo).mono ?_
   rintro e W5 ⟨rfl, ho, hg⟩
   have HR : Hid (NextSays w (sortedI ((kindX Nd kind X).map (·.1))) (.returned (.slice ad L.length c)) W5) := by
    rw [<- uh HE]
    refine ⟨_, rfl, rowN_mono ho (by omega), (uh HI).low.trans (keeps_below (keeps_grown hg) (fun i e => ?_) (uh HI).low.size)⟩
    have := (World.ownsRow.lt (uh HI).row i e.symm).1
    omega
   clear ho hg HSo HI
   go_wp2
   go_ret
   exact uh HR
  case more =>
   intro a c kl y ps w1 cnt1 hkey hlx hv hat hrg1 hlt hg1 hs1 hen
   obtain ⟨a', ea, rfl, hwa⟩ := Maps.keyOf_int_inv Tryz.underlying3 hkey
   cases ea
   obtain ⟨b, hx, hc⟩ := (uh HK).met hv hat
   injection hc with hc
   subst hc
   have HL1 := zh ((uh HI).came hg1 hrg1)
   have hck := ((uh HL1).low.cell (p := ⟨b, 0, none⟩) (lt_of_cell (uh HCk (a, b) hx))).trans (uh HCk (a, b) hx)
   dsimp only at hck
   have HMs := zh hlt
   have HCt := zh (uh HI).rg.left_eq
   have HLk := zh hlx
   clear hkey hv hat hrg1 hlt hlx hg1 hs1 HI
   by_cases hkw : (Nd b).kind = kind
   ·have HB2 := zh (below_box w1 (.cells #[.int .i64 a] 3))
    have HL2 := zh ((uh HL1).below (uh HB2))
    have hcx := cell_new w1 (.int .i64 a) 3
    have HXa : Hid (a ∈ (kindX Nd kind X).map (·.1)) := List.mem_map.2 ⟨(a, b), mem_kindX.2 ⟨hx, hkw⟩, rfl⟩
    have hL2 : L.length <= 1000000 := by omega
    have hbs : w.heap.size + 1 <= (w1.alloc (.cells #[.int .i64 a] 3)).heap.size := (uh HL2).rs
    rw [hkw] at hck
    clear HL1 HB2 hx hkw
    go_wp2_with (first
     | (at_builtin; refine wpList_appN _ rfl (.tmp 26) (.tmp 28) rfl (w.heap.size + 1) _ L rfl (uh HL2).row w1.heap.size a rfl hcx hL2 hbs ?_))
    intro v9 W7 r1 r2
    have HI7 := zh ((uh HL2).add hwa (uh HXa) (uh HLk) r2 r1)
    obtain ⟨ad7, cap7, rfl⟩ := row_slice (show World.ownsRow _ _ _ _ _ _ _ from r1)
    have HCn : Hid (W7.rangeLeft m w.heap.size < wr.rangeLeft m w.heap.size) := by
     have := uh HMs
     show _ < _
     rw [(uh HI7).rg.left_eq, uh HCt]
     omega
    clear r1 r2 HL2 hcx hbs hen hck
    go_wp2
    go_roundw
    case rel => exact ⟨_, _, _, uh HI7⟩
    case measure => exact uh HCn
   ·have HXa : Hid (a ∉ (kindX Nd kind X).map (·.1)) := fun q => by
     obtain ⟨⟨a2, b2⟩, hq, e⟩ := List.mem_map.1 q
     obtain ⟨q1, q2⟩ := mem_kindX.1 hq
     dsimp only at e q2
     subst e
     rw [one_block (uh HNd) q1 hx] at q2
     exact hkw q2
    have hbe : ((Nd b).kind.toList == kind.toList) = false := by
     rw [beq_eq_false_iff_ne, ByteArray.toList_eq, ByteArray.toList_eq]
     exact fun e => hkw (ByteArray.ext (Array.toList_inj.1 e))
    have HI7 := zh ((uh HL1).skip (uh HXa))
    have HCn : Hid (w1.rangeLeft m w.heap.size < wr.rangeLeft m w.heap.size) := by
     have := uh HMs
     show _ < _
     rw [(uh HI7).rg.left_eq, uh HCt]
     omega
    clear hx HL1 hkw
    generalize (Nd b).kind = val at *
    go_wp2
    go_roundw
    case rel => exact ⟨_, _, _, uh HI7⟩
    case measure => exact uh HCn
theorem cb_eq : ∀ (l m : List UInt8), Lib.compareBytes l m = if Op.bytesLess l m then -1 else if l == m then 0 else 1
 | [], [] => rfl
 | [], _ :: _ => rfl
 | _ :: _, [] => rfl
 | a :: l, b :: m => by
  have ih := cb_eq l m
  unfold Lib.compareBytes Op.bytesLess
  by_cases h1 : a < b
  ·simp [h1]
  ·by_cases h2 : b < a
   ·have hne : ¬ a = b := fun e => by subst e; exact h1 h2
    simp [h1, h2, hne]
   ·have he : a = b := by
     have q1 : ¬ a.toNat < b.toNat := fun q => h1 (UInt8.lt_iff_toNat_lt.2 q)
     have q2 : ¬ b.toNat < a.toNat := fun q => h2 (UInt8.lt_iff_toNat_lt.2 q)
     exact UInt8.toNat_inj.1 (by omega)
    subst he
    simp [h1, ih]
theorem cb_S (a b : ByteArray) : Lib.compareBytes a.data.toList b.data.toList = compareS a b := by
 rw [cb_eq]
 unfold compareS
 rw [ByteArray.toList_eq, ByteArray.toList_eq]
theorem prop_cmp (p : ByteArray × ByteArray) (word : ByteArray) (w : World) :
  Calls Tryz.prog 119 #[.agg #[.string p.1, .string p.2], .string word] w fun e w' => e = .returned (.int .i64 (compareS p.1 word)) /\ Below w.heap.size w w' := by
 have HC := zh (fun W => Tryz.strings_Compare p.1 word W)
 rw [cb_S] at HC
 have HB := zh (below_box w (.cells #[.string p.1, .string p.2] 171))
 go_enter Tryz.func119, Tryz.ntmps119
 go_wp2_with fail
 refine (uh HC _).mono ?_
 rintro e W1 ⟨rfl, rfl⟩
 go_wp2
 go_ret
 exact ⟨rfl, uh HB⟩
def PropsAt (w : World) (ad : Option Addr) (P : List (ByteArray × ByteArray)) : Prop := ∀ j, (hj : j < P.length) -> ∃ g, ad = some ⟨g, 0, none⟩ /\ w.cell? ⟨g, j * 2, none⟩ = some (.string P[j].1) /\ w.cell? ⟨g, j * 2 + 1, none⟩ = some (.string P[j].2)
theorem PropsAt.carry {w w' : World} {ad : Option Addr} {P : List (ByteArray × ByteArray)} (h : PropsAt w ad P) (hb : Below w.heap.size w w') : PropsAt w' ad P := fun j hj => by
 obtain ⟨g, e, h0, h1⟩ := h j hj
 exact ⟨g, e, (hb.cell (p := ⟨g, j * 2, none⟩) (lt_of_cell h0)).trans h0, (hb.cell (p := ⟨g, j * 2 + 1, none⟩) (lt_of_cell h1)).trans h1⟩
theorem PropsAt.carry' {w w' : World} {ad : Option Addr} {P : List (ByteArray × ByteArray)} (h : PropsAt w ad P) (hb : Below w.heap.size w w') (j : Nat) (hj : j < P.length) : ∃ g, ad = some ⟨g, 0, none⟩ /\ w'.cell? ⟨g, j * 2, none⟩ = some (.string P[j].1) /\ w'.cell? ⟨g, j * 2 + 1, none⟩ = some (.string P[j].2) := h.carry hb j hj
def FoundSays (P : List (ByteArray × ByteArray)) (word : ByteArray) (w : World) (e : Ending) (w' : World) : Prop :=
 ∃ (i : Nat) (b : Bool), e = .returned (.tuple #[.int .i64 i, .bool b]) /\ (b = true -> ∃ h : i < P.length, P[i].1 = word) /\ (b = false -> ∀ p, p ∈ P -> p.1 ≠ word) /\ Below w.heap.size w w'
theorem search_props {w : World} {ad : Option Addr} {P : List (ByteArray × ByteArray)} (h : PropsAt w ad P) (hs : ∀ i j, (hi : i < P.length) -> (hj : j < P.length) -> i < j -> compareS P[i].1 P[j].1 < 0) (word : ByteArray) (c : Nat) (hl : P.length <= 4000) :
  Calls Tryz.prog 118 #[.slice ad P.length c, .string word, .func (.func 119) #[] #[]] w (FoundSays P word w) := by
 have HP := zh h
 have HS := zh hs
 obtain ⟨n, hn⟩ : ∃ n, n = P.length := ⟨_, rfl⟩
 have HN := zh hn
 rw [<- hn] at hl ⊢
 clear h hs hn
 go_enter Tryz.func118, Tryz.ntmps118
 go_wp2
 go_loopw [9, 10] (fun a b y => ∃ i j : Nat, a = .int .i64 i /\ b = .int .i64 j /\ i <= j /\ j <= n /\ (∀ k, (hk : k < P.length) -> k < i -> compareS P[k].1 word < 0) /\ (∀ k, (hk : k < P.length) -> j <= k -> 0 <= compareS P[k].1 word) /\ Below w.heap.size w y) (fun a b _ => (intOf b).toNat - (intOf a).toNat)
 case atStart => exact ⟨0, n, rfl, rfl, Nat.zero_le _, Nat.le_refl _, fun k _ q => by omega, fun k hk q => by have := uh HN; omega, Below.refl _ _⟩
 case round =>
  obtain ⟨i, j, rfl, rfl, hij, hjn, h1, h2, hb⟩ := hrel
  have H1 := zh h1
  have H2 := zh h2
  have HB := zh hb
  clear h1 h2 hb
  by_cases hlt : i < j
  ·have hlt' : (i : Int) < (j : Int) := by omega
   obtain ⟨m, hmd⟩ : ∃ m, m = (i + j) / 2 := ⟨_, rfl⟩
   have HMd : Hid (((i : Int) + (j : Int)) / 2 = (m : Int)) := by unfold Hid; omega
   have hm1 : i <= m := by omega
   have hm2 : m < j := by omega
   clear hmd
   go_upto_region 5 with fail
   rw [uh HMd]
   have hmn : (m : Int) < (n : Int) := by omega
   have hm0 : (0 : Int) <= (m : Int) := by omega
   have hmP : m < P.length := by rw [<- uh HN]; omega
   obtain ⟨g, rfl, x0, x1⟩ := (uh HP).carry' (uh HB) m hmP
   have HC := zh (prop_cmp P[m] word wr)
   have HLo : Hid (compareS P[m].1 word < 0 -> ∀ k, (hk : k < P.length) -> k < m + 1 -> compareS P[k].1 word < 0) := fun hc k hk hkm => by
    rcases Nat.lt_or_ge k m with q | q
    ·have h1 := uh HS k m hk hmP q
     have := (str_tri P[k].1 P[m].1 word).1 (by omega) (by omega)
     rcases (show compareS P[k].1 word < 0 \/ compareS P[k].1 word = 0 by omega) with r | r
     ·exact r
     ·have := this.2 r
      omega
    ·obtain rfl : k = m := by omega
     exact hc
   have HHi : Hid (0 <= compareS P[m].1 word -> ∀ k, (hk : k < P.length) -> m <= k -> 0 <= compareS P[k].1 word) := fun hc k hk hkm => by
    rcases (show 0 <= compareS P[k].1 word \/ compareS P[k].1 word < 0 by omega) with q | q
    ·exact q
    exfalso
    rcases Nat.lt_or_ge m k with r | r
    ·have h1 := uh HS m k hmP hk r
     have := (str_tri P[m].1 P[k].1 word).1 (by omega) (by omega)
     rcases (show compareS P[m].1 word < 0 \/ compareS P[m].1 word = 0 by omega) with s | s
     ·omega
     ·have := this.2 s
      omega
    ·obtain rfl : k = m := by omega
     omega
   generalize P[m] = pm at *
   go_wp2_with fail
   refine (uh HC).mono ?_
   rintro e W1 ⟨rfl, b1⟩
   have HB1 := zh ((uh HB).trans (b1.mono (uh HB).size))
   clear b1 HC x0 x1 HB
   by_cases hc : compareS pm.1 word < 0
   ·have H3 := zh (uh HLo hc)
    generalize compareS pm.1 word = cv at *
    go_wp2
    go_roundw
    case rel => exact ⟨m + 1, j, by go_num, rfl, by omega, hjn, uh H3, uh H2, uh HB1⟩
    case measure => simp [intOf]; omega
   ·have H3 := zh (uh HHi (by omega))
    generalize compareS pm.1 word = cv at *
    go_wp2
    go_roundw
    case rel => exact ⟨i, m, rfl, rfl, by omega, by omega, uh H1, uh H3, uh HB1⟩
    case measure => simp [intOf]; omega
  ·obtain rfl : i = j := by omega
   have hlt' : ¬ (i : Int) < (i : Int) := by omega
   by_cases hin : i < n
   ·have hin' : (i : Int) < (n : Int) := by omega
    have hi0 : (0 : Int) <= (i : Int) := by omega
    have hiP : i < P.length := by rw [<- uh HN]; exact hin
    obtain ⟨g, rfl, x0, x1⟩ := (uh HP).carry' (uh HB) i hiP
    have HC := zh (prop_cmp P[i] word wr)
    have HYes : Hid (compareS P[i].1 word = 0 -> ∃ h : i < P.length, P[i].1 = word) := fun hc => ⟨hiP, by
     have := (str_zero P[i].1 word).1 hc
     rw [ByteArray.toList_eq, ByteArray.toList_eq] at this
     exact ByteArray.ext (Array.toList_inj.1 this)⟩
    have HNo : Hid (¬ compareS P[i].1 word = 0 -> ∀ p, p ∈ P -> p.1 ≠ word) := fun hc p hp e => by
     obtain ⟨k, hk, rfl⟩ := List.getElem_of_mem hp
     have hz : compareS P[k].1 word = 0 := (str_zero _ _).2 (by rw [e])
     rcases Nat.lt_trichotomy k i with q | q | q
     ·have := uh H1 k hk q
      omega
     ·subst q; exact hc hz
     ·have h1 := uh HS i k hiP hk q
      have h2 := uh H2 i hiP zr
      have h3 := (str_tri P[i].1 P[k].1 word).1 (by omega) (by omega)
      have h4 : compareS P[i].1 word = 0 := by omega
      exact hc h4
    generalize P[i] = pm at *
    go_wp2_with fail
    refine (uh HC).mono ?_
    rintro e W1 ⟨rfl, b1⟩
    have HB1 := zh ((uh HB).trans (b1.mono (uh HB).size))
    clear b1 HC x0 x1 HB
    by_cases hc : compareS pm.1 word = 0
    ·have HFin : Hid (FoundSays P word w (.returned (.tuple #[.int .i64 i, .bool true])) W1) := ⟨i, true, rfl, fun _ => by
      obtain ⟨q1, q2⟩ := uh HYes hc
      exact ⟨hiP, q2⟩, fun e => (by cases e), uh HB1⟩
     generalize compareS pm.1 word = cv at *
     subst hc
     go_wp2
     go_ret2
     exact uh HFin
    ·have HFin : Hid (FoundSays P word w (.returned (.tuple #[.int .i64 i, .bool false])) W1) := ⟨i, false, rfl, fun e => (by cases e), fun _ => uh HNo hc, uh HB1⟩
     generalize compareS pm.1 word = cv at *
     go_wp2
     go_ret2
     first
      | exact uh HFin
      | (show FoundSays P word w (.returned (.tuple #[.int .i64 i, .bool (decide (cv = 0))])) W1; rw [decide_eq_false hc]; exact uh HFin)
      | (show FoundSays P word w (.returned (.tuple #[.int .i64 i, .bool (cv == 0)])) W1; rw [beq_eq_false_iff_ne.2 hc]; exact uh HFin)
   ·have hin' : ¬ (i : Int) < (n : Int) := by omega
    have HFin : Hid (FoundSays P word w (.returned (.tuple #[.int .i64 i, .bool false])) wr) := ⟨i, false, rfl, fun e => (by cases e), fun _ p hp e => by
     obtain ⟨k, hk, rfl⟩ := List.getElem_of_mem hp
     have hz : compareS P[k].1 word = 0 := (str_zero _ _).2 (by rw [e])
     have := uh H1 k hk (by have := uh HN; omega)
     omega, uh HB⟩
    go_wp2
    go_ret2
    exact uh HFin
theorem encRs_get : ∀ (L : List (ByteArray × ByteArray)) (j : Nat) (hj : j < L.length), (encRs L)[j * 2]? = some (.string L[j].1) /\ (encRs L)[j * 2 + 1]? = some (.string L[j].2)
 | [], j, hj => by cases hj
 | p :: L, 0, _ => ⟨rfl, rfl⟩
 | p :: L, j + 1, hj => by
  have ih := encRs_get L j (by simpa using hj)
  have e1 : encRs (p :: L) = .string p.1 :: .string p.2 :: encRs L := rfl
  rw [e1, show (j + 1) * 2 = j * 2 + 1 + 1 by omega, show j * 2 + 1 + 1 + 1 = (j * 2 + 1) + 1 + 1 by omega]
  simp only [gS, List.getElem_cons_succ]
  exact ih
theorem RowR.props {w : World} {base : Nat} {v : Value} {L : List (ByteArray × ByteArray)} (h : RowR w base v L) : ∃ ad c, v = .slice ad L.length c /\ PropsAt w ad L := by
 rcases (show World.ownsRow _ _ _ _ _ _ _ from h).2 with ⟨h1, h2⟩ | ⟨g, cap, cur, hv, _, hh, _, _, _, h6⟩
 ·exact ⟨none, 0, by rw [h1, h2], fun j hj => by omega⟩
 ·refine ⟨_, cap, hv, fun j hj => ⟨g, rfl, ?_, ?_⟩⟩
  ·unfold World.cell?
   simp only [hh]
   rw [<- Array.getElem?_toList, <- List.getElem?_take_of_lt (show j * 2 < L.length * 2 by omega), h6]
   exact (encRs_get L j hj).1
  ·unfold World.cell?
   simp only [hh]
   rw [<- Array.getElem?_toList, <- List.getElem?_take_of_lt (show j * 2 + 1 < L.length * 2 by omega), h6]
   exact (encRs_get L j hj).2
theorem prop_missing {w : World} {g m : Nat} {X : List (Int × Nat)} {Nd : Nat -> Gn} {Fs : Nat -> Nat -> Prop} (h : GraphX w g m X Nd Fs) (n : Int) (hw : (Lit.int .i64 n).wf = true) (hn : n ∉ X.map (·.1)) (word : ByteArray) :
  Calls Tryz.prog 75 #[.pointer (some ⟨g, 0, none⟩), .int .i64 n, .string word] w fun e w' => e = .returned (.tuple #[.string ⟨#[]⟩, .iface 25 (.int .i64 7)]) /\ Below w.heap.size w w' := by
 have HAl := zh (all_ok h.c0)
 have hlx := lookG_none h.map n hw (fun x hx e => hn (List.mem_map.2 ⟨x, hx, e⟩))
 clear h hn
 go_enter Tryz.func75, Tryz.ntmps75
 go_wp2_with fail
 refine (uh HAl).mono ?_
 rintro e w1 ⟨rfl, rfl⟩
 go_wp2
 go_ret2
 exact ⟨rfl, Below.refl _ _⟩
def PropSay (P : List (ByteArray × ByteArray)) (word : ByteArray) (w : World) (e : Ending) (w' : World) : Prop :=
 ((∃ p, p ∈ P /\ p.1 = word /\ e = .returned (.tuple #[.string p.2, .nilIface])) \/ ((∀ p, p ∈ P -> p.1 ≠ word) /\ e = .returned (.tuple #[.string ⟨#[]⟩, .iface 25 (.int .i64 8)]))) /\ Below w.heap.size w w'
theorem prop_ok {w : World} {g m : Nat} {X : List (Int × Nat)} {Nd : Nat -> Gn} {Fs : Nat -> Nat -> Prop} (h : GraphX w g m X Nd Fs) (n : Int) (b : Nat) (hx : (n, b) ∈ X) (hw : (Lit.int .i64 n).wf = true) (word : ByteArray) (hl : (Nd b).props.length <= 4000) (hs : ∀ i j, (hi : i < (Nd b).props.length) -> (hj : j < (Nd b).props.length) -> i < j -> compareS (Nd b).props[i].1 (Nd b).props[j].1 < 0) :
  Calls Tryz.prog 75 #[.pointer (some ⟨g, 0, none⟩), .int .i64 n, .string word] w (PropSay (Nd b).props word w) := by
 have HAl := zh (all_ok h.c0)
 have hlx := lookG_at h.map (n, b) hw hx
 dsimp only at hlx
 obtain ⟨ev, pv, hX, _⟩ := h.node (n, b) hx
 have c2 := hX.c2
 dsimp only at c2
 obtain ⟨ad, c, rfl, hP⟩ := RowR.props hX.rp
 dsimp only at hP c2
 have HS := zh (search_props hP hs word c hl)
 have HP := zh hP
 clear h hx hX hP hs
 generalize (Nd b).props = P at *
 obtain ⟨np, hnp⟩ : ∃ np, np = P.length := ⟨_, rfl⟩
 have HN := zh hnp
 rw [<- hnp] at c2 HS hl
 clear hnp
 go_enter Tryz.func75, Tryz.ntmps75
 go_wp2_with fail
 refine (uh HAl).mono ?_
 rintro e w1 ⟨rfl, hw1⟩
 obtain rfl : w = w1 := hw1.symm
 clear hw1 HAl
 go_wp2_with fail
 refine (uh HS).mono ?_
 rintro e W2 ⟨i, bb, rfl, hy, hn, b2⟩
 have HB2 := zh b2
 have c2' := (b2.cell (p := ⟨b, 2, none⟩) (lt_of_cell c2)).trans c2
 cases bb with
 | true =>
  obtain ⟨hi, hpw⟩ := hy rfl
  obtain ⟨gp, rfl, x0, x1⟩ := (uh HP).carry' b2 i hi
  have hi' : (i : Int) < (np : Int) := by have := uh HN; omega
  have hi0 : (0 : Int) <= (i : Int) := by omega
  have HFin : Hid (PropSay P word w (.returned (.tuple #[.string P[i].2, .nilIface])) W2) := ⟨.inl ⟨P[i], List.getElem_mem hi, hpw, rfl⟩, b2⟩
  clear hy hn hpw b2 x0 HS c2 hlx
  generalize P[i].2 = val at *
  go_wp2
  go_ret2
  exact uh HFin
 | false =>
  have HFin : Hid (PropSay P word w (.returned (.tuple #[.string ⟨#[]⟩, .iface 25 (.int .i64 8)])) W2) := ⟨.inr ⟨hn rfl, rfl⟩, b2⟩
  clear hy hn b2 HS c2 hlx
  go_wp2
  go_ret2
  exact uh HFin
end Go.Proofs.YtbmkmfoaoganeaaGreatDoor
