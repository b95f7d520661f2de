/- Texts of one proof, one behind the other. -/
import Derived.Test.YtbmkmfoaoganeaaGreatDoorOf
import Derived.Test.YtbmkmfoaoganeaaGreatDoorPd
import Derived.Test.YtbmkmfoaoganeaaGreatDoorPg
import Derived.Test.YtbmkmfoaoganeaaGreatDoorPf
import Derived.Maps.RangeWalk
import Derived.Laws.IdiomRangeMap
import Derived.StringKeys
import Derived.Sort.Walk0
set_option maxRecDepth 100000
set_option maxHeartbeats 16000000
namespace Go.Proofs.YtbmkmfoaoganeaaGreatDoor
open Go.RowKit Go.Maps
abbrev deedV (s : Nat) (d : Int × Nat) : Value := .agg #[.int .i64 d.1, .func (.func d.2) #[.pointer (some ⟨s, 0, none⟩)] #[]]
def ptr1 : List Value -> Option Nat
 | [.pointer (some ⟨b, 0, none⟩)] => some b
 | _ => none
theorem ptr1_inv {l : List Value} {b : Nat} (h : ptr1 l = some b) : l = [.pointer (some ⟨b, 0, none⟩)] := by
 unfold ptr1 at h
 split at h
 ·cases h
  rfl
 ·cases h
def fnE (s : Nat) : Value -> Option Int
 | .func (.func f) first cap => if ptr1 first.toList = some s /\ cap.toList.isEmpty = true then some ((f : Int) + 1) else none
 | .nilFunc => some 0
 | _ => none
theorem fnE_inv {s f : Nat} {y : Value} (h : fnE s y = some ((f : Int) + 1)) : y = .func (.func f) #[.pointer (some ⟨s, 0, none⟩)] #[] := by
 unfold fnE at h
 split at h
 ·rename_i g first cap
  by_cases e : ptr1 first.toList = some s /\ cap.toList.isEmpty = true
  ·rw [if_pos e] at h
   simp only [Option.some.injEq] at h
   have h' : ((g : Nat) : Int) + 1 = (f : Int) + 1 := h
   have hg : g = f := Int.ofNat.inj (show ((g : Nat) : Int) = (f : Int) by omega)
   have h1 : first = #[.pointer (some ⟨s, 0, none⟩)] := Array.toList_inj.1 (ptr1_inv e.1)
   have h2 : cap = #[] := Array.toList_inj.1 (List.isEmpty_iff.1 e.2)
   rw [hg, h1, h2]
  ·rw [if_neg e] at h
   cases h
 ·simp only [Option.some.injEq] at h
  omega
 ·cases h
theorem fnE_zero {s : Nat} {y : Value} (h : fnE s y = some 0) : y = .nilFunc := by
 unfold fnE at h
 split at h
 ·rename_i g first cap
  by_cases e : ptr1 first.toList = some s /\ cap.toList.isEmpty = true
  ·rw [if_pos e] at h
   simp only [Option.some.injEq] at h
   omega
  ·rw [if_neg e] at h
   cases h
 ·rfl
 ·cases h
def pairE (s : Nat) : List Value -> Option (DataW Unit × List MemPlace)
 | [.int .i64 n, y] => (fnE s y).map fun f => (.agg [.lit (.int .i64 n), .lit (.int .i64 f)], [])
 | _ => none
def deedE (s : Nat) : Value -> Option (DataW Unit × List MemPlace)
 | .agg a => pairE s a.toList
 | _ => none
theorem deedE_inv {s : Nat} {v : Value} {n f : Int} {ps : List MemPlace} (h : deedE s v = some (.agg [.lit (.int .i64 n), .lit (.int .i64 f)], ps)) : ∃ y, v = .agg #[.int .i64 n, y] /\ fnE s y = some f := by
 unfold deedE at h
 split at h
 ·rename_i a
  unfold pairE at h
  split at h
  ·rename_i n' y e
   cases q : fnE s y with
   | none => rw [q] at h; cases h
   | some g =>
    rw [q] at h
    simp only [Option.map_some, Option.some.injEq, Prod.mk.injEq, DataW.agg.injEq, List.cons.injEq, DataW.lit.injEq, Lit.int.injEq, true_and, and_true] at h
    obtain ⟨⟨h1, h2⟩, _⟩ := h
    refine ⟨y, ?_, by rw [<- h2]; exact q⟩
    rw [<- h1]
    exact congrArg Value.agg (Array.toList_inj.1 e)
  ·cases h
 ·cases h
def deedD (d : Int × Nat) : DataW Unit := .agg [.lit (.int .i64 d.1), .lit (.int .i64 ((d.2 : Int) + 1))]
def deedZ : DataW Unit := .agg [.lit (.int .i64 0), .lit (.int .i64 0)]
theorem deedE_of (s : Nat) (d : Int × Nat) : deedE s (deedV s d) = some (deedD d, []) := by
 show pairE s [.int .i64 d.1, .func (.func d.2) #[.pointer (some ⟨s, 0, none⟩)] #[]] = _
 unfold pairE fnE
 simp [ptr1, deedD]
theorem deedE_at {s : Nat} {v : Value} {d : Int × Nat} {ps : List MemPlace} (h : deedE s v = some (deedD d, ps)) : v = deedV s d := by
 obtain ⟨y, rfl, hy⟩ := deedE_inv h
 rw [fnE_inv hy]
theorem deedE_zero {s : Nat} {v : Value} {ps : List MemPlace} (h : deedE s v = some (deedZ, ps)) : v = .agg #[.int .i64 0, .nilFunc] := by
 obtain ⟨y, rfl, hy⟩ := deedE_inv h
 rw [fnE_zero hy]
theorem keyedS : Keyed Tryz.prog 9 := string_keyed Tryz.underlying9
theorem zero_deed (w : World) : (zeroValue 50).run Tryz.prog w = .ok (.agg #[.int .i64 0, .nilFunc]) w := by kernel_rfl
structure KeysD (D : DataW Unit) (C : List (List UInt8 × (Int × Nat))) : Prop where
 there : ∀ x, x ∈ C -> ∀ z, D.atKey (.string x.1) z = deedD x.2
 has : ∀ k, Maps.has D (.string k) = decide (k ∈ C.map (·.1))
 size : Maps.size D = C.length
theorem keysD_none : KeysD (.map []) [] := ⟨by simp, fun _ => rfl, rfl⟩
theorem str_ne {x y : List UInt8} (h : x ≠ y) : Lit.string x ≠ .string y := by
 intro e
 cases e
 exact h rfl
theorem KeysD.add {D : DataW Unit} {C : List (List UInt8 × (Int × Nat))} (h : KeysD D C) (ht : Tidy D) (k : List UInt8) (d : Int × Nat) (hn : k ∉ C.map (·.1)) : KeysD (D.put (.string k) (deedD d)) (C ++ [(k, d)]) := by
 refine ⟨fun x hx z => ?_, fun n => ?_, ?_⟩
 ·rcases List.mem_append.1 hx with hx | hx
  ·have hne : x.1 ≠ k := fun e => hn (List.mem_map.2 ⟨x, hx, e⟩)
   rw [Maps.atKey_put_other (str_ne hne)]
   exact h.there x hx z
  ·rw [List.mem_singleton] at hx
   subst hx
   exact Maps.atKey_put_same (k := .string k) ht.isMap trivial _ _
 ·by_cases q : n = k
  ·subst q
   rw [Maps.has_put_same (k := .string n) ht.isMap trivial]
   simp
  ·rw [Maps.has_put_other (str_ne q), h.has n]
   simp [q]
 ·rw [Maps.size_put ht, h.has k, h.size]
  simp only [hn, decide_false, List.length_append, List.length_singleton]
  rfl
def DeedsW (w : World) (m s : Nat) (C : List (List UInt8 × (Int × Nat))) : Prop := ∃ D, w.ownsMap Tryz.prog 9 (deedE s) m C.length D /\ KeysD D C
theorem DeedsW.keeps {w w' : World} {m s : Nat} {C : List (List UInt8 × (Int × Nat))} {H : Nat -> Prop} (h : DeedsW w m s C) (hk : Keeps H w w') (hH : ¬ H m) : DeedsW w' m s C := by
 obtain ⟨D, h1, h2⟩ := h
 exact ⟨D, ownsMap_keeps h1 hk hH, h2⟩
theorem DeedsW.lt {w : World} {m s : Nat} {C : List (List UInt8 × (Int × Nat))} (h : DeedsW w m s C) : m < w.heap.size := by
 obtain ⟨D, h1, _⟩ := h
 exact h1.lt
theorem DeedsW.below {w w' : World} {m s : Nat} {C : List (List UInt8 × (Int × Nat))} (h : DeedsW w m s C) (hb : Below w.heap.size w w') : DeedsW w' m s C := h.keeps (Keeps.of_below (fun _ => False) hb zr) (fun f => f)
theorem deeds_new (w : World) (s : Nat) : DeedsW (w.alloc (.map #[] 0)) w.heap.size s [] := ⟨.map [], World.ownsMap_made w Tryz.prog 9 (deedE s), keysD_none⟩
theorem DeedsW.store {w : World} {m s : Nat} {C : List (List UInt8 × (Int × Nat))} (h : DeedsW w m s C) (k : ByteArray) (d : Int × Nat) (hk : k.size <= 100) (hn : k.data.toList ∉ C.map (·.1)) (hl : C.length <= 1000) :
  ∃ w', (Instr.mapUpdate 45 (.map (some m)) (.string k) (deedV s d)).run Tryz.prog w = .ok () w' /\ DeedsW w' m s (C ++ [(k.data.toList, d)]) /\ w.mapTurned w' m := by
 obtain ⟨D, h1, h2⟩ := h
 obtain ⟨w', r1, r2, r3⟩ := h1.store keyedS Tryz.underlying45 (by unfold maxLen; omega) (Go.WideMaps.keyOf_string_mk (s := k) Tryz.underlying9 (by unfold maxLen; omega)) (val := deedV s d) (d := deedD d) (ps := []) (deedE_of s d)
 have h3 := h2.add (h1.tidy keyedS) k.data.toList d hn
 have h4 := ownsMap_size r2
 rw [h3.size] at h4
 exact ⟨w', r1, ⟨_, h4, h3⟩, r3⟩
theorem DeedsW.look_no {w : World} {m s : Nat} {C : List (List UInt8 × (Int × Nat))} (h : DeedsW w m s C) (k : ByteArray) (hks : k.size <= 100000) (hn : k.data.toList ∉ C.map (·.1)) :
  (Instr.lookup 45 (.map (some m)) (.string k) true).run Tryz.prog w = .ok (.tuple #[.agg #[.int .i64 0, .nilFunc], .bool false]) w := by
 obtain ⟨D, h1, h2⟩ := h
 obtain ⟨v, ps, hr, hv⟩ := h1.look_ok keyedS Tryz.underlying45 (zero_deed w) (zd := deedZ) (zp := []) rfl (Go.WideMaps.keyOf_string_mk (s := k) Tryz.underlying9 (by unfold maxLen; omega))
 have e := h2.has k.data.toList
 rw [decide_eq_false hn] at e
 rw [Maps.atKey_of_not_has e] at hv
 rw [hr, e, deedE_zero hv]
theorem DeedsW.look {w : World} {m s : Nat} {C : List (List UInt8 × (Int × Nat))} (h : DeedsW w m s C) (k : ByteArray) (hks : k.size <= 100000) (d : Int × Nat) (hd : (k.data.toList, d) ∈ C) :
  (Instr.lookup 45 (.map (some m)) (.string k) true).run Tryz.prog w = .ok (.tuple #[deedV s d, .bool true]) w := by
 obtain ⟨D, h1, h2⟩ := h
 obtain ⟨v, ps, hr, hv⟩ := h1.look_ok keyedS Tryz.underlying45 (zero_deed w) (zd := deedZ) (zp := []) rfl (Go.WideMaps.keyOf_string_mk (s := k) Tryz.underlying9 (by unfold maxLen; omega))
 have e := h2.has k.data.toList
 rw [decide_eq_true (List.mem_map.2 ⟨_, hd, rfl⟩)] at e
 rw [h2.there _ hd] at hv
 rw [hr, e, deedE_at hv]
structure DkS where
 es : List (List Fop ⊕ Int)
 down : Bool
 cut : Bool
 left : Int
 V : Ky -> ByteArray
 L : List Ky
def deeds : List (List UInt8 × (Int × Nat)) := [([97, 116], (2, 12)), ([99, 111, 109, 109, 105, 116], (-1, 13)), ([99, 117, 116], (1, 14)), ([101, 100, 103, 101, 115], (0, 15)), ([101, 118, 101, 114], (8, 16)), ([102, 111, 114, 103, 101, 116], (1, 17)), ([104, 101, 108, 112], (0, 18)), ([104, 111, 112, 115], (3, 19)), ([107, 101, 121, 115], (2, 20)), ([110, 101, 119], (0, 21)), ([110, 111, 100, 101, 115], (1, 22)), ([110, 111, 119], (0, 23)), ([111, 112, 101, 110], (0, 24)), ([112, 105, 101, 99, 101, 115], (5, 25)), ([112, 114, 111, 112], (2, 26)), ([118, 97, 108, 117, 101], (6, 27)), ([119, 97, 121], (3, 28))]
theorem BdW.keeps {w w' : World} {B D : Nat} {es : List (List Fop ⊕ Int)} {down : Bool} {ps : Nat -> ByteArray} {cut : Bool} {left : Int} {F H : Nat -> Prop} (h : BdW w B D es down ps cut left F) (hk : Keeps H w w') (hF : ∀ i, F i -> ¬ H i) (hD : ¬ H D) : BdW w' B D es down ps cut left F :=
 ⟨h.base.keeps hk hF, h.disk.keeps hk hD, h.holds, h.apart, h.most⟩
structure DkI (w y : World) (s dm D B : Nat) (ps : Nat -> ByteArray) (F : Nat -> Prop) (g m : Nat) (X : List (Int × Nat)) (Nd : Nat -> Gn) (Fs : Nat -> Nat -> Prop) (st : DkS) : Prop where
 c0 : y.cell? ⟨s, 0, none⟩ = some (.pointer (some ⟨D, 0, none⟩))
 c1 : y.cell? ⟨s, 1, none⟩ = some (.pointer (some ⟨B, 0, none⟩))
 c2 : y.cell? ⟨s, 2, none⟩ = some (.pointer (some ⟨g, 0, none⟩))
 c3 : y.cell? ⟨s, 3, none⟩ = some (.map (some dm))
 f : ∀ i, y.frozen? ⟨s, i, none⟩ = false
 de : DeedsW y dm s deeds
 bd : BdW y B D st.es st.down ps st.cut st.left F
 gr : GrP y g m st.V st.L X Nd Fs
 fs : ¬ F s
 fd : ¬ F dm
 ds : D ≠ s
 dd : D ≠ dm
 sd : s ≠ dm
 gF : ∀ i, graphF g m X Fs i -> ¬ F i /\ i ≠ D /\ i ≠ s
 fge : ∀ i, F i -> w.heap.size <= i
 sge : w.heap.size <= s
 dge : w.heap.size <= D
 ok : TxsOk (stE st.es).1
 low : Below w.heap.size w y
section
variable {w y : World} {s dm D B : Nat} {ps : Nat -> ByteArray} {F : Nat -> Prop} {g m : Nat} {X : List (Int × Nat)} {Nd : Nat -> Gn} {Fs : Nat -> Nat -> Prop} {st : DkS}
theorem DkI.slt (h : DkI w y s dm D B ps F g m X Nd Fs st) : s < y.heap.size := lt_of_cell h.c0
theorem DkI.keeps {y' : World} {H : Nat -> Prop} (h : DkI w y s dm D B ps F g m X Nd Fs st) (hk : Keeps H y y') (h1 : ∀ i, i < y.heap.size -> H i -> ¬ F i /\ i ≠ D /\ i ≠ s /\ i ≠ dm /\ ¬ graphF g m X Fs i /\ w.heap.size <= i) : DkI w y' s dm D B ps F g m X Nd Fs st := by
 have hs : ¬ H s := fun q => (h1 s h.slt q).2.2.1 rfl
 have hc : ∀ {i : Nat} {v : Value}, y.cell? ⟨s, i, none⟩ = some v -> y'.cell? ⟨s, i, none⟩ = some v := fun {i v} e => (hk.cell (p := ⟨s, i, none⟩) h.slt hs).trans e
 have hlt : ∀ i, F i -> i < y.heap.size := BaseW.lt h.bd.base
 refine ⟨hc h.c0, hc h.c1, hc h.c2, hc h.c3, fun i => (hk.frozen (p := ⟨s, i, none⟩) h.slt hs).trans (h.f i), h.de.keeps hk (fun q => (h1 dm h.de.lt q).2.2.2.1 rfl), h.bd.keeps hk (fun i hi q => (h1 i (hlt i hi) q).1 hi) (fun q => (h1 D h.bd.disk.lt q).2.1 rfl), h.gr.keeps hk (fun i hi q => (h1 i (h.gr.p.gx.lt i hi) q).2.2.2.2.1 hi), h.fs, h.fd, h.ds, h.dd, h.sd, h.gF, h.fge, h.sge, h.dge, h.ok, ?_⟩
 refine h.low.trans ⟨hk.os, hk.tape, hk.output, hk.size, fun k hk' => hk.block k (Nat.lt_of_lt_of_le hk' h.low.size) (fun q => ?_)⟩
 have := (h1 k (Nat.lt_of_lt_of_le hk' h.low.size) q).2.2.2.2.2
 omega
theorem DkI.below {y' : World} (h : DkI w y s dm D B ps F g m X Nd Fs st) (hb : Below y.heap.size y y') : DkI w y' s dm D B ps F g m X Nd Fs st := h.keeps (Keeps.of_below (fun _ => False) hb zr) (fun _ _ q => q.elim)
theorem DkI.box {y0 y' : World} {bx : Nat} (h : DkI w y0 s dm D B ps F g m X Nd Fs st) (hk : Keeps (· = bx) y0 y') (hbx : w.heap.size <= bx) (h0 : ∀ i, F i \/ i = D \/ i = s \/ i = dm \/ graphF g m X Fs i -> i ≠ bx) : DkI w y' s dm D B ps F g m X Nd Fs st := by
 refine h.keeps hk (fun i _ e => ?_)
 subst e
 exact ⟨fun q => h0 _ (.inl q) rfl, fun q => h0 _ (.inr (.inl q)) rfl, fun q => h0 _ (.inr (.inr (.inl q))) rfl, fun q => h0 _ (.inr (.inr (.inr (.inl q)))) rfl, fun q => h0 _ (.inr (.inr (.inr (.inr q)))) rfl, hbx⟩
theorem DkI.lt (h : DkI w y s dm D B ps F g m X Nd Fs st) : ∀ i, F i \/ i = D \/ i = s \/ i = dm \/ graphF g m X Fs i -> i < y.heap.size := by
 rintro i (q | rfl | rfl | rfl | q)
 ·exact BaseW.lt h.bd.base i q
 ·exact h.bd.disk.lt
 ·exact h.slt
 ·exact h.de.lt
 ·exact h.gr.p.gx.lt i q
theorem DkI.past (h : DkI w y s dm D B ps F g m X Nd Fs st) : OneP y (plB B D st.es.length st.down) (stE st.es).1 (stE st.es).2 F :=
 ⟨h.bd.base, Nat.le_trans (stE_bounds h.bd.holds.good).1 h.bd.most, h.ok⟩
end
def outE : Except Int (List UInt8) -> Ending
 | .ok t => .returned (.string ⟨t.toArray⟩)
 | .error n => thrown n
def OutOk : Except Int (List UInt8) -> Prop
 | .ok t => t.length <= 2000000000
 | .error n => -9223372036854775808 <= n /\ n <= 9223372036854775807
end Go.Proofs.YtbmkmfoaoganeaaGreatDoor

namespace Go.Proofs.YtbmkmfoaoganeaaGreatDoor
open Go.RowKit Go.Maps
def DkG (w y : World) (s : Nat) (M : Nat -> Prop) (st : DkS) : Prop := ∃ dm D B ps F g m X Nd Fs, DkI w y s dm D B ps F g m X Nd Fs st /\ ∀ i, M i ↔ F i \/ i = D \/ i = s \/ i = dm \/ graphF g m X Fs i
theorem DkG.below {w y y' : World} {s : Nat} {M : Nat -> Prop} {st : DkS} (h : DkG w y s M st) (hb : Below y.heap.size y y') : DkG w y' s M st := by
 obtain ⟨_, _, _, _, _, _, _, _, _, _, h, hM⟩ := h
 exact ⟨_, _, _, _, _, _, _, _, _, _, h.below hb, hM⟩
theorem DkG.low {w y : World} {s : Nat} {M : Nat -> Prop} {st : DkS} (h : DkG w y s M st) : Below w.heap.size w y := by
 obtain ⟨_, _, _, _, _, _, _, _, _, _, h, _⟩ := h
 exact h.low
def Did (w : World) (s : Nat) (M : Nat -> Prop) (y : World) (st' : DkS) (out : Except Int (List UInt8)) (e : Ending) (y' : World) : Prop := e = outE out /\ ∃ M', DkG w y' s M' st' /\ (∀ i, M' i -> M i \/ y.heap.size <= i) /\ Keeps M y y'
theorem did_read {w y y' : World} {s : Nat} {M : Nat -> Prop} {st : DkS} {out : Except Int (List UInt8)} {e : Ending} (h : DkG w y s M st) (hb : Below y.heap.size y y') (he : e = outE out) : Did w s M y st out e y' := ⟨he, M, h.below hb, fun _ q => .inl q, Keeps.of_below M hb zr⟩
def WsI (y : World) (v : Value) (ws : List ByteArray) : Prop := ∃ ad cap, v = .slice ad ws.length cap /\ ws.length <= cap /\ (∀ j, (hj : j < ws.length) -> ∃ A o, ad = some ⟨A, o, none⟩ /\ y.cell? ⟨A, o + j, none⟩ = some (.string ws[j])) /\ ∀ x, x ∈ ws -> x.size <= 30000
theorem wd_new {y : World} {ad : Option Addr} {n cap : Nat} {ws : List ByteArray} (h : WsI y (.slice ad n cap) ws) : WdI (y.alloc (.cells #[.slice ad n cap] 56)) y.heap.size ws := by
 obtain ⟨ad', cap', e, hc, hw, hs⟩ := h
 cases e
 refine ⟨⟨ad, cap, by simp, hc, fun j hj => ?_⟩, by simp, hs⟩
 obtain ⟨A, o, rfl, q⟩ := hw j hj
 have hA := lt_of_cell q
 exact ⟨A, o, rfl, hA, ((below_box y _).cell hA).trans q⟩
def Does (f : Nat) (ws : List ByteArray) (st st' : DkS) (out : Except Int (List UInt8)) : Prop :=
 OutOk out /\ ∀ w y s M v, Tab w -> Libs w -> ErrorType w -> DkG w y s M st -> WsI y v ws -> Calls Tryz.prog f #[.pointer (some ⟨s, 0, none⟩), v] y (Did w s M y st' out)
theorem zNb {w y : World} {s : Nat} {M : Nat -> Prop} {st : DkS} (h : DkG w y s M st) (hl : Libs w) (ht : Tab w) : Hid (∀ {W : World} {ws : List ByteArray} {x : ByteArray}, WdI W y.heap.size (x :: ws) -> Below y.heap.size y W -> Calls Tryz.prog 36 #[.pointer (some ⟨y.heap.size, 0, none⟩)] W (NumSays x ws y.heap.size W)) := fun {_ _ _} hW hb => words_number hW (h.low.trans (hb.mono h.low.size)) h.low.size hl ht
theorem zKb {w y : World} {s : Nat} {M : Nat -> Prop} {st : DkS} (h : DkG w y s M st) (hl : Libs w) (ht : Tab w) : Hid (∀ {W : World} {ws : List ByteArray} {x0 x1 x2 x3 : ByteArray}, WdI W y.heap.size (x0 :: x1 :: x2 :: x3 :: ws) -> Below y.heap.size y W -> Calls Tryz.prog 48 #[.pointer (some ⟨y.heap.size, 0, none⟩)] W (KeySays x0 x1 x2 x3 ws y.heap.size W)) := fun {_ _ _ _ _ _} hW hb => words_key hW (h.low.trans (hb.mono h.low.size)) h.low.size hl ht
theorem zSb {w y : World} {s : Nat} {M : Nat -> Prop} {st : DkS} (h : DkG w y s M st) (hl : Libs w) (ht : Tab w) : Hid (∀ {W : World} {ws : List ByteArray} {x0 x1 : ByteArray}, WdI W y.heap.size (x0 :: x1 :: ws) -> Below y.heap.size y W -> Calls Tryz.prog 49 #[.pointer (some ⟨y.heap.size, 0, none⟩)] W (SpanSays x0 x1 ws y.heap.size W)) := fun {_ _ _ _} hW hb => words_span hW (h.low.trans (hb.mono h.low.size)) h.low.size hl ht
theorem zLo (y : World) : Hid (∀ {W W' : World}, Below y.heap.size y W -> Keeps (· = y.heap.size) W W' -> Below y.heap.size y W') := fun {_ _} hb hk => hb.trans (keeps_low hk (fun i e => by rw [e]; exact Nat.le_refl _) hb.size)
theorem zT {w y : World} {s : Nat} {M : Nat -> Prop} {st : DkS} (h : DkG w y s M st) (ht : Tab w) : Hid (∀ W, Below y.heap.size y W -> Tab W) := fun _ hb => ht.carry (h.low.trans (hb.mono h.low.size))
theorem zE {w y : World} {s : Nat} {M : Nat -> Prop} {st : DkS} (h : DkG w y s M st) (hg : ErrorType w) : Hid (∀ W, Below y.heap.size y W -> ErrorType W) := fun _ hb => hg.carry (h.low.trans (hb.mono h.low.size))
theorem zG {w y : World} {s : Nat} {M : Nat -> Prop} {st : DkS} (h : DkG w y s M st) : Hid (∀ W, Below y.heap.size y W -> DkG w W s M st) := fun _ hb => h.below hb

end Go.Proofs.YtbmkmfoaoganeaaGreatDoor
