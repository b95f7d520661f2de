/- Texts of one proof, one behind the other. -/
import Derived.Test.YtbmkmfoaoganeaaGreatDoorQd
import Derived.Test.YtbmkmfoaoganeaaGreatDoorPb
import Derived.Test.YtbmkmfoaoganeaaGreatDoorShelf2
import Derived.Test.YtbmkmfoaoganeaaGreatDoorShelfL
import Derived.Shelf.Strings.Prefix
set_option maxRecDepth 100000
set_option maxHeartbeats 16000000
namespace Go.Proofs.YtbmkmfoaoganeaaGreatDoor
open Go.RowKit Go.Shelf
attribute [local go_sem] Oper.semAt_some
theorem desk_lines (s : ByteArray) (w : World) : Calls Tryz.prog 7 #[.string s] w fun e w' => e = .returned (.func (.func 29) #[] #[.pointer (some ⟨w.heap.size, 0, none⟩)]) /\ w' = w.alloc (.cells #[.string s] 9) := by
 go_enter Tryz.func7, Tryz.ntmps7
 go_wp2
 go_ret
 exact ⟨rfl, rfl⟩
def LinesSt (Bs : Nat) (s : ByteArray) (W : World) : Prop := W.cell? ⟨Bs, 0, none⟩ = some (.string s) /\ ∃ mx, W.cell? ⟨0, 0, none⟩ = some (.int .i64 mx)
def GoingD (s : ByteArray) (J : List ByteArray -> World -> Prop) (r m : Value) (x : World) : Prop :=
 (∃ (pre : List ByteArray) (t : ByteArray) (k : Nat), m = .bool true /\ r = .string t /\ linesD s = pre ++ Lib.splitB ⟨#[10]⟩ 0 k t /\ t.size <= k /\ t.size <= s.size /\ J pre x) \/ (m = .bool false /\ (∃ t, r = .string t) /\ J (linesD s) x)
theorem cutn_hit (t : ByteArray) (i : Nat) (w : World) (mx : Int) (ht : t.size <= 100000) (hm : w.cell? ⟨0, 0, none⟩ = some (.int .i64 mx)) (h : Lib.indexB t ⟨#[10]⟩ = i) :
  Calls Tryz.prog 31 #[.string t, .string ⟨#[10]⟩] w fun e w' => e = .returned (.tuple #[.string (t.extract 0 i), .string (t.extract (i + 1) t.size), .bool true]) /\ ∃ n, w' = w.drewN n := by
 obtain ⟨h1, h2, h3⟩ := Lib.cutB_hit t ⟨#[10]⟩ i h
 have := Tryz.strings_Cut t ⟨#[10]⟩ mx w (by omega) hm
 rw [h1, h2, h3] at this
 exact this
theorem cutn_miss (t : ByteArray) (w : World) (mx : Int) (ht : t.size <= 100000) (hm : w.cell? ⟨0, 0, none⟩ = some (.int .i64 mx)) (h : Lib.indexB t ⟨#[10]⟩ = -1) :
  Calls Tryz.prog 31 #[.string t, .string ⟨#[10]⟩] w fun e w' => e = .returned (.tuple #[.string t, .string ByteArray.empty, .bool false]) /\ ∃ n, w' = w.drewN n := by
 obtain ⟨h1, h2, h3⟩ := Lib.cutB_miss t ⟨#[10]⟩ h
 have := Tryz.strings_Cut t ⟨#[10]⟩ mx w (by omega) hm
 rw [h1, h2, h3] at this
 exact this
theorem lines_hands (s : ByteArray) (n Bs : Nat) (hn : 1 <= n) (hs : s.size <= 100000) : Hands n 29 #[.pointer (some ⟨Bs, 0, none⟩)] Value.string (linesD s) (LinesSt Bs s) := fun l J W hJ hSt hY h0 => by
 have hfC : Fence.wide.fn 31 := trivial
 have hfT : Fence.wide.fn 30 := trivial
 have hcW := (hSt _ _ h0).1
 have HT := zh (Any.strings_TrimSuffix Tryz.lays102 s ⟨#[10]⟩ W (by omega))
 obtain ⟨t0, ht0⟩ : ∃ t : ByteArray, t = ⟨(Lib.trimSuffix s.data.toList (⟨#[10]⟩ : ByteArray).data.toList).toArray⟩ := ⟨_, rfl⟩
 rw [<- ht0] at HT
 have hd0 : t0.data.toList = trimL s.data.toList := by rw [ht0]; rfl
 have hsp := lines_split s t0 hd0
 have hz0 : t0.size <= s.size := by
  have h1 := trim_le s.data.toList
  rw [<- hd0] at h1
  have h2 : s.data.toList.length = s.size := Array.length_toList
  have h3 : t0.data.toList.length = t0.size := Array.length_toList
  omega
 have HSp := zh hsp
 have HZ0 := zh hz0
 clear hsp hz0 hd0 ht0
 have HY := zh hY
 have HJ := zh hJ
 have HSt := zh hSt
 have H0 := zh h0
 clear hY hJ hSt h0
 refine callsIn_of_wp Tryz.func29 rfl trivial ?_ rfl
 simp only [Tryz.ntmps29, List.size_toArray, List.length_cons, List.length_nil, Nat.reduceAdd, Nat.reduceSub, Array.replicate_succ, Array.replicate_zero, List.push_toArray, List.append_toArray, List.nil_append, List.cons_append]
 gi_wp2_with (gi_at_call 30; refine (callsIn_wide.2 (uh HT)).mono ?_; rintro e w2 ⟨rfl, rfl⟩; refine Hid.out ?_)
 refine zh ?_
 clear HT
 gi_wp2
 gi_loopw [3, 4] (fun r m x => GoingD s J r m x) (fun r m _ => leftOf r m)
 case atStart => exact Or.inl ⟨[], t0, t0.size, rfl, rfl, by rw [uh HSp]; rfl, Nat.le_refl _, uh HZ0, uh H0⟩
 case round =>
  obtain ⟨pre, t, k, rfl, rfl, hx, hk, hts, hJs⟩ | ⟨rfl, ⟨t, rfl⟩, hJs⟩ := hrel
  ·obtain ⟨mx, hmx⟩ := (uh HSt pre wr hJs).2
   rcases Lib.indexB_cases t ⟨#[10]⟩ with hi | ⟨i, hi, hroom⟩
   ·have HC := zh (cutn_miss t wr mx (by omega) hmx hi)
    have hxx : linesD s = pre ++ t :: [] := by rw [hx, Lib.splitB_miss _ _ _ _ hi]
    have HXX := zh hxx
    have HJS := zh hJs
    clear hx hxx hJs hi hcW hmx
    gi_wp2_with (gi_at_call 31; refine (callsIn_wide.2 (uh HC)).mono ?_; rintro e w3 ⟨rfl, q, rfl⟩; refine Hid.out ?_)
    refine zh ?_
    have hJ2 := uh HJ pre wr q (uh HJS)
    generalize wr.drewN q = w3 at hJ2 ⊢
    obtain ⟨fn, tmps, assign, body, hy, hR⟩ := uh HY pre t [] w3 (uh HXX) hJ2
    clear HC HJS hJ2
    gi_wp2
    refine hR.mono ?_
    rintro e w4 ⟨rfl, hJ3⟩
    have H3 := zh hJ3
    clear hJ3 hR hy
    gi_wp2
    go_roundw
    case rel => exact Or.inr ⟨rfl, ⟨_, rfl⟩, by rw [uh HXX]; exact uh H3⟩
    case measure => simp [leftOf]
   ·have hi1 : i + 1 <= t.size := hroom
    have HC := zh (cutn_hit t i wr mx (by omega) hmx hi)
    have hk1 : ∃ k', k = k' + 1 := ⟨k - 1, by omega⟩
    obtain ⟨k', rfl⟩ := hk1
    have hxx : linesD s = pre ++ t.extract 0 i :: Lib.splitB ⟨#[10]⟩ 0 k' (t.extract (i + 1) t.size) := by rw [hx, Lib.splitB_hit _ _ _ _ _ hi]; rfl
    have hz : (t.extract (i + 1) t.size).size = t.size - (i + 1) := by rw [ByteArray.size_extract]; omega
    have HXX := zh hxx
    have HJS := zh hJs
    have HZ := zh hz
    clear hx hxx hJs hi hcW hmx hz hroom
    generalize t.extract 0 i = y at HC HXX
    generalize t.extract (i + 1) t.size = t' at HC HXX HZ
    gi_wp2_with (gi_at_call 31; refine (callsIn_wide.2 (uh HC)).mono ?_; rintro e w3 ⟨rfl, q, rfl⟩; refine Hid.out ?_)
    refine zh ?_
    have hJ2 := uh HJ pre wr q (uh HJS)
    generalize wr.drewN q = w3 at hJ2 ⊢
    obtain ⟨fn, tmps, assign, body, hy, hR⟩ := uh HY pre y _ w3 (uh HXX) hJ2
    clear HC HJS hJ2
    gi_wp2
    refine hR.mono ?_
    rintro e w4 ⟨rfl, hJ3⟩
    have H3 := zh hJ3
    clear hJ3 hR hy
    gi_wp2
    go_roundw
    case rel => exact Or.inl ⟨pre ++ [y], t', k', rfl, rfl, by rw [uh HXX]; simp, by have := uh HZ; omega, by have := uh HZ; omega, uh H3⟩
    case measure => simp [leftOf]; have := uh HZ; omega
  ·gi_wp2
   go_end0
   exact ⟨⟨_, rfl⟩, hJs⟩
end Go.Proofs.YtbmkmfoaoganeaaGreatDoor
