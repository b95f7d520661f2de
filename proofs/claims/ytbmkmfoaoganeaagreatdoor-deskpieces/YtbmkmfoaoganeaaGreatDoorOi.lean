/- Texts of one proof, one behind the other. -/
import Derived.Test.YtbmkmfoaoganeaaGreatDoorOh
import Derived.Test.YtbmkmfoaoganeaaGreatDoorShelfV
import Derived.Test.YtbmkmfoaoganeaaGreatDoorShelfI
import Derived.Laws.AppendOwnNone
set_option maxRecDepth 100000
set_option maxHeartbeats 16000000
namespace Go.Proofs.YtbmkmfoaoganeaaGreatDoor
open Go.RowKit Go.Maps
theorem rev_ints (zs : List Int) (v : Value) (w : World) (base : Nat) (hlen : zs.length < 1099511627776) (hown : RowN w base v zs) :
  Calls Tryz.prog 121 #[v] w fun e w' => e = .returned (.tuple #[]) /\ RowN w' base v zs.reverse /\ w.grownBy w' v.ownBlock := by
 rcases (show World.ownsRow _ _ _ _ _ _ _ from hown).2 with ⟨rfl, h0⟩ | ⟨g, cap, cur, rfl, hbg, hg, hnc, hcm, hcs, htake⟩
 ·have hz : zs = [] := List.eq_nil_of_length_eq_zero h0
  subst hz
  have hcon := Any.slices_Reverse_int_empty Tryz.lays112 none 0 w
  change Calls Tryz.prog 121 _ _ _ at hcon
  refine hcon.mono ?_
  rintro e w' ⟨rfl, rfl⟩
  exact ⟨rfl, hown, ⟨rfl, rfl, rfl, Nat.le_refl _, fun _ _ _ => rfl⟩⟩
 ·have hH : Go.Sort.Holds (Value.int .i64) w g 0 zs.toArray := holds_of_blockI hg (by simpa using htake)
  have hcon := Any.slices_Reverse_int Tryz.lays112 g 0 cap zs w hH (by omega)
  change Calls Tryz.prog 121 _ _ _ at hcon
  refine hcon.mono ?_
  rintro e w' ⟨rfl, n, rfl⟩
  have hl : zs.reverse.length = zs.length := List.length_reverse
  have e1 : ∀ W : World, Go.Sort.grow W #[] = W := fun W => by simp [Go.Sort.grow]
  refine ⟨rfl, ?_, ?_⟩
  ·have := ownsRow_sortedI (n := n) (os := #[]) (ts := zs.reverse) hl hbg hg hnc hcm hcs
   rw [e1] at this
   unfold RowN
   rw [hl]
   exact this
  ·have := grownBy_sortedI (w := w) (g := g) (n := n) (os := #[]) zs.reverse.toArray
   rw [e1] at this
   exact this
theorem all_ok {w : World} {g m : Nat} (h : w.cell? ⟨g, 0, none⟩ = some (.map (some m))) :
  Calls Tryz.prog 104 #[.pointer (some ⟨g, 0, none⟩)] w fun e w' => e = .returned (.map (some m)) /\ w' = w := by
 go_enter Tryz.func104, Tryz.ntmps104
 go_wp2
 go_ret
 exact ⟨rfl, rfl⟩
def lenV : Value -> Nat
 | .slice _ n _ => n
 | _ => 0
def WayOk (w : World) (wy : List Int) (e : Ending) (w' : World) : Prop := ∃ v, e = .returned (.tuple #[v, .nilIface]) /\ RowN w' w.heap.size v wy /\ Below w.heap.size w w'
theorem way_back {nx : Int -> List Int} {n b : Int} {i : Nat} {wy : List Int} (h : IsWay nx n i wy b) (k : Nat) (hk : k + 1 <= i) : ∃ a c, wy[k]? = some a /\ wy[k + 1]? = some c /\ (c, a) ∈ (rounds nx n i).1 /\ c ≠ n /\ c ∈ (rounds nx n (k + 1)).2 /\ (wy.drop k).reverse = (wy.drop (k + 1)).reverse ++ [a] := by
 have hl := h.len
 have h1 : k < wy.length := by omega
 have h2 : k + 1 < wy.length := by omega
 have q1 : wy[k]? = some wy[k] := List.getElem?_eq_getElem h1
 have q2 : wy[k + 1]? = some wy[k + 1] := List.getElem?_eq_getElem h2
 have q3 := h.on (k + 1) _ q2
 refine ⟨wy[k], wy[k + 1], q1, q2, (h.step k _ _ (by omega) q1 q2).2, fun e => ?_, q3, ?_⟩
 ·rw [e] at q3
  have := ring_one nx n (k + 1) 0 n q3 (by simp [cameK, rounds])
  omega
 ·rw [List.drop_eq_getElem_cons h1, List.reverse_cons]
theorem way_ok {w : World} {g m : Nat} {X : List (Int × Nat)} {Nd : Nat -> Gn} {Fs : Nat -> Nat -> Prop} {word : ByteArray} {nx : Int -> List Int} (h : SpT w g m X Nd Fs word nx) (x y : Int) (hx : x ∈ X.map (·.1)) (hy : y ∈ X.map (·.1)) (i : Nat) (wy : List Int) (hw : IsWay nx x i wy y) (hi : i <= X.length) :
  Calls Tryz.prog 78 #[.pointer (some ⟨g, 0, none⟩), .int .i64 x, .int .i64 y, .string word] w (WayOk w wy) := by
 have HSp := zh (spread_ok h x hx X.length (by have := h.len; omega))
 have HAl := zh (all_ok h.gx.c0)
 obtain ⟨⟨x', bx⟩, hxm, e⟩ := List.mem_map.1 hx
 obtain rfl : x' = x := e
 obtain ⟨⟨y', bY⟩, hym, e⟩ := List.mem_map.1 hy
 obtain rfl : y' = y := e
 have hlx := lookG_at h.gx.map (x', bx) (h.wf x' hx) hxm
 have hly := lookG_at h.gx.map (y', bY) (h.wf y' hy) hym
 dsimp only at hlx hly
 have hc0 := h.gx.c0
 obtain ⟨D, hoD, hKD⟩ := h.gx.map
 have hsz : Maps.size D = X.length := hKD.size
 have HGd := zh (fun i => Good.rounds h.closed hx i)
 have HWf := zh h.wf
 have HW := zh hw
 have hyw := h.wf y' hy
 have HX := zh h.len
 have HCy : Hid (y' ∈ (rounds nx x' X.length).1.map (·.1)) := by
  have q := ring_came nx x' i y' (hw.on i y' hw.last)
  have q2 := keys_le nx x' i (X.length - i) y' q
  rwa [show i + (X.length - i) = X.length by omega] at q2
 have HUp : Hid (∀ p, p ∈ (rounds nx x' i).1 -> p ∈ (rounds nx x' X.length).1) := fun p hp => by
  have q := (came_le nx x' i (X.length - i)).subset hp
  rwa [show i + (X.length - i) = X.length by omega] at q
 clear h hw hxm hym hx hy
 go_enter Tryz.func78, Tryz.ntmps78
 go_wp2_with fail
 refine (uh HAl).mono ?_
 rintro e w1 ⟨rfl, rfl⟩
 go_wp2_with fail
 refine (uh HAl).mono ?_
 rintro e w ⟨rfl, rfl⟩
 go_wp2_with (first
  | (refine wpList_len_own _ rfl (.tmp 34) 129 rfl 3 132 Tryz.underlying129 ptrElem m _ D rfl hoD ?_; rw [hsz]))
 refine (uh HSp).mono ?_
 rintro e W1 ⟨mb, rfl, hmb, hca, hb1⟩
 have HCa := zh hca
 have HB1 := zh hb1
 obtain ⟨c, hlo, _⟩ := hca.look y' hyw
 rw [decide_eq_true (uh HCy)] at hlo
 have HR0 : Hid (RowN (W1.alloc (.cells #[.int .i64 y'] 3)) W1.heap.size (.slice (some ⟨W1.heap.size, 0, none⟩) 1 1) [y']) := World.ownsRow_lit (base := W1.heap.size) (e := 3) (size := 1) W1 #[.int .i64 y'] 1 zr (by decide) rfl
 have HBx := zh (below_box W1 (.cells #[.int .i64 y'] 3))
 have HL0 : Hid ((wy.drop i).reverse = [y']) := by
  have hl := (uh HW).len
  have q := (uh HW).last
  have h1 : i < wy.length := by omega
  rw [List.getElem?_eq_getElem h1] at q
  have q' := Option.some.inj q
  unfold Hid
  rw [List.drop_eq_getElem_cons h1, q', List.drop_eq_nil_of_le (by omega)]
  rfl
 clear HSp HAl hlx hly hc0 hoD hKD hsz hca hb1 hyw
 go_wp2
 generalize W1.alloc (.cells #[.int .i64 y'] 3) = W2 at *
 go_loopw [13, 14] (fun o n z => ∃ (k : Nat) (a : Int), k <= i /\ wy[k]? = some a /\ n = .int .i64 a /\ RowN z W1.heap.size o (wy.drop k).reverse /\ Below W1.heap.size W1 z) (fun o _ _ => i + 1 - lenV o)
 case atStart => exact ⟨i, y', Nat.le_refl _, (uh HW).last, rfl, by rw [uh HL0]; exact uh HR0, uh HBx⟩
 case round =>
  obtain ⟨k, a, hk, hka, rfl, hro, hbz⟩ := hrel
  obtain ⟨Lk, hLk⟩ : ∃ Lk, Lk = (wy.drop k).reverse := ⟨_, rfl⟩
  rw [<- hLk] at hro
  have HRo := zh hro
  have HBz := zh hbz
  obtain ⟨ado, co, rfl⟩ := row_slice (show World.ownsRow _ _ _ _ _ _ _ from hro)
  have hln : Lk.length = i + 1 - k := by rw [hLk, List.length_reverse, List.length_drop, (uh HW).len]
  have HLk := zh hLk
  have HLn := zh hln
  clear hLk hln
  have HWl := zh (uh HW).len
  have hX4 := uh HX
  clear hro hbz HR0 HL0
  cases k with
  | zero =>
   have hax : a = x' := by
    have q := (uh HW).first
    rw [hka] at q
    exact Option.some.inj q
   subst hax
   have HRv := zh (rev_ints Lk _ wr W1.heap.size (by rw [uh HLn]; omega) (uh HRo))
   have hE : Lk.reverse = wy := by rw [uh HLk, List.drop_zero, List.reverse_reverse]
   rw [hE] at HRv
   clear hE HLk
   go_wp2_with fail
   refine (uh HRv).mono ?_
   rintro e W4 ⟨rfl, r1, r2⟩
   have HF : Hid (WayOk w wy (.returned (.tuple #[.slice ado Lk.length co, .nilIface])) W4) := ⟨_, rfl, rowN_mono r1 (uh HB1).size, (uh HB1).trans ((grown_below (uh HBz) (uh HRo) r2 (uh HBz).size).mono (uh HB1).size)⟩
   clear r1 r2 HRv HRo HBz
   go_wp2
   go_ret2
   exact uh HF
  | succ k =>
   obtain ⟨b, a', q1, q2, q3, q4, q5, q6⟩ := way_back (uh HW) k hk
   obtain rfl : a' = a := by
    rw [hka] at q2
    exact (Option.some.inj q2).symm
   have hwa := uh HWf a' ((uh HGd (k + 1)).ring a' q5)
   have hlk := ((uh HCa).below (uh HBz)).look1 (a', b) (uh HUp _ q3) hwa
   dsimp only at hlk
   have HQ1 := zh q1
   rw [<- uh HLk] at q6
   have HQ6 := zh q6
   have HBy := zh (below_box wr (.cells #[.int .i64 b] 3))
   have HRo2 := zh ((uh HRo).carry (uh HBy))
   have HB2 := zh ((uh HBz).trans ((uh HBy).mono (uh HBz).size))
   have hcy := cell_new wr (.int .i64 b) 3
   have hbs := (uh HB2).size
   have hLj : Lk.length <= 1000000 := by have := uh HLn; omega
   clear q1 q2 q3 q5 q6 hka HBy HRo HBz HLk
   go_wp2_with (first
    | (at_builtin; refine wpList_appN _ rfl (.tmp 55) (.tmp 57) rfl W1.heap.size _ Lk rfl (uh HRo2) wr.heap.size b rfl hcy hLj hbs ?_))
   intro v9 W7 r1 r2
   have HR7 := zh r1
   have HB7 := zh (grown_below (uh HB2) (uh HRo2) r2 hbs)
   obtain ⟨ad7, cap7, rfl⟩ := row_slice (show World.ownsRow _ _ _ _ _ _ _ from r1)
   have hl7 : (Lk ++ [b]).length = Lk.length + 1 := by simp
   rw [hl7] at HR7
   clear r1 r2 HRo2 HB2 hcy hbs
   go_wp2
   go_roundw
   case rel => exact ⟨k, b, by omega, uh HQ1, rfl, by rw [uh HQ6]; first | exact uh HR7 | (rw [hl7]; exact uh HR7), uh HB7⟩
   case measure =>
    have hln := uh HLn
    simp [lenV]
    omega
theorem way_none {w : World} {g m : Nat} {X : List (Int × Nat)} {Nd : Nat -> Gn} {Fs : Nat -> Nat -> Prop} {word : ByteArray} {nx : Int -> List Int} (h : SpT w g m X Nd Fs word nx) (x y : Int) (hx : x ∈ X.map (·.1)) (hy : y ∈ X.map (·.1)) (hn : y ∉ cameK nx x X.length) :
  Calls Tryz.prog 78 #[.pointer (some ⟨g, 0, none⟩), .int .i64 x, .int .i64 y, .string word] w (fun e w' => e = .returned (.tuple #[.slice none 0 0, .iface 25 (.int .i64 8)]) /\ Below w.heap.size w w') := by
 have HSp := zh (spread_ok h x hx X.length (by have := h.len; omega))
 have HAl := zh (all_ok h.gx.c0)
 obtain ⟨⟨x', bx⟩, hxm, e⟩ := List.mem_map.1 hx
 obtain rfl : x' = x := e
 obtain ⟨⟨y', bY⟩, hym, e⟩ := List.mem_map.1 hy
 obtain rfl : y' = y := e
 have hlx := lookG_at h.gx.map (x', bx) (h.wf x' hx) hxm
 have hly := lookG_at h.gx.map (y', bY) (h.wf y' hy) hym
 dsimp only at hlx hly
 have hc0 := h.gx.c0
 obtain ⟨D, hoD, hKD⟩ := h.gx.map
 have hsz : Maps.size D = X.length := hKD.size
 have hyw := h.wf y' hy
 have HCy : Hid (¬ y' ∈ (rounds nx x' X.length).1.map (·.1)) := hn
 clear h hn hxm hym hx hy
 go_enter Tryz.func78, Tryz.ntmps78
 go_wp2_with fail
 refine (uh HAl).mono ?_
 rintro e w1 ⟨rfl, rfl⟩
 go_wp2_with fail
 refine (uh HAl).mono ?_
 rintro e w ⟨rfl, rfl⟩
 go_wp2_with (first
  | (refine wpList_len_own _ rfl (.tmp 34) 129 rfl 3 132 Tryz.underlying129 ptrElem m _ D rfl hoD ?_; rw [hsz]))
 refine (uh HSp).mono ?_
 rintro e W1 ⟨mb, rfl, hmb, hca, hb1⟩
 have HB1 := zh hb1
 obtain ⟨c, hlo, _⟩ := hca.look y' hyw
 rw [decide_eq_false (uh HCy)] at hlo
 clear HSp HAl hlx hly hc0 hoD hKD hsz hca hb1 hyw
 go_wp2
 go_ret2
 exact ⟨rfl, uh HB1⟩
def nxG (L : List Ky) (word : ByteArray) (a : Int) : List Int := nextG (edgesG L a) word
theorem mem_nextG {E : List Ky} {word : ByteArray} {b : Int} : b ∈ nextG E word ↔ ∃ k, k ∈ E /\ ofWord word k = true /\ k.b = b := by
 unfold nextG sortedI
 rw [(List.mergeSort_perm _ _).mem_iff]
 unfold leadG
 rw [List.mem_map]
 constructor
 ·rintro ⟨k, hk, e⟩
  obtain ⟨h1, h2⟩ := List.mem_filter.1 hk
  exact ⟨k, h1, h2, e⟩
 ·rintro ⟨k, h1, h2, e⟩
  exact ⟨k, List.mem_filter.2 ⟨h1, h2⟩, e⟩
theorem mem_edgesG {L : List Ky} {a : Int} {k : Ky} : k ∈ edgesG L a ↔ k ∈ L /\ k.kind = 2 /\ k.a = a /\ k.b ∈ nodesG L := by
 unfold edgesG
 rw [List.mem_filter]
 simp
theorem mem_nxG {L : List Ky} {word : ByteArray} {a b : Int} : b ∈ nxG L word a ↔ ∃ k, k ∈ L /\ k.kind = 2 /\ k.a = a /\ k.b = b /\ b ∈ nodesG L /\ ofWord word k = true := by
 unfold nxG
 rw [mem_nextG]
 constructor
 ·rintro ⟨k, h1, h2, rfl⟩
  obtain ⟨q1, q2, q3, q4⟩ := mem_edgesG.1 h1
  exact ⟨k, q1, q2, q3, rfl, q4, h2⟩
 ·rintro ⟨k, h1, h2, h3, rfl, h4, h5⟩
  exact ⟨k, mem_edgesG.2 ⟨h1, h2, h3, h4⟩, h5, rfl⟩
theorem GrI.spt {W : World} {g m : Nat} {V : Ky -> ByteArray} {L : List Ky} {X : List (Int × Nat)} {Nd : Nat -> Gn} {Fs : Nat -> Nat -> Prop} (h : GrI W g m V L X Nd Fs) (hk : ∀ k, k ∈ L -> KyOk k) (hl : L.length <= 4000) (word : ByteArray) : SpT W g m X Nd Fs word (nxG L word) := by
 refine ⟨h.gx, fun x hx => ?_, fun a ha b hb => ?_, fun a ha => ?_, fun x hx => ?_, ?_⟩
 ·rw [h.nd x hx]
  rfl
 ·obtain ⟨k, _, _, _, _, hn, _⟩ := mem_nxG.1 hb
  rw [h.ids]
  exact hn
 ·rw [h.ids] at ha
  obtain ⟨k, hkm, rfl⟩ := List.mem_map.1 ha
  exact (hk k (List.mem_filter.1 hkm).1).a
 ·rw [h.nd x hx]
  have := edgesG_le L x.1
  show (edgesG L x.1).length <= 100000
  omega
 ·have e := congrArg List.length h.ids
  rw [List.length_map] at e
  rw [e]
  unfold nodesG
  rw [List.length_map]
  exact Nat.le_trans (List.length_filter_le _ _) hl
theorem KeysG.met {D : DataW Unit} {X : List (Int × Nat)} (h : KeysG D X) {n : Int} {u : Value} {y : DataW Unit} {ps : List MemPlace} (hu : ptrElem u = some (y, ps)) (hat : ∀ z, D.atKey (.int .i64 n) z = y) : ∃ b, (n, b) ∈ X /\ u = .pointer (some ⟨b, 0, none⟩) := by
 rcases Classical.em (∃ x, x ∈ X /\ x.1 = n) with ⟨x, hx, rfl⟩ | q
 ·refine ⟨x.2, hx, ptrElem_at (ps := ps) ?_⟩
  have := h.there x hx
  rw [hat] at this
  rw [hu, this]
 ·have := h.hasn n (fun x hx e => q ⟨x, hx, e⟩)
  rw [has_of_at hat] at this
  cases this
structure NoI (w : World) (m r n : Nat) (X : List (Int × Nat)) (D : DataW Unit) (left was : Lit -> Bool) (cnt : Nat) (u : Value) (L : List Int) (y : World) : Prop where
 rg : y.ranges Tryz.prog 3 ptrElem m r n D left cnt
 row : RowN y (r + 1) u L
 mem : ∀ a, a ∈ L ↔ a ∈ X.map (·.1) /\ was (.int .i64 a) = false
 nodup : L.Nodup
 low : Below w.heap.size w y
 mr : m < r
 far : w.heap.size <= r
 rs : r < y.heap.size
theorem NoI.below {w : World} {m r n : Nat} {X : List (Int × Nat)} {D : DataW Unit} {left was : Lit -> Bool} {cnt : Nat} {u : Value} {L : List Int} {y y' : World} (h : NoI w m r n X D left was cnt u L y) (hb : Below y.heap.size y y') : NoI w m r n X D left was cnt u L y' :=
 ⟨ranges_below h.rg hb, h.row.carry hb, h.mem, h.nodup, h.low.trans (hb.mono h.low.size), h.mr, h.far, Nat.lt_of_lt_of_le h.rs hb.size⟩
theorem NoI.came {w : World} {m r n : Nat} {X : List (Int × Nat)} {D : DataW Unit} {left was left' : Lit -> Bool} {cnt cnt' : Nat} {u : Value} {L : List Int} {y y' : World} (h : NoI w m r n X D left was cnt u L y) (hg : y.grownBy y' (some r)) (hrg : y'.ranges Tryz.prog 3 ptrElem m r n D left' cnt') : NoI w m r n X D left' was cnt' u L y' := by
 have hk := keeps_grown hg
 refine ⟨hrg, World.ownsRow.kept h.row hg ?_, h.mem, h.nodup, h.low.trans (keeps_below hk (fun i e => by cases e; exact h.far) h.low.size), h.mr, h.far, Nat.lt_of_lt_of_le h.rs hg.size⟩
 rcases e : u.ownBlock with _ | g
 ·exact .inl rfl
 ·refine .inr (fun q => ?_)
  have := (World.ownsRow.lt h.row g e).1
  cases q
  omega
theorem NoI.add {w : World} {m r n : Nat} {X : List (Int × Nat)} {D : DataW Unit} {left : Lit -> Bool} {cnt : Nat} {u v' : Value} {L : List Int} {y y' : World} {a : Int} (h : NoI w m r n X D (fun z => left z && !z.sameKey (.int .i64 a)) left cnt u L y) (hw : (Lit.int .i64 a).wf = true) (hx : a ∈ X.map (·.1)) (hl : left (.int .i64 a) = true) (hg : y.grownBy y' u.ownBlock) (hr : RowN y' (r + 1) v' (L ++ [a])) : NoI w m r n X D (fun z => left z && !z.sameKey (.int .i64 a)) (fun z => left z && !z.sameKey (.int .i64 a)) cnt v' (L ++ [a]) y' := by
 have hkp := keeps_grown hg
 have hge : ∀ i, some i = u.ownBlock -> r + 1 <= i := fun i e => (World.ownsRow.lt h.row i e.symm).1
 refine ⟨ranges_keeps h.rg hkp (fun e => by have := hge m e; have := h.mr; omega) (fun e => by have := hge r e; omega), hr, fun k' => ?_, ?_, h.low.trans (keeps_below hkp (fun i e => by have := hge i e; have := h.far; omega) h.low.size), h.mr, h.far, Nat.lt_of_lt_of_le h.rs hg.size⟩
 ·rw [List.mem_append, List.mem_singleton, h.mem k']
  constructor
  ·rintro (⟨p, q⟩ | rfl)
   ·exact ⟨p, by simp [q]⟩
   ·exact ⟨hx, by simp [WideAt.sameKey_self (keyedV.key (keyOf_int_mk Tryz.underlying3 hw))]⟩
  ·rintro ⟨p, q⟩
   cases e : left (.int .i64 k') with
   | false => exact .inl ⟨p, rfl⟩
   | true =>
    simp [e] at q
    have e2 : Lit.int .i64 k' = .int .i64 a := WideAt.sameKey_eq q
    cases e2
    exact .inr rfl
 ·rw [List.nodup_append]
  refine ⟨h.nodup, by simp, fun x hx' b hb => ?_⟩
  rw [List.mem_singleton] at hb
  subst hb
  rintro rfl
  have := ((h.mem x).1 hx').2
  rw [hl] at this
  cases this
theorem sortedI_perm {l m : List Int} (h : l.Perm m) : sortedI l = sortedI m := by
 have hs : ∀ q : List Int, (sortedI q).Pairwise (· <= ·) := fun q => by
  have := List.pairwise_mergeSort (le := fun x y : Int => decide (x <= y)) (fun a b c h1 h2 => by simp at *; omega) (fun a b => by simp; omega) q
  exact this.imp (fun h => by simpa using h)
 exact sorted_one _ _ ((List.mergeSort_perm _ _).trans (h.trans (List.mergeSort_perm _ _).symm)) (hs l) (hs m)
theorem nodup_perm {l m : List Int} (h1 : l.Nodup) (h2 : m.Nodup) (h : ∀ x, x ∈ l ↔ x ∈ m) : l.Perm m := (List.perm_ext_iff_of_nodup h1 h2).2 h
theorem nodes_ok {w : World} {g m : Nat} {X : List (Int × Nat)} {Nd : Nat -> Gn} {Fs : Nat -> Nat -> Prop} (h : GraphX w g m X Nd Fs) (hw : ∀ a, a ∈ X.map (·.1) -> (Lit.int .i64 a).wf = true) (hX : X.length <= 4000) :
  Calls Tryz.prog 64 #[.pointer (some ⟨g, 0, none⟩), .string ⟨#[]⟩] w (NextSays w (sortedI (X.map (·.1)))) := by
 have HAl := zh (all_ok h.c0)
 obtain ⟨D, hoD, hKD⟩ := h.map
 have HO := zh hoD
 have HK := zh hKD
 have HW := zh hw
 have hm := h.map.lt
 have HNd : Hid ((X.map (·.1)).Nodup) := by
  unfold Hid
  exact List.pairwise_map.2 h.ids
 clear h hoD hKD hw
 go_enter Tryz.func64, Tryz.ntmps64
 go_wp2_with fail
 refine (uh HAl).mono ?_
 rintro e w ⟨rfl, rfl⟩
 go_wp2_with (first | (at_range; refine wpList_range_own _ rfl _ 129 rfl 3 132 keyedV Tryz.underlying129 ptrElem m X.length D rfl (uh HO) ?_; intro w0 hrg0 hg0 hs0))
 try go_frame
 have HS0 : Hid (NoI w m w.heap.size X.length X D (Maps.has D) (Maps.has D) (Maps.size D) (.slice none 0 0) [] w0) := by
  have hb0 := below_grown_none hg0
  refine ⟨hrg0, ⟨rfl, .inl ⟨rfl, rfl⟩⟩, fun a => ?_, List.nodup_nil, hb0, hm, Nat.le_refl _, by omega⟩
  constructor
  ·intro q; cases q
  ·rintro ⟨p, q⟩
   obtain ⟨x, hx, rfl⟩ := List.mem_map.1 p
   rw [(uh HK).has x hx] at q
   cases q
 clear hrg0 hg0 hs0 HO HAl
 go_loopw [5] (fun u y => ∃ left cnt L, NoI w m w.heap.size X.length X D left left cnt u L y) (fun _ y => y.rangeLeft m w.heap.size)
 case atStart => exact ⟨_, _, [], uh HS0⟩
 case round =>
  clear HS0
  obtain ⟨left, cnt, L, hI⟩ := hrel
  have HI := zh hI
  have hshort : L.length <= X.length := by
   have := nodup_len L (X.map (·.1)) hI.nodup (fun k hk => ((hI.mem k).1 hk).1)
   simpa using this
  clear hI
  go_wp2_with (first | (at_next; refine wpList_next_ranges _ rfl _ rfl 3 keyedV ptrElem (Value.int .i64) Value.pointer (fun key kl hkey => by obtain ⟨x, rfl, _⟩ := Maps.keyOf_int_inv Tryz.underlying3 hkey; exact ⟨x, rfl⟩) ptrElem_inv m w.heap.size X.length D left cnt rfl (uh HI).rg ?done ?more))
  case done =>
   intro _ hl0
   obtain ⟨ad, c, rfl⟩ : ∃ ad c, u5 = .slice ad L.length c := row_slice (show World.ownsRow _ _ _ _ _ _ _ from (uh HI).row)
   have HSo := zh (sort_ints L _ wr (w.heap.size + 1) (by omega) (uh HI).row)
   have HE : Hid (sortedI L = sortedI (X.map (·.1))) := sortedI_perm (nodup_perm (uh HI).nodup (uh HNd) (fun x => by rw [(uh HI).mem x]; exact ⟨fun q => q.1, fun q => ⟨q, hl0 _⟩⟩))
   clear hl0
   go_wp2_with fail
   refine (uh HSo).mono ?_
   rintro e W5 ⟨rfl, ho, hg⟩
   have HR : Hid (NextSays w (sortedI (X.map (·.1))) (.returned (.slice ad L.length c)) W5) := by
    rw [<- uh HE]
    refine ⟨_, rfl, rowN_mono ho (by omega), (uh HI).low.trans (keeps_below (keeps_grown hg) (fun i e => ?_) (uh HI).low.size)⟩
    have := (World.ownsRow.lt (uh HI).row i e.symm).1
    omega
   clear ho hg HSo HI
   go_wp2
   go_ret
   exact uh HR
  case more =>
   intro a c kl y ps w1 cnt1 hkey hlx hv hat hrg1 hlt hg1 hs1 hen
   obtain ⟨a', ea, rfl, hwa⟩ := Maps.keyOf_int_inv Tryz.underlying3 hkey
   cases ea
   obtain ⟨b, hx, hc⟩ := (uh HK).met hv hat
   injection hc with hc
   subst hc
   have HL1 := zh ((uh HI).came hg1 hrg1)
   have HB2 := zh (below_box w1 (.cells #[.int .i64 a] 3))
   have HL2 := zh ((uh HL1).below (uh HB2))
   have hcx := cell_new w1 (.int .i64 a) 3
   have HMs := zh hlt
   have HCt := zh (uh HI).rg.left_eq
   have HLk := zh hlx
   have HXa : Hid (a ∈ X.map (·.1)) := List.mem_map.2 ⟨(a, b), hx, rfl⟩
   have hL2 : L.length <= 1000000 := by omega
   have hbs : w.heap.size + 1 <= (w1.alloc (.cells #[.int .i64 a] 3)).heap.size := (uh HL2).rs
   clear hkey hv hat hrg1 hlt hlx hg1 hs1 HI HL1 HB2 hx
   go_wp2_with (first
    | (at_builtin; refine wpList_appN _ rfl (.tmp 26) (.tmp 28) rfl (w.heap.size + 1) _ L rfl (uh HL2).row w1.heap.size a rfl hcx hL2 hbs ?_))
   intro v9 W7 r1 r2
   have HI7 := zh ((uh HL2).add hwa (uh HXa) (uh HLk) r2 r1)
   obtain ⟨ad7, cap7, rfl⟩ := row_slice (show World.ownsRow _ _ _ _ _ _ _ from r1)
   have HCn : Hid (W7.rangeLeft m w.heap.size < wr.rangeLeft m w.heap.size) := by
    have := uh HMs
    show _ < _
    rw [(uh HI7).rg.left_eq, uh HCt]
    omega
   clear r1 r2 HL2 hcx hbs hen
   go_wp2
   go_roundw
   case rel => exact ⟨_, _, _, uh HI7⟩
   case measure => exact uh HCn
theorem encYs_app (l m : List Ky) : encYs (l ++ m) = encYs l ++ encYs m := by simp [encYs]
theorem wpList_appYs (w : World) {ops : Array Oper} {rest : List Oper} {o : Oper} {a : Act} {Q : Exit -> Act -> World -> Prop} (hgd : o.guard = none) (s x : Operand)
  (ho : o.op = .call { callee := .builtin .append, args := #[s, x], argTypes := #[74, 74] })
  (base : Nat) (v : Value) (L : List Ky) (hs : a.eval s = v) (hown : RowY w base v L)
  (ev : Value) (E : List Ky) (hx : a.eval x = ev) (hE : RowY w 0 ev E)
  (hlen : L.length + E.length <= 100000) (hbase : base <= w.heap.size)
  (h : ∀ v' w', RowY w' base v' (L ++ E) -> w.grownBy w' v.ownBlock -> wpList Tryz.prog ops Q rest (a.put o.dst v') w') : wpList Tryz.prog ops Q (o :: rest) a w := by
 obtain ⟨i0, hi0, hz0, hz1, hz2⟩ := info_parts infoY
 rcases (show World.ownsRow _ _ _ _ _ _ _ from hE).2 with ⟨rfl, h0⟩ | ⟨g, cap, cur, rfl, _, hh, _, _, hcs, htake⟩
 ·have hz : E = [] := List.eq_nil_of_length_eq_zero h0
  subst hz
  refine wpList_append_own_none hgd s x 74 ho base 73 i0 4 Tryz.underlying74 hi0 v L.length (encYs L) hs hown hx ?_
  exact h v w (by simpa using hown) ⟨rfl, rfl, rfl, Nat.le_refl _, fun _ _ _ => rfl⟩
 ·refine wpList_append_own w hgd s x 74 ho base 73 i0 (.agg #[.int .i64 0, .int .i64 0, .string ⟨#[]⟩, .int .i64 0]) 4 40 Tryz.underlying74 hi0 hz0 hz1 hz2 rfl (by decide) v L.length (encYs L) hs hown ⟨g, 0, none⟩ E.length cap (encYs E) hx (encYs_length E) ?_ ?_ ?_ ?_ hbase ?_
  ·intro j u hj
   refine World.news_of_block hh j u ?_
   rw [<- htake] at hj
   have hlt : j < E.length * 4 := by
    rcases Nat.lt_or_ge j (E.length * 4) with q | q
    ·exact q
    ·rw [List.getElem?_eq_none (by rw [List.length_take]; omega)] at hj
     cases hj
   rwa [List.getElem?_take_of_lt hlt] at hj
  ·intro u hu
   obtain ⟨k, _, hk⟩ := List.mem_flatMap.1 hu
   simp [encY] at hk
   rcases hk with rfl | rfl | rfl | rfl <;> rfl
  ·unfold maxLen; omega
  ·omega
  ·intro v' w' k1 k2 _
   refine h v' w' ?_ k2
   unfold RowY
   rw [encYs_app, List.length_append]
   exact k1
def EdgesSays (w : World) (L : List Ky) (e : Ending) (w' : World) : Prop := ∃ v, e = .returned v /\ RowY w' w.heap.size v L /\ Below w.heap.size w w'
theorem flat_take {N : List Int} {E : Int -> List Ky} {j : Nat} (h : j < N.length) : (N.take (j + 1)).flatMap E = (N.take j).flatMap E ++ E N[j] := by
 rw [List.take_succ_eq_append_getElem h, List.flatMap_append]
 simp
theorem flat_le {N : List Int} {E : Int -> List Ky} (j : Nat) : ((N.take j).flatMap E).length <= (N.flatMap E).length := by
 have e : N.flatMap E = (N.take j).flatMap E ++ (N.drop j).flatMap E := by rw [<- List.flatMap_append, List.take_append_drop]
 rw [e, List.length_append]
 omega
theorem rowY_mono {w : World} {base base' : Nat} {v : Value} {L : List Ky} (h : RowY w base v L) (hb : base' <= base) : RowY w base' v L :=
 ⟨h.1, h.2.imp id fun ⟨g, cap, cur, h1, h2, h3⟩ => ⟨g, cap, cur, h1, Nat.le_trans hb h2, h3⟩⟩
theorem edges_ok {w : World} {g m : Nat} {X : List (Int × Nat)} {Nd : Nat -> Gn} {Fs : Nat -> Nat -> Prop} (h : GraphX w g m X Nd Fs) (hw : ∀ a, a ∈ X.map (·.1) -> (Lit.int .i64 a).wf = true) (hX : X.length <= 4000) (E : Int -> List Ky) (hE : ∀ x, x ∈ X -> (Nd x.2).edges = E x.1) (hT : ((sortedI (X.map (·.1))).flatMap E).length <= 4000) :
  Calls Tryz.prog 46 #[.pointer (some ⟨g, 0, none⟩)] w (EdgesSays w ((sortedI (X.map (·.1))).flatMap E)) := by
 have HNo := zh (nodes_ok h hw hX)
 have HG := zh h
 have HW := zh hw
 have HE := zh hE
 have HT := zh hT
 have hnl : (sortedI (X.map (·.1))).length <= 4000 := by rw [sortedI_length, List.length_map]; exact hX
 have HMm : Hid (∀ a, a ∈ sortedI (X.map (·.1)) -> a ∈ X.map (·.1)) := fun a ha => (List.mergeSort_perm _ _).mem_iff.1 ha
 generalize sortedI (X.map (·.1)) = N at *
 clear h hw hE hT
 go_enter Tryz.func46, Tryz.ntmps46
 go_wp2_with fail
 refine (uh HNo).mono ?_
 rintro e W1 ⟨v, rfl, hr, hb⟩
 obtain ⟨ng, ad, cn, rfl, hf⟩ := hr.cells
 have HF := zh hf
 have HB := zh hb
 clear hr hf hb HNo
 go_wp2
 go_loopw [3, 9] (fun o k y => ∃ j : Nat, j <= N.length /\ k = .int .i64 j /\ RowY y W1.heap.size o ((N.take j).flatMap E) /\ Below W1.heap.size W1 y) (fun _ k _ => N.length - (intOf k).toNat)
 case atStart => exact ⟨0, Nat.zero_le _, rfl, ⟨rfl, .inl ⟨rfl, rfl⟩⟩, Below.refl _ _⟩
 case round =>
  obtain ⟨j, hj, rfl, hro, hbz⟩ := hrel
  have HRo := zh hro
  have HBz := zh hbz
  obtain ⟨ado, co, rfl⟩ := row_slice (show World.ownsRow _ _ _ _ _ _ _ from hro)
  clear hro hbz
  by_cases hlt : j < N.length
  ·have hlt' : (j : Int) < (N.length : Int) := by omega
   have hj0 : (0 : Int) <= (j : Int) := by omega
   obtain ⟨rfl, hca⟩ := uh HF j hlt
   have HTk : Hid ((N.take (j + 1)).flatMap E = (N.take j).flatMap E ++ E N[j]) := flat_take hlt
   have hle := flat_le (N := N) (E := E) (j + 1)
   rw [uh HTk, List.length_append] at hle
   have hle2 : ((N.take j).flatMap E).length + (E N[j]).length <= 100000 := Nat.le_trans hle (Nat.le_trans (uh HT) (by decide))
   have HMa := zh (uh HMm _ (List.getElem_mem hlt))
   obtain ⟨a, ha⟩ : ∃ a, a = N[j] := ⟨_, rfl⟩
   rw [<- ha] at hca HTk hle2 HMa
   clear ha hle
   have hcy := there_at hca (uh HBz)
   obtain ⟨⟨a', bx⟩, hx, e⟩ := List.mem_map.1 (uh HMa)
   obtain rfl : a' = a := e
   have HGy := zh ((uh HG).below ((uh HB).trans ((uh HBz).mono (uh HB).size)))
   have hlk := lookG_at (uh HGy).map (a', bx) (uh HW a' (uh HMa)) hx
   have hcg := (uh HGy).c0
   obtain ⟨ev, pv, hN, _⟩ := (uh HGy).node (a', bx) hx
   have hc1 := hN.c1
   have HRe := zh hN.re
   rw [uh HE (a', bx) hx] at HRe
   dsimp only at hlk hc1 HRe
   have hbs := (uh HBz).size
   clear hN hca HGy hx
   generalize (N.take j).flatMap E = Lj at *
   generalize E a' = Ea at *
   go_wp2_with (first
    | (at_builtin; refine wpList_appYs _ rfl (.tmp 13) (.tmp 22) rfl W1.heap.size _ Lj rfl (uh HRo) ev Ea rfl (uh HRe) hle2 hbs ?_))
   intro v9 W7 r1 r2
   have HR7 := zh r1
   have HB7 := zh ((uh HBz).trans (keeps_below (keeps_grown r2) (fun i e => (World.ownsRow.lt (uh HRo) i e.symm).1) hbs))
   clear r1 r2 HRo HBz hcy hlk hcg hc1 HRe hbs
   go_wp2
   go_roundw
   case rel => exact ⟨j + 1, by omega, by go_num, by rw [uh HTk]; exact uh HR7, uh HB7⟩
   case measure => simp [intOf]; omega
  ·obtain rfl : j = N.length := by omega
   have hlt' : ¬ (N.length : Int) < (N.length : Int) := by omega
   rw [List.take_length] at HRo ⊢
   generalize hNE : N.flatMap E = NE at *
   have HFi : Hid (EdgesSays w NE (.returned (.slice ado NE.length co)) wr) := ⟨_, rfl, rowY_mono (uh HRo) (uh HB).size, (uh HB).trans ((uh HBz).mono (uh HB).size)⟩
   clear HRo HBz
   go_wp2
   go_ret
   exact uh HFi
theorem sorts_in (m : Nat) : AnyZI.SortsIn Tryz.prog Tryz.sortedI_ren Fence.wide m :=
  ⟨fun blk off cap ss W hH hblk hsz => callsIn_wide.2 (Any.slices_Sort_int Tryz.lays189 blk off cap ss W hH hblk hsz),
   fun p cap W => callsIn_wide.2 (Any.slices_Sort_int_none Tryz.lays189 p cap W)⟩
theorem came_perm {w : World} {m : Nat} {C : List (Int × Int)} {D : DataW Unit} (h : w.ownsMap Tryz.prog 3 numE m C.length D) (k : KeysC D C) (hn : (C.map (·.1)).Nodup) : (C.map (·.1)).Perm (intKeys D) :=
 CollectedI.perm (left := fun _ => false) ⟨hn, fun x => by rw [k.has]; simp⟩ h keyedV Tryz.underlying3 (fun _ => rfl)
def HopsSay (w : World) (l : List Int) (e : Ending) (w' : World) : Prop := ∃ v, e = .returned (.tuple #[v, .nilIface]) /\ RowN w' w.heap.size v (sortedI l) /\ Below w.heap.size w w'
theorem sorted_keys {W : World} {mb : Nat} {C : List (Int × Int)} (h : CameW W mb C) (hn : (C.map (·.1)).Nodup) (hl : C.length <= 1000000) :
  Calls Tryz.prog 105 #[.func (.func 147) #[] #[.pointer (some ⟨W.heap.size, 0, none⟩)]] (W.alloc (.cells #[.map (some mb)] 158)) fun e w' => ∃ v, e = .returned v /\ RowN w' W.heap.size v (sortedI (C.map (·.1))) /\ Below W.heap.size W w' := by
 obtain ⟨D, hoD, hKD⟩ := h
 have hlt := hoD.lt
 have hsz : Maps.size D = C.length := hKD.size
 have hseq : SeqGives Fence.wide 2 Tryz.prog 147 #[.pointer (some ⟨W.heap.size, 0, none⟩)] encZ (fun ss => ss.Perm (intKeys D)) (Maps.size D) (W.alloc (.cells #[.map (some mb)] 158)) :=
  AnyZI.keys_gives (ρ := Tryz.keysI_ren) { Tryz.keysI with } Fence.wide _ trivial rfl (by omega) W.heap.size mb C.length D _ (by simp) (by simp) (by
   obtain ⟨es, clock, hb, Ft, hs, hD⟩ := hoD
   exact ⟨es, clock, (Below.heap_alloc _ _ mb hlt).trans hb, Ft, hs, hD⟩)
 have cS := AnyZI.sorted_in Tryz.sortedI Fence.wide 5 trivial trivial trivial trivial rfl (by omega) (sorts_in _) (enters_of Tryz.func112 (by kernel_rfl) rfl) 147 #[.pointer (some ⟨W.heap.size, 0, none⟩)] trivial (enters_of Tryz.func147 (by kernel_rfl) rfl) _ _ (by rw [hsz]; unfold maxLen; omega) (by rw [hsz]; omega) _ hseq
 change CallsIn _ _ Tryz.prog 105 _ _ _ at cS
 refine ((callsIn_wide (n := 5)).1 cS).mono ?_
 rintro e w' ⟨v, ss, rfl, hS, hrow, _, hb⟩
 refine ⟨v, rfl, ?_, ((Below.refl _ W).alloc zr _).trans (hb.mono (by simp))⟩
 have e1 : sortedI (C.map (·.1)) = sortedI ss := sortedI_perm ((came_perm hoD hKD hn).trans hS.symm)
 rw [e1]
 unfold RowN
 rw [sortedI_length]
 exact ownsRow_rebase hrow (by simp)
theorem keys_seq (mb : Option Nat) (W : World) : Calls Tryz.prog 106 #[.map mb] W fun e w' => e = .returned (.func (.func 147) #[] #[.pointer (some ⟨W.heap.size, 0, none⟩)]) /\ w' = W.alloc (.cells #[.map mb] 158) :=
 (callsIn_wide (n := 5)).1 (AnyZI.keys_in Tryz.keysI Fence.wide 5 trivial rfl mb W)
theorem hops_ok {w : World} {g m : Nat} {X : List (Int × Nat)} {Nd : Nat -> Gn} {Fs : Nat -> Nat -> Prop} {word : ByteArray} {nx : Int -> List Int} (h : SpT w g m X Nd Fs word nx) (n : Int) (hn : n ∈ X.map (·.1)) (H : Nat) (hH : H <= 1048576) :
  Calls Tryz.prog 59 #[.pointer (some ⟨g, 0, none⟩), .int .i64 n, .string word, .int .i64 H] w (HopsSay w (cameK nx n H)) := by
 have HSp := zh (spread_ok h n hn H (by omega))
 have HAl := zh (all_ok h.gx.c0)
 obtain ⟨⟨n', bx⟩, hxm, e⟩ := List.mem_map.1 hn
 obtain rfl : n' = n := e
 have hlx := lookG_at h.gx.map (n', bx) (h.wf n' hn) hxm
 dsimp only at hlx
 have hc0 := h.gx.c0
 have HNd := zh (came_nodup nx n' H)
 have HLn : Hid ((rounds nx n' H).1.length <= 1000000) := by
  have q := (Good.rounds h.closed hn H).len
  rw [List.length_map] at q
  have := h.len
  show _ <= _
  omega
 have h0 : ¬ (H : Int) < 0 := by omega
 have h1 : ¬ (1048576 : Int) < (H : Int) := by omega
 clear h hxm hn
 go_enter Tryz.func59, Tryz.ntmps59
 go_wp2_with fail
 refine (uh HAl).mono ?_
 rintro e w1 ⟨rfl, rfl⟩
 go_wp2_with fail
 refine (uh HSp).mono ?_
 rintro e W1 ⟨mb, rfl, hmb, hca, hb1⟩
 have HB1 := zh hb1
 have HSk := zh (sorted_keys hca (uh HNd) (uh HLn))
 clear hca hb1 hmb hlx hc0 HSp HAl h0 h1
 go_wp2_with fail
 refine (keys_seq _ _).mono ?_
 rintro e W2 ⟨rfl, rfl⟩
 go_wp2_with fail
 refine (uh HSk).mono ?_
 rintro e W3 ⟨v, rfl, hr, hb3⟩
 have HF : Hid (HopsSay w1 (cameK nx n' H) (.returned (.tuple #[v, .nilIface])) W3) := ⟨v, rfl, rowN_mono hr (uh HB1).size, (uh HB1).trans (hb3.mono (uh HB1).size)⟩
 obtain ⟨ad, c, rfl⟩ := row_slice (show World.ownsRow _ _ _ _ _ _ _ from hr)
 clear hr hb3 HSk HB1
 go_wp2
 go_ret2
 exact uh HF
end Go.Proofs.YtbmkmfoaoganeaaGreatDoor
