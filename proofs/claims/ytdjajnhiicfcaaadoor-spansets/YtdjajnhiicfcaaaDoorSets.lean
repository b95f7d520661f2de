/- The statement on sets, walked. -/
import Derived.Test.YtdjajnhiicfcaaaDoorSetsBad
import Derived.Deep.RegionHeld3
namespace Go.Proofs.YtdjajnhiicfcaaaDoor
open Go.RowKit Palim

theorem keep15 {W0 W W' : World} {B : Nat} {v : Value} (hB : B < W0.heap.size) (h : W.cell? ⟨B, 0, none⟩ = some v ∧ Below W0.heap.size W0 W) (b : Below W.heap.size W W') : W'.cell? ⟨B, 0, none⟩ = some v ∧ Below W0.heap.size W0 W' :=
  ⟨(b.cell (p := ⟨B, 0, none⟩) (Nat.lt_of_lt_of_le hB h.2.size)).trans h.1, h.2.trans (b.mono h.2.size)⟩

theorem below15 {W0 W : World} {B : Nat} {v : Value} (h : W.cell? ⟨B, 0, none⟩ = some v ∧ Below W0.heap.size W0 W) : Below W0.heap.size W0 W := h.2

theorem same_yes {w : World} {base base2 : Nat} {e e2 : TypeId} {v v2 : Value} {l : List (Int × Int)} (hl : l.length < 1099511627776) (h : w.ownsRow base e 2 v l.length (encs l)) (h2 : w.ownsRow base2 e2 2 v2 l.length (encs l)) :
    Calls Tryd.prog 9 #[v, v2] w fun e w' => e = .returned (.bool true) ∧ Below w.heap.size w w' := by
  refine (sameSpans_yes hl h h2).mono ?_
  rintro e w' ⟨rfl, n, rfl⟩
  exact ⟨rfl, below_drewN (Below.refl _ _) n⟩

theorem ownsRow_zero {w : World} {base : Nat} {e : TypeId} {size : Nat} {v : Value} {n : Nat} {xs : List Value} (h : w.ownsRow base e size v n xs) : w.ownsRow 0 e size v n xs := by
  obtain ⟨h1, h2⟩ := h
  refine ⟨h1, ?_⟩
  rcases h2 with h2 | ⟨g, cap, cur, hv, hg, r⟩
  · exact .inl h2
  · exact .inr ⟨g, cap, cur, hv, Nat.zero_le _, r⟩

/-- Both lists' sides, in order. -/
theorem ends_two (p q : List (Int × Int)) (vp vq : Value) (w : World) {b1 b2 : Nat} (hl : p.length + q.length < 1099511627) (hp : w.ownsRow b1 29 2 vp p.length (encs p)) (hq : w.ownsRow b2 29 2 vq q.length (encs q)) :
    Calls Tryd.prog 13 #[.slice (some ⟨w.heap.size, 0, none⟩) 2 2] (w.alloc (.cells #[vp, vq] 22)) fun e w' =>
      ∃ v, e = .returned v ∧ w'.ownsRow 0 3 1 v (sorted (sides p ++ sides q)).length ((sorted (sides p ++ sides q)).map (Value.int .i64)) ∧ Below w.heap.size w w' := by
  have hs : allSides [p, q] = sides p ++ sides q := by simp [allSides]
  have h := ref_Ends [p, q] (fun i => if i = 0 then vp else vq) w.heap.size 2 0 (w.alloc (.cells #[vp, vq] 22)) (by simp) (by simp) (by rw [hs, List.length_append, sides_length, sides_length]; omega) ?_ ?_
  · rw [hs] at h
    refine h.mono ?_
    rintro e w' ⟨v, rfl, o, b⟩
    exact ⟨v, rfl, ownsRow_zero o, ((Below.refl _ _).alloc (Nat.le_refl _) _).trans (b.mono (by simp))⟩
  · intro i hi
    rcases i with _ | _ | i
    · simp
    · simp
    · simp at hi; omega
  · intro i hi
    rcases i with _ | _ | i
    · exact (ownsRow_zero hp).alloc _
    · exact (ownsRow_zero hq).alloc _
    · simp at hi; omega

/-- What the last loop finds in each round: two boxes of lists, two sets, all ends. -/
def Caught2 (W : World) (P Q : Nat) (p q : List (Int × Int)) (s s2 : Nat) (v : Value) : Prop :=
  (∃ vp vq, W.cell? ⟨P, 0, none⟩ = some vp ∧ W.cell? ⟨Q, 0, none⟩ = some vq ∧ Reads W vp p ∧ Reads W vq q ∧ P < W.heap.size ∧ Q < W.heap.size) ∧
  IsSet W (.pointer (some ⟨s, 0, none⟩)) p ∧ IsSet W (.pointer (some ⟨s2, 0, none⟩)) q ∧ W.ownsRow 0 3 1 v (sorted (sides p ++ sides q)).length ((sorted (sides p ++ sides q)).map (Value.int .i64))

theorem Caught2.carry {W W' : World} {P Q : Nat} {p q : List (Int × Int)} {s s2 : Nat} {v : Value} (h : Caught2 W P Q p q s s2 v) (hb : Below W.heap.size W W') : Caught2 W' P Q p q s s2 v := by
  obtain ⟨⟨vp, vq, h1, h2, h3, h4, h5, h6⟩, h7, h8, h9⟩ := h
  exact ⟨⟨vp, vq, (hb.cell (p := ⟨P, 0, none⟩) h5).trans h1, (hb.cell (p := ⟨Q, 0, none⟩) h6).trans h2, h3.carry hb, h4.carry hb, Nat.lt_of_lt_of_le h5 hb.size, Nat.lt_of_lt_of_le h6 hb.size⟩, h7.carry hb, h8.carry hb, ownsRow_carry h9 hb⟩

theorem Caught2.caught {W : World} {P Q K : Nat} {p q : List (Int × Int)} {s s2 : Nat} {v : Value} {k : Nat} (h : Caught2 W P Q p q s s2 v) (hk : W.cell? ⟨K, 0, none⟩ = some (.int .i64 k)) (hK : K < W.heap.size) : Caught W P Q K p q k := by
  obtain ⟨⟨vp, vq, h1, h2, h3, h4, h5, h6⟩, _⟩ := h
  exact ⟨vp, vq, h1, h2, hk, h3, h4, h5, h6, hK⟩

theorem caught2_of {W W' : World} {P Q : Nat} {p q : List (Int × Int)} {s s2 : Nat} {v vp vq : Value} {b1 b2 : Nat} (hP : P < W.heap.size) (hQ : Q < W.heap.size) (h1 : W.cell? ⟨P, 0, none⟩ = some vp) (h2 : W.cell? ⟨Q, 0, none⟩ = some vq)
    (o1 : W.ownsRow b1 29 2 vp p.length (encs p)) (o2 : W.ownsRow b2 29 2 vq q.length (encs q)) (s1 : IsSet W (.pointer (some ⟨s, 0, none⟩)) p) (t1 : IsSet W (.pointer (some ⟨s2, 0, none⟩)) q) (hb : Below W.heap.size W W')
    (ho : W'.ownsRow 0 3 1 v (sorted (sides p ++ sides q)).length ((sorted (sides p ++ sides q)).map (Value.int .i64))) : Caught2 W' P Q p q s s2 v :=
  ⟨⟨vp, vq, (hb.cell (p := ⟨P, 0, none⟩) hP).trans h1, (hb.cell (p := ⟨Q, 0, none⟩) hQ).trans h2, (reads_own o1).carry hb, (reads_own o2).carry hb, Nat.lt_of_lt_of_le hP hb.size, Nat.lt_of_lt_of_le hQ hb.size⟩, s1.carry hb, t1.carry hb, ho⟩

theorem box_stored0 {w1 wr : World} {x y u v : Int} (hb : Below (w1.heap.size + 1) (w1.alloc (.cells #[.int .i64 x, .int .i64 y] 25)) wr) :
    ((wr.setCell ⟨w1.heap.size, 0, none⟩ (.int .i64 u)).setCell ⟨w1.heap.size, 1, none⟩ (.int .i64 v)).cell? ⟨w1.heap.size, 0, none⟩ = some (.int .i64 u) ∧
    ((wr.setCell ⟨w1.heap.size, 0, none⟩ (.int .i64 u)).setCell ⟨w1.heap.size, 1, none⟩ (.int .i64 v)).cell? ⟨w1.heap.size, 1, none⟩ = some (.int .i64 v) ∧
    Below w1.heap.size w1 ((wr.setCell ⟨w1.heap.size, 0, none⟩ (.int .i64 u)).setCell ⟨w1.heap.size, 1, none⟩ (.int .i64 v)) := by
  have h1 : Below w1.heap.size w1 wr := ((Below.refl _ _).alloc (Nat.le_refl _) _).trans (hb.mono (by omega))
  have hh : wr.heap[w1.heap.size]? = some (.cells #[.int .i64 x, .int .i64 y] 25 (0, 0)) := by
    rw [hb.block w1.heap.size (by omega)]
    exact heap_alloc_new w1 _
  have h2 := heap_setCell_same _ w1.heap.size 0 _ 25 (.int .i64 u) hh
  have h3 := heap_setCell_same _ w1.heap.size 1 _ 25 (.int .i64 v) h2
  refine ⟨?_, ?_, ?_⟩
  · simp only [World.cell?, h3]; simp
  · simp only [World.cell?, h3]; simp
  · exact (h1.setCell (Nat.le_refl _) _).setCell (Nat.le_refl _) _

/-- The count in its box, as the last loop holds it. -/
def Box3 (w0 : World) (iv : Value) (wq : World) : Prop :=
  ∃ K k : Nat, iv = .pointer (some ⟨K, 0, none⟩) ∧ k ≤ 3 ∧ w0.heap.size ≤ K ∧ K < wq.heap.size ∧ wq.cell? ⟨K, 0, none⟩ = some (.int .i64 k) ∧ Below w0.heap.size w0 wq

def kOf (v : Value) (w : World) : Nat := match v with
  | .pointer (some a) => match w.cell? a with
    | some x => (intOf x).toNat
    | none => 0
  | _ => 0

theorem box3_start (w : World) : Box3 w (.pointer (some ⟨w.heap.size, 0, none⟩)) (w.alloc (.cells #[.int .i64 0] 3)) :=
  ⟨w.heap.size, 0, rfl, by omega, Nat.le_refl _, by simp, by simp, (Below.refl _ _).alloc (Nat.le_refl _) _⟩

theorem box3_turn {w0 w wr : World} {K : Nat} (k : Nat) {x y : Int} (hk : k ≤ 2) (hx : x = k) (hy : y = (k : Int) + 1) (b : Below w0.heap.size w0 w) (ck : wr.cell? ⟨K, 0, none⟩ = some (.int .i64 x)) :
    Box3 w0 (.pointer (some ⟨w.heap.size, 0, none⟩)) (w.alloc (.cells #[.int .i64 y] 3)) ∧ 3 - kOf (.pointer (some ⟨w.heap.size, 0, none⟩)) (w.alloc (.cells #[.int .i64 y] 3)) < 3 - kOf (.pointer (some ⟨K, 0, none⟩)) wr := by
  subst hx hy
  have h1 : (w.alloc (.cells #[.int .i64 ((k : Int) + 1)] 3)).cell? ⟨w.heap.size, 0, none⟩ = some (.int .i64 ((k + 1 : Nat) : Int)) := by simp
  refine ⟨⟨w.heap.size, k + 1, rfl, by omega, b.size, by simp, h1, b.alloc b.size _⟩, ?_⟩
  simp only [kOf, h1, ck, intOf]
  omega

/-- What is left of the wanted times. -/
theorem where_kf {W : World} {P Q K : Nat} {p q : List (Int × Int)} {s s2 : Nat} {v : Value} (k : Nat) (hk : k = 0 ∨ k = 1 ∨ k = 2) (hp : p.length ≤ 60) (hq : q.length ≤ 60) (h : Caught2 W P Q p q s s2 v) (hc : W.cell? ⟨K, 0, none⟩ = some (.int .i64 k)) (hK : K < W.heap.size) :
    Calls Tryd.prog 14 #[v, .func (.func 15) #[] #[.pointer (some ⟨P, 0, none⟩), .pointer (some ⟨Q, 0, none⟩), .pointer (some ⟨K, 0, none⟩)]] W fun e w' =>
      ∃ R, Canon R ∧ (∀ t, In R t ↔ kf k (inL p t) (inL q t) = true) ∧ ∃ ad cap, e = .returned (.slice ad R.length cap) ∧ w'.ownsRow W.heap.size 29 2 (.slice ad R.length cap) R.length (encs R) ∧ Below W.heap.size W w' := by
  have k0 : kf k false false = false := by rcases hk with rfl | rfl | rfl <;> rfl
  have g := go_sorted (fun t => kf k (inL p t) (inL q t)) (sides p ++ sides q)
    (fun x y hxy hn => by
      show kf k (inL p x) (inL q x) = kf k (inL p y) (inL q y)
      rw [inL_steps p x y hxy fun e he => hn e (List.mem_append_left _ he), inL_steps q x y hxy fun e he => hn e (List.mem_append_right _ he)])
    (fun x hn => by
      show kf k (inL p x) (inL q x) = false
      rw [inL_low p x fun e he => hn e (List.mem_append_left _ he), inL_low q x fun e he => hn e (List.mem_append_right _ he), k0])
    (fun x hn => by
      show kf k (inL p x) (inL q x) = false
      rw [inL_high p x fun e he => hn e (List.mem_append_left _ he), inL_high q x fun e he => hn e (List.mem_append_right _ he), k0])
  have hs := caught_says (by omega) (by omega) hk (h.caught hc hK)
  have eg : ∀ args w, (callFunc 15 args).run Tryd.prog w = .ok (.enter 15 args) w := enters_of Tryd.func15 (by kernel_rfl) rfl
  refine (ref_Where _ _ 15 _ 0 v W (by rw [sorted_length, List.length_append, sides_length, sides_length]; omega) eg h.2.2.2 hs).mono ?_
  rintro e w' ⟨u, rfl, o, b⟩
  refine ⟨_, g.1, g.2, ?_⟩
  have hv : ∃ ad cap, u = .slice ad (go (fun t => kf k (inL p t) (inL q t)) (sorted (sides p ++ sides q)) none).length cap := by
    rcases o.2 with ⟨h0, h1⟩ | ⟨g, cap, _, h0, _⟩
    · exact ⟨none, 0, by rw [h0, h1]⟩
    · exact ⟨_, cap, h0⟩
  obtain ⟨ad, cap, rfl⟩ := hv
  exact ⟨ad, cap, rfl, o, b⟩

theorem isSet_ptr {w : World} {v : Value} {l : List (Int × Int)} (h : IsSet w v l) : ∃ s, v = .pointer (some ⟨s, 0, none⟩) := by
  obtain ⟨s, _, _, h, _⟩ := h
  exact ⟨s, h⟩

theorem makes_is {w w' : World} {f : Bool → Bool → Bool} {a b R : List (Int × Int)} {e : Ending} (hm : Makes w f a b e w') (hc : Canon R) (hi : ∀ t, In R t ↔ f (inL a t) (inL b t) = true) (hl : R.length ≤ 60) :
    ∃ c, e = .returned (.tuple #[.pointer (some ⟨c, 0, none⟩), .nilIface]) ∧ IsSet w' (.pointer (some ⟨c, 0, none⟩)) R ∧ Below w.heap.size w w' := by
  obtain ⟨U, uc, _, ui, _, b, h⟩ := hm
  have : U = R := canon_eq U R uc hc fun t => (ui t).trans (hi t).symm
  subst this
  rcases h with ⟨_, s, rfl, hs⟩ | ⟨h, _⟩
  · obtain ⟨c, rfl⟩ := isSet_ptr hs
    exact ⟨c, rfl, hs, b⟩
  · omega

theorem makes_not {w w' : World} {f : Bool → Bool → Bool} {a b R : List (Int × Int)} {e : Ending} (hm : Makes w f a b e w') (hc : Canon R) (hi : ∀ t, In R t ↔ f (inL a t) (inL b t) = true) (hl : 60 < R.length) :
    e = .returned (.tuple #[.pointer none, .iface 23 (.int .i64 4)]) ∧ Below w.heap.size w w' := by
  obtain ⟨U, uc, _, ui, _, b, h⟩ := hm
  have : U = R := canon_eq U R uc hc fun t => (ui t).trans (hi t).symm
  subst this
  rcases h with ⟨h, _⟩ | ⟨_, h⟩
  · omega
  · exact ⟨h, b⟩

theorem makes_any {w w' : World} {f : Bool → Bool → Bool} {a b : List (Int × Int)} {e : Ending} (hm : Makes w f a b e w') : ∃ x y, e = .returned (.tuple #[x, y]) ∧ Below w.heap.size w w' := by
  obtain ⟨_, _, _, _, _, b, h⟩ := hm
  rcases h with ⟨_, s, rfl, _⟩ | ⟨_, rfl⟩
  · exact ⟨_, _, rfl, b⟩
  · exact ⟨_, _, rfl, b⟩

set_option maxRecDepth 100000 in
set_option maxHeartbeats 16000000 in
theorem sets_small (l m : List (Int × Int)) (vx vy : Value) (t : Int) (w : World) (hl : l.length ≤ 90) (hm : m.length ≤ 90) (hr : ∀ x, x ∈ l → rightB x.1 x.2 = true) (rx : Reads w vx l) (ry : Reads w vy m) (hg : ErrorType w) :
    Calls Tryd.prog 3 #[vx, vy, .int .i64 t] w fun e w' => e = .returned (.bool true) ∧ Below w.heap.size w w' := by
  have mixed : Tryd.prog.follows .mixedOrders = true := by kernel_rfl
  have RX := hide rx
  have RY := hide ry
  have HG := hide hg
  have HR := hide hr
  have hsx : ∃ ad cap, vx = .slice ad l.length cap ∧ ∀ W, Below w.heap.size w W → ∀ k, (hk : k < l.length) → ∃ b off, ad = some ⟨b, off, none⟩ ∧ W.cell? ⟨b, off + k * 2, none⟩ = some (.int .i64 l[k].1) ∧ W.cell? ⟨b, off + k * 2 + 1, none⟩ = some (.int .i64 l[k].2) := by
    obtain ⟨ad, cap, h1, h2⟩ := rx
    refine ⟨ad, cap, h1, fun W hW k hk => ?_⟩
    rcases h2 with rfl | ⟨b, off, rfl, h4, h5⟩
    · simp at hk
    · exact ⟨b, off, rfl, (hW.cell (p := ⟨b, off + k * 2, none⟩) h4).trans (h5 k hk).1, (hW.cell (p := ⟨b, off + k * 2 + 1, none⟩) h4).trans (h5 k hk).2⟩
  have hsy : ∃ ad cap, vy = .slice ad m.length cap ∧ ∀ W, Below w.heap.size w W → ∀ k, (hk : k < m.length) → ∃ b off, ad = some ⟨b, off, none⟩ ∧ W.cell? ⟨b, off + k * 2, none⟩ = some (.int .i64 m[k].1) ∧ W.cell? ⟨b, off + k * 2 + 1, none⟩ = some (.int .i64 m[k].2) := by
    obtain ⟨ad, cap, h1, h2⟩ := ry
    refine ⟨ad, cap, h1, fun W hW k hk => ?_⟩
    rcases h2 with rfl | ⟨b, off, rfl, h4, h5⟩
    · simp at hk
    · exact ⟨b, off, rfl, (hW.cell (p := ⟨b, off + k * 2, none⟩) h4).trans (h5 k hk).1, (hW.cell (p := ⟨b, off + k * 2 + 1, none⟩) h4).trans (h5 k hk).2⟩
  obtain ⟨adx, capx, rfl, hcx⟩ := hsx
  obtain ⟨ady, capy, rfl, hcy⟩ := hsy
  have HCX := hide hcx
  have HCY := hide hcy
  have HBR := hide (ref_Bare 0 w)
  clear rx ry hg hr hcx hcy
  go_enter Tryd.func3, Tryd.ntmps3
  go_wp2_with fail
  refine (unhide HBR).mono ?_
  rintro e w1 ⟨rfl, b1⟩
  have B1 := hide b1
  have hz1 := b1.size
  clear b1 HBR
  go_wp2
  go_loopw [8] (fun iv wr => ∃ k : Nat, iv = .int .i64 k ∧ k ≤ l.length ∧ Below (w1.heap.size + 1) (w1.alloc (.cells #[.int .i64 0, .int .i64 (-1)] 25)) wr) (fun iv _ => l.length - (intOf iv).toNat)
  case atStart => exact ⟨0, rfl, Nat.zero_le _, Below.refl _ _⟩
  case round =>
    obtain ⟨k, rfl, hk, hb⟩ := hrel
    have hbw : Below w.heap.size w wr := (unhide B1).trans (((Below.refl _ _).alloc hz1 _).trans (hb.mono (by omega)))
    have f0 : wr.cell? ⟨w1.heap.size, 0, none⟩ = some (.int .i64 0) := (hb.cell (p := ⟨w1.heap.size, 0, none⟩) (by show w1.heap.size < _; omega)).trans (by simp)
    have f1 : wr.cell? ⟨w1.heap.size, 1, none⟩ = some (.int .i64 (-1)) := (hb.cell (p := ⟨w1.heap.size, 1, none⟩) (by show w1.heap.size < _; omega)).trans (by simp)
    have hzr : w1.heap.size < wr.heap.size := by have := hb.size; simp at this; omega
    by_cases hlt : k < l.length
    · obtain ⟨b, off, rfl, c0, c1⟩ := unhide HCX wr hbw k hlt
      have hR := fun W => ref_Right l[k].1 l[k].2 W
      rw [unhide HR l[k] (List.getElem_mem hlt)] at hR
      have HRk := hide hR
      have HBB := hide hb
      clear hR hbw hb HCX HCY
      generalize l[k].1 = x1 at c0 HRk
      generalize l[k].2 = x2 at c1 HRk
      go_wp2_with fail
      refine (unhide HRk _).mono ?_
      rintro e w2 ⟨rfl, hw2⟩
      subst hw2
      go_wp2
      go_roundw
      case rel => exact ⟨k + 1, by go_num, by omega, (unhide HBB).alloc (by omega) _⟩
      case measure => simp [intOf]; omega
    · have g0 : wr.frozen? ⟨w1.heap.size, 0, none⟩ = false := (hb.frozen (p := ⟨w1.heap.size, 0, none⟩) (by show w1.heap.size < _; omega)).trans (by simp)
      have g1 : wr.frozen? ⟨w1.heap.size, 1, none⟩ = false := (hb.frozen (p := ⟨w1.heap.size, 1, none⟩) (by show w1.heap.size < _; omega)).trans (by simp)
      have HRO := hide (ref_Of l _ wr (by omega) ((unhide RX).carry hbw))
      have BR := hide hbw
      have HBB := hide hb
      clear hb hbw HCX
      go_wp2_with fail
      refine (unhide HRO).mono ?_
      rintro e w3 ⟨R, rc, ri, rlen, v3, rfl, o3, b3⟩
      have hv3 : ∃ ad cap, v3 = .slice ad R.length cap := by
        rcases o3.2 with ⟨h0, h1⟩ | ⟨g, cap, _, h0, _⟩
        · exact ⟨none, 0, by rw [h0, h1]⟩
        · exact ⟨_, cap, h0⟩
      obtain ⟨ad3, cap3, rfl⟩ := hv3
      have q0 := (b3.cell (p := ⟨w1.heap.size, 0, none⟩) hzr).trans f0
      have q1 := (b3.cell (p := ⟨w1.heap.size, 1, none⟩) hzr).trans f1
      have s0 := (b3.frozen (p := ⟨w1.heap.size, 0, none⟩) hzr).trans g0
      have s1 := (b3.frozen (p := ⟨w1.heap.size, 1, none⟩) hzr).trans g1
      have hz3 := Nat.lt_of_lt_of_le hzr b3.size
      have HB3 := hide ((unhide HBB).trans (b3.mono hzr))
      have B3 := hide ((unhide BR).trans (b3.mono (unhide BR).size))
      have B4 : Hid (Below w.heap.size w (w3.alloc (.cells #[.slice ad3 R.length cap3] 22))) := (unhide B3).alloc (unhide B3).size _
      have O3 := hide o3
      have RC := hide rc
      have RI := hide ri
      clear o3 b3 HRO BR f0 f1 g0 g1 rc ri
      by_cases hbig : R.length ≤ 60
      · have HOF := hide (of_reads l _ (w3.alloc (.cells #[.slice ad3 R.length cap3] 22)) (by omega) (unhide HR) ((unhide RX).carry B4.out))
        have hb60 : decide ((60 : Int) < (R.length : Int)) = false := decide_eq_false (by omega)
        go_wp2_with fail
        refine (unhide HOF).mono ?_
        rintro e w5 ⟨R2, hj, b5, hres⟩
        have hRR : R2 = R := canon_eq R2 R hj.1 (unhide RC) (fun t => (hj.2.2.1 t).trans (unhide RI t).symm)
        subst hRR
        rcases hres with ⟨_, s, rfl, hs⟩ | ⟨hbb, _⟩
        · obtain ⟨s, rfl⟩ := isSet_ptr hs
          have B5 := hide (B4.out.trans (b5.mono B4.out.size))
          have p0 : w5.cell? ⟨w1.heap.size, 0, none⟩ = some (.int .i64 0) := (b5.cell (p := ⟨w1.heap.size, 0, none⟩) (by simp; omega)).trans ((World.cell?_alloc_lt _ _ _ hz3).trans q0)
          have pv : w5.cell? ⟨w3.heap.size, 0, none⟩ = some (.slice ad3 R2.length cap3) := (b5.cell (p := ⟨w3.heap.size, 0, none⟩) (by simp)).trans (by simp)
          have O5 := hide (ownsRow_carry ((unhide O3).alloc (.cells #[.slice ad3 R2.length cap3] 22)) b5)
          have hz5 : w3.heap.size < w5.heap.size := by have := b5.size; simp at this; omega
          have S5 := hide (And.intro hj.1 (And.intro hj.2.1 hs))
          clear hj b5 hs q0 q1 s0 s1 HOF O3 RI RC B3 B4 HB3
          go_wp2
          go_region_held3 (fun w' => w'.cell? ⟨w3.heap.size, 0, none⟩ = some (.slice ad3 R2.length cap3) ∧ Below w5.heap.size w5 w') (first | exact ⟨pv, below_drewN (Below.refl _ _) 1⟩ | exact keep15 (by assumption) (by assumption) (by assumption))
            (first
              | (go_at_call 10; refine (set_Spans _ R2 _ (by omega) ((unhide S5).2.2.carry (below15 (B := w3.heap.size) (v := .slice ad3 R2.length cap3) (by assumption)))).mono ?_; rintro e w6 ⟨v6, rfl, o6, b6⟩)
              | (go_at_call 11; refine (set_Has _ R2 t _ (by omega) (unhide S5).1 ((unhide S5).2.2.carry (below15 (B := w3.heap.size) (v := .slice ad3 R2.length cap3) (by assumption)))).mono ?_; rintro e w8 ⟨rfl, b8⟩)
              | (go_at_call 12; refine (ref_In t (by omega) (reads_own (ownsRow_carry (unhide O5) (below15 (B := w3.heap.size) (v := .slice ad3 R2.length cap3) (by assumption))))).mono ?_; rintro e w9 ⟨rfl, g9⟩; have b9 := g9.below)
              | (go_at_call 9; refine (same_yes (by omega) o6 (ownsRow_carry (unhide O5) (below15 (B := w3.heap.size) (v := .slice ad3 R2.length cap3) (by assumption)))).mono ?_; rintro e w7 ⟨rfl, b7⟩))
          have b59 : Below w5.heap.size w5 w9 := below15 (B := w3.heap.size) (v := .slice ad3 R2.length cap3) (by assumption)
          have B9 := hide ((unhide B5).trans (b59.mono (unhide B5).size))
          have pv9 : w9.cell? ⟨w3.heap.size, 0, none⟩ = some (.slice ad3 R2.length cap3) := (b59.cell (p := ⟨w3.heap.size, 0, none⟩) hz5).trans pv
          have O9 := hide (ownsRow_carry (unhide O5) b59)
          have S9 := hide (And.intro (unhide S5).1 (And.intro (unhide S5).2.1 ((unhide S5).2.2.carry b59)))
          have hz9 : w3.heap.size < w9.heap.size := Nat.lt_of_lt_of_le hz5 b59.size
          clear b59 pv p0 hz5 O5 S5 B5
          clear o6 b6 b7 b8 g9 b9
          go_wp2
          go_loopw [12] (fun iv wq => ∃ j : Nat, iv = .int .i64 j ∧ j ≤ m.length ∧ (∀ i, (hi : i < m.length) → i < j → rightB m[i].1 m[i].2 = true) ∧ Below w9.heap.size w9 wq) (fun iv _ => m.length - (intOf iv).toNat)
          case atStart => exact ⟨0, rfl, Nat.zero_le _, fun i _ h => absurd h (Nat.not_lt_zero i), Below.refl _ _⟩
          case round =>
            obtain ⟨j, rfl, hj, hrt, hb⟩ := hrel
            have hbw : Below w.heap.size w wr := (unhide B9).trans (hb.mono (unhide B9).size)
            by_cases hlt : j < m.length
            · obtain ⟨b, off, rfl, c0, c1⟩ := unhide HCY wr hbw j hlt
              cases hr : rightB m[j].1 m[j].2 with
              | false =>
                have HRk := hide (fun W => ref_Right m[j].1 m[j].2 W)
                rw [hr] at HRk
                have BW := hide hbw
                clear hbw hb HCY hrt hr
                generalize m[j].1 = x1 at c0 HRk
                generalize m[j].2 = x2 at c1 HRk
                go_wp2_with fail
                refine (unhide HRk _).mono ?_
                rintro e w2 ⟨rfl, hw2⟩
                subst hw2
                go_wp2
                go_ret
                exact ⟨rfl, (unhide BW).alloc (unhide BW).size _⟩
              | true =>
                have HRk := hide (fun W => ref_Right m[j].1 m[j].2 W)
                rw [hr] at HRk
                have HRT := hide hrt
                have HR1 := hide hr
                have HBB := hide hb
                clear hbw hb HCY hrt hr
                generalize hx1 : m[j].1 = x1 at c0 HRk
                generalize hx2 : m[j].2 = x2 at c1 HRk
                have HX1 := hide hx1
                have HX2 := hide hx2
                clear hx1 hx2
                go_wp2_with fail
                refine (unhide HRk _).mono ?_
                rintro e w2 ⟨rfl, hw2⟩
                subst hw2
                go_wp2
                go_roundw
                case rel =>
                  refine ⟨j + 1, by go_num, by omega, fun i hi hij => ?_, (unhide HBB).alloc (unhide HBB).size _⟩
                  by_cases hh : i < j
                  · exact unhide HRT i hi hh
                  · have : i = j := by omega
                    subst this
                    exact unhide HR1
                case measure => simp [intOf]; omega
            · have hry : ∀ x, x ∈ m → rightB x.1 x.2 = true := by
                intro x hx
                obtain ⟨i, hi, rfl⟩ := List.getElem_of_mem hx
                exact hrt i hi (by omega)
              have pvr : wr.cell? ⟨w3.heap.size, 0, none⟩ = some (.slice ad3 R2.length cap3) := (hb.cell (p := ⟨w3.heap.size, 0, none⟩) hz9).trans pv9
              have hzr2 : w3.heap.size < wr.heap.size := Nat.lt_of_lt_of_le hz9 hb.size
              have Or := hide (ownsRow_carry (unhide O9) hb)
              have Sr := hide (And.intro (unhide S9).1 (And.intro (unhide S9).2.1 ((unhide S9).2.2.carry hb)))
              have HRO := hide (ref_Of m _ wr (by omega) ((unhide RY).carry hbw))
              have HRY := hide hry
              have BR := hide hbw
              clear hb hbw hry hrt HCY pv9 hz9 O9 S9 B9
              go_wp2_with fail
              refine (unhide HRO).mono ?_
              rintro e w10 ⟨Q, qc, qi, qlen, v10, rfl, o10, b10⟩
              have hv10 : ∃ ad cap, v10 = .slice ad Q.length cap := by
                rcases o10.2 with ⟨h0, h1⟩ | ⟨g, cap, _, h0, _⟩
                · exact ⟨none, 0, by rw [h0, h1]⟩
                · exact ⟨_, cap, h0⟩
              obtain ⟨ad4, cap4, rfl⟩ := hv10
              have hz10 : w3.heap.size < w10.heap.size := Nat.lt_of_lt_of_le hzr2 b10.size
              have pv10 : w10.cell? ⟨w3.heap.size, 0, none⟩ = some (.slice ad3 R2.length cap3) := (b10.cell (p := ⟨w3.heap.size, 0, none⟩) hzr2).trans pvr
              have O10 := hide (ownsRow_carry (unhide Or) b10)
              have Q10 := hide o10
              have QC := hide qc
              have QI := hide qi
              have S10 := hide (And.intro (unhide Sr).1 (And.intro (unhide Sr).2.1 ((unhide Sr).2.2.carry b10)))
              have B10 := hide ((unhide BR).trans (b10.mono (unhide BR).size))
              have HOF := hide (of_reads m _ (w10.alloc (.cells #[.slice ad4 Q.length cap4] 22)) (by omega) (unhide HRY) ((unhide RY).carry ((unhide B10).alloc (unhide B10).size _)))
              clear b10 o10 HRO pvr hzr2 Or Sr BR qc qi
              by_cases hbq : Q.length ≤ 60
              · have hq60 : decide ((60 : Int) < (Q.length : Int)) = false := decide_eq_false (by omega)
                go_wp2_with fail
                refine (unhide HOF).mono ?_
                rintro e w11 ⟨Q2, hj, b11, hres⟩
                have hQQ : Q2 = Q := canon_eq Q2 Q hj.1 (unhide QC) (fun t => (hj.2.2.1 t).trans (unhide QI t).symm)
                subst hQQ
                rcases hres with ⟨_, s2, rfl, hs⟩ | ⟨hbb, _⟩
                · obtain ⟨s2, rfl⟩ := isSet_ptr hs
                  have B11 := hide ((unhide B10).trans ((((Below.refl _ _).alloc (Nat.le_refl _) (.cells #[.slice ad4 Q2.length cap4] 22)).trans (b11.mono (by simp))).mono (unhide B10).size))
                  have pv11 : w11.cell? ⟨w3.heap.size, 0, none⟩ = some (.slice ad3 R2.length cap3) := (b11.cell (p := ⟨w3.heap.size, 0, none⟩) (by simp; omega)).trans ((World.cell?_alloc_lt _ _ _ hz10).trans pv10)
                  have qv11 : w11.cell? ⟨w10.heap.size, 0, none⟩ = some (.slice ad4 Q2.length cap4) := (b11.cell (p := ⟨w10.heap.size, 0, none⟩) (by simp)).trans (by simp)
                  have b1011 : Below w10.heap.size w10 w11 := ((Below.refl _ _).alloc (Nat.le_refl _) (.cells #[.slice ad4 Q2.length cap4] 22)).trans (b11.mono (by simp))
                  have O11 := hide (ownsRow_carry (unhide O10) b1011)
                  have Q11 := hide (ownsRow_carry (unhide Q10) b1011)
                  have S11 := hide (And.intro (unhide S10).1 (And.intro (unhide S10).2.1 ((unhide S10).2.2.carry b1011)))
                  have T11 := hide (And.intro hj.1 (And.intro hj.2.1 hs))
                  have hz11 : w10.heap.size < w11.heap.size := by have := b11.size; simp at this; omega
                  clear hj b11 hs b1011 HOF O10 Q10 S10 QC QI B10 pv10
                  have HEN := hide (ends_two R2 Q2 (.slice ad3 R2.length cap3) (.slice ad4 Q2.length cap4) w11 (by omega) (unhide O11) (unhide Q11))
                  go_wp2_with fail
                  refine (unhide HEN).mono ?_
                  rintro e w12 ⟨v12, rfl, o12, b12⟩
                  have K12 := hide (caught2_of (by omega) hz11 pv11 qv11 (unhide O11) (unhide Q11) (unhide S11).2.2 (unhide T11).2.2 b12 o12)
                  have B12 := hide ((unhide B11).trans (b12.mono (unhide B11).size))
                  have SC := hide (And.intro (unhide S11).1 (unhide S11).2.1)
                  have TC := hide (And.intro (unhide T11).1 (unhide T11).2.1)
                  clear o12 b12 HEN S11 T11 O11 Q11 pv11 qv11 B11 hz11
                  go_wp2
                  go_loopw [16] (fun iv wq => Box3 w12 iv wq) (fun iv wq => 3 - kOf iv wq)
                  case atStart => exact box3_start w12
                  case round =>
                    obtain ⟨K, k3, rfl, hk3, hKw, hK, ck, hb⟩ := hrel
                    have hk4 : k3 = 0 ∨ k3 = 1 ∨ k3 = 2 ∨ k3 = 3 := by omega
                    have KR := hide ((unhide K12).carry hb)
                    have BR := hide hb
                    clear hb
                    rcases hk4 with rfl | rfl | rfl | rfl
                    · have HW := hide (where_kf 0 (by omega) hbig hbq (unhide KR) ck hK)
                      replace ck : wr.cell? ⟨K, 0, none⟩ = some (.int .i64 0) := ck
                      go_wp2_with fail
                      refine (unhide HW).mono ?_
                      rintro e w13 ⟨R, rc, ri, ad5, cap5, rfl, o13, b13⟩
                      have ck13 : w13.cell? ⟨K, 0, none⟩ = some (.int .i64 0) := (b13.cell (p := ⟨K, 0, none⟩) hK).trans ck
                      have hK13 : K < w13.heap.size := Nat.lt_of_lt_of_le hK b13.size
                      have K13 := hide ((unhide KR).carry b13)
                      have B13 := hide ((unhide BR).trans (b13.mono (unhide BR).size))
                      have O13 := hide o13
                      clear o13 b13 HW KR BR
                      by_cases hw : R.length ≤ 60
                      · have hw60 : decide ((60 : Int) < (R.length : Int)) = false := decide_eq_false (by omega)
                        have HU := hide (set_Union _ _ R2 Q2 w13 (unhide SC).1 (unhide TC).1 (unhide SC).2 (unhide TC).2 (by omega) (by omega) (unhide K13).2.1 (unhide K13).2.2.1)
                        go_wp2_with fail
                        refine (unhide HU).mono ?_
                        rintro e w14 hm14
                        obtain ⟨c, rfl, hs, b15⟩ := makes_is hm14 rc ri hw
                        have b1315 := b15
                        clear hm14 HU
                        have ck15 : w14.cell? ⟨K, 0, none⟩ = some (.int .i64 0) := (b1315.cell (p := ⟨K, 0, none⟩) hK13).trans ck13
                        have hK15 : K < w14.heap.size := Nat.lt_of_lt_of_le hK13 b1315.size
                        have B15 := hide ((unhide B13).trans (b1315.mono (unhide B13).size))
                        have O15 := hide (ownsRow_carry (unhide O13) b1315)
                        have HS := hide (set_Spans _ R w14 (by omega) hs)
                        clear b1315 hs
                        go_wp2_with fail
                        refine (unhide HS).mono ?_
                        rintro e w16 ⟨v16, rfl, o16, b16⟩
                        have HSS := hide (same_yes (by omega) o16 (ownsRow_carry (unhide O15) b16))
                        have B1516 := hide b16
                        clear o16 b16 HS O15
                        go_wp2_with fail
                        refine (unhide HSS).mono ?_
                        rintro e w17 ⟨rfl, b17⟩
                        have b1517 := (unhide B1516).trans (b17.mono (unhide B1516).size)
                        have ck17 : w17.cell? ⟨K, 0, none⟩ = some (.int .i64 0) := (b1517.cell (p := ⟨K, 0, none⟩) hK15).trans ck15
                        have B17 := hide ((unhide B15).trans (b1517.mono (unhide B15).size))
                        clear b17 b1517
                        go_wp2
                        exact box3_turn 0 (by omega) rfl rfl (unhide B17) ck

                      · have hw60 : decide ((60 : Int) < (R.length : Int)) = true := decide_eq_true (by omega)
                        have HU := hide (set_Union _ _ R2 Q2 w13 (unhide SC).1 (unhide TC).1 (unhide SC).2 (unhide TC).2 (by omega) (by omega) (unhide K13).2.1 (unhide K13).2.2.1)
                        go_wp2_with fail
                        refine (unhide HU).mono ?_
                        rintro e w14 hm14
                        obtain ⟨rfl, b15⟩ := makes_not hm14 rc ri (by omega)
                        have b1315 := b15
                        clear hm14 HU
                        have ck15 : w14.cell? ⟨K, 0, none⟩ = some (.int .i64 0) := (b1315.cell (p := ⟨K, 0, none⟩) hK13).trans ck13
                        have hK15 : K < w14.heap.size := Nat.lt_of_lt_of_le hK13 b1315.size
                        have B15 := hide ((unhide B13).trans (b1315.mono (unhide B13).size))
                        have HLB := hide (law_bare 4 w14 ((unhide HG).carry ((unhide B12).trans ((unhide B15).mono (unhide B12).size))))
                        have B1516 := hide (Below.refl w14.heap.size w14)
                        clear b1315
                        go_wp2_with fail
                        refine (unhide HLB).mono ?_
                        rintro e w17 ⟨rfl, b17⟩
                        have b1517 := (unhide B1516).trans (b17.mono (unhide B1516).size)
                        have ck17 : w17.cell? ⟨K, 0, none⟩ = some (.int .i64 0) := (b1517.cell (p := ⟨K, 0, none⟩) hK15).trans ck15
                        have B17 := hide ((unhide B15).trans (b1517.mono (unhide B15).size))
                        clear b17 b1517
                        go_wp2
                        exact box3_turn 0 (by omega) rfl rfl (unhide B17) ck

                    · have HW := hide (where_kf 1 (by omega) hbig hbq (unhide KR) ck hK)
                      replace ck : wr.cell? ⟨K, 0, none⟩ = some (.int .i64 1) := ck
                      go_wp2_with fail
                      refine (unhide HW).mono ?_
                      rintro e w13 ⟨R, rc, ri, ad5, cap5, rfl, o13, b13⟩
                      have ck13 : w13.cell? ⟨K, 0, none⟩ = some (.int .i64 1) := (b13.cell (p := ⟨K, 0, none⟩) hK).trans ck
                      have hK13 : K < w13.heap.size := Nat.lt_of_lt_of_le hK b13.size
                      have K13 := hide ((unhide KR).carry b13)
                      have B13 := hide ((unhide BR).trans (b13.mono (unhide BR).size))
                      have O13 := hide o13
                      clear o13 b13 HW KR BR
                      by_cases hw : R.length ≤ 60
                      · have hw60 : decide ((60 : Int) < (R.length : Int)) = false := decide_eq_false (by omega)
                        have HU := hide (set_Union _ _ R2 Q2 w13 (unhide SC).1 (unhide TC).1 (unhide SC).2 (unhide TC).2 (by omega) (by omega) (unhide K13).2.1 (unhide K13).2.2.1)
                        go_wp2_with fail
                        refine (unhide HU).mono ?_
                        rintro e w14 hm14
                        obtain ⟨x14, y14, rfl, b14⟩ := makes_any hm14
                        have ck14 : w14.cell? ⟨K, 0, none⟩ = some (.int .i64 1) := (b14.cell (p := ⟨K, 0, none⟩) hK13).trans ck13
                        have K14 := hide ((unhide K13).carry b14)
                        have HV := hide (set_Both _ _ R2 Q2 w14 (unhide SC).1 (unhide TC).1 (unhide SC).2 (unhide TC).2 (by omega) (by omega) (unhide K14).2.1 (unhide K14).2.2.1)
                        have B1314 := hide b14
                        clear hm14 HU b14
                        go_wp2_with fail
                        refine (unhide HV).mono ?_
                        rintro e w15 hm15
                        obtain ⟨c, rfl, hs, b15⟩ := makes_is hm15 rc ri hw
                        have b1315 := (unhide B1314).trans (b15.mono (unhide B1314).size)
                        clear hm15 HV b15
                        have ck15 : w15.cell? ⟨K, 0, none⟩ = some (.int .i64 1) := (b1315.cell (p := ⟨K, 0, none⟩) hK13).trans ck13
                        have hK15 : K < w15.heap.size := Nat.lt_of_lt_of_le hK13 b1315.size
                        have B15 := hide ((unhide B13).trans (b1315.mono (unhide B13).size))
                        have O15 := hide (ownsRow_carry (unhide O13) b1315)
                        have HS := hide (set_Spans _ R w15 (by omega) hs)
                        clear b1315 hs
                        go_wp2_with fail
                        refine (unhide HS).mono ?_
                        rintro e w16 ⟨v16, rfl, o16, b16⟩
                        have HSS := hide (same_yes (by omega) o16 (ownsRow_carry (unhide O15) b16))
                        have B1516 := hide b16
                        clear o16 b16 HS O15
                        go_wp2_with fail
                        refine (unhide HSS).mono ?_
                        rintro e w17 ⟨rfl, b17⟩
                        have b1517 := (unhide B1516).trans (b17.mono (unhide B1516).size)
                        have ck17 : w17.cell? ⟨K, 0, none⟩ = some (.int .i64 1) := (b1517.cell (p := ⟨K, 0, none⟩) hK15).trans ck15
                        have B17 := hide ((unhide B15).trans (b1517.mono (unhide B15).size))
                        clear b17 b1517
                        go_wp2
                        exact box3_turn 1 (by omega) rfl rfl (unhide B17) ck

                      · have hw60 : decide ((60 : Int) < (R.length : Int)) = true := decide_eq_true (by omega)
                        have HU := hide (set_Union _ _ R2 Q2 w13 (unhide SC).1 (unhide TC).1 (unhide SC).2 (unhide TC).2 (by omega) (by omega) (unhide K13).2.1 (unhide K13).2.2.1)
                        go_wp2_with fail
                        refine (unhide HU).mono ?_
                        rintro e w14 hm14
                        obtain ⟨x14, y14, rfl, b14⟩ := makes_any hm14
                        have ck14 : w14.cell? ⟨K, 0, none⟩ = some (.int .i64 1) := (b14.cell (p := ⟨K, 0, none⟩) hK13).trans ck13
                        have K14 := hide ((unhide K13).carry b14)
                        have HV := hide (set_Both _ _ R2 Q2 w14 (unhide SC).1 (unhide TC).1 (unhide SC).2 (unhide TC).2 (by omega) (by omega) (unhide K14).2.1 (unhide K14).2.2.1)
                        have B1314 := hide b14
                        clear hm14 HU b14
                        go_wp2_with fail
                        refine (unhide HV).mono ?_
                        rintro e w15 hm15
                        obtain ⟨rfl, b15⟩ := makes_not hm15 rc ri (by omega)
                        have b1315 := (unhide B1314).trans (b15.mono (unhide B1314).size)
                        clear hm15 HV b15
                        have ck15 : w15.cell? ⟨K, 0, none⟩ = some (.int .i64 1) := (b1315.cell (p := ⟨K, 0, none⟩) hK13).trans ck13
                        have hK15 : K < w15.heap.size := Nat.lt_of_lt_of_le hK13 b1315.size
                        have B15 := hide ((unhide B13).trans (b1315.mono (unhide B13).size))
                        have HLB := hide (law_bare 4 w15 ((unhide HG).carry ((unhide B12).trans ((unhide B15).mono (unhide B12).size))))
                        have B1516 := hide (Below.refl w15.heap.size w15)
                        clear b1315
                        go_wp2_with fail
                        refine (unhide HLB).mono ?_
                        rintro e w17 ⟨rfl, b17⟩
                        have b1517 := (unhide B1516).trans (b17.mono (unhide B1516).size)
                        have ck17 : w17.cell? ⟨K, 0, none⟩ = some (.int .i64 1) := (b1517.cell (p := ⟨K, 0, none⟩) hK15).trans ck15
                        have B17 := hide ((unhide B15).trans (b1517.mono (unhide B15).size))
                        clear b17 b1517
                        go_wp2
                        exact box3_turn 1 (by omega) rfl rfl (unhide B17) ck

                    · have HW := hide (where_kf 2 (by omega) hbig hbq (unhide KR) ck hK)
                      replace ck : wr.cell? ⟨K, 0, none⟩ = some (.int .i64 2) := ck
                      go_wp2_with fail
                      refine (unhide HW).mono ?_
                      rintro e w13 ⟨R, rc, ri, ad5, cap5, rfl, o13, b13⟩
                      have ck13 : w13.cell? ⟨K, 0, none⟩ = some (.int .i64 2) := (b13.cell (p := ⟨K, 0, none⟩) hK).trans ck
                      have hK13 : K < w13.heap.size := Nat.lt_of_lt_of_le hK b13.size
                      have K13 := hide ((unhide KR).carry b13)
                      have B13 := hide ((unhide BR).trans (b13.mono (unhide BR).size))
                      have O13 := hide o13
                      clear o13 b13 HW KR BR
                      by_cases hw : R.length ≤ 60
                      · have hw60 : decide ((60 : Int) < (R.length : Int)) = false := decide_eq_false (by omega)
                        have HU := hide (set_Union _ _ R2 Q2 w13 (unhide SC).1 (unhide TC).1 (unhide SC).2 (unhide TC).2 (by omega) (by omega) (unhide K13).2.1 (unhide K13).2.2.1)
                        go_wp2_with fail
                        refine (unhide HU).mono ?_
                        rintro e w14 hm14
                        obtain ⟨x14, y14, rfl, b14⟩ := makes_any hm14
                        have ck14 : w14.cell? ⟨K, 0, none⟩ = some (.int .i64 2) := (b14.cell (p := ⟨K, 0, none⟩) hK13).trans ck13
                        have K14 := hide ((unhide K13).carry b14)
                        have HV := hide (set_Minus _ _ R2 Q2 w14 (unhide SC).1 (unhide TC).1 (unhide SC).2 (unhide TC).2 (by omega) (by omega) (unhide K14).2.1 (unhide K14).2.2.1)
                        have B1314 := hide b14
                        clear hm14 HU b14
                        go_wp2_with fail
                        refine (unhide HV).mono ?_
                        rintro e w15 hm15
                        obtain ⟨c, rfl, hs, b15⟩ := makes_is hm15 rc ri hw
                        have b1315 := (unhide B1314).trans (b15.mono (unhide B1314).size)
                        clear hm15 HV b15
                        have ck15 : w15.cell? ⟨K, 0, none⟩ = some (.int .i64 2) := (b1315.cell (p := ⟨K, 0, none⟩) hK13).trans ck13
                        have hK15 : K < w15.heap.size := Nat.lt_of_lt_of_le hK13 b1315.size
                        have B15 := hide ((unhide B13).trans (b1315.mono (unhide B13).size))
                        have O15 := hide (ownsRow_carry (unhide O13) b1315)
                        have HS := hide (set_Spans _ R w15 (by omega) hs)
                        clear b1315 hs
                        go_wp2_with fail
                        refine (unhide HS).mono ?_
                        rintro e w16 ⟨v16, rfl, o16, b16⟩
                        have HSS := hide (same_yes (by omega) o16 (ownsRow_carry (unhide O15) b16))
                        have B1516 := hide b16
                        clear o16 b16 HS O15
                        go_wp2_with fail
                        refine (unhide HSS).mono ?_
                        rintro e w17 ⟨rfl, b17⟩
                        have b1517 := (unhide B1516).trans (b17.mono (unhide B1516).size)
                        have ck17 : w17.cell? ⟨K, 0, none⟩ = some (.int .i64 2) := (b1517.cell (p := ⟨K, 0, none⟩) hK15).trans ck15
                        have B17 := hide ((unhide B15).trans (b1517.mono (unhide B15).size))
                        clear b17 b1517
                        go_wp2
                        exact box3_turn 2 (by omega) rfl rfl (unhide B17) ck

                      · have hw60 : decide ((60 : Int) < (R.length : Int)) = true := decide_eq_true (by omega)
                        have HU := hide (set_Union _ _ R2 Q2 w13 (unhide SC).1 (unhide TC).1 (unhide SC).2 (unhide TC).2 (by omega) (by omega) (unhide K13).2.1 (unhide K13).2.2.1)
                        go_wp2_with fail
                        refine (unhide HU).mono ?_
                        rintro e w14 hm14
                        obtain ⟨x14, y14, rfl, b14⟩ := makes_any hm14
                        have ck14 : w14.cell? ⟨K, 0, none⟩ = some (.int .i64 2) := (b14.cell (p := ⟨K, 0, none⟩) hK13).trans ck13
                        have K14 := hide ((unhide K13).carry b14)
                        have HV := hide (set_Minus _ _ R2 Q2 w14 (unhide SC).1 (unhide TC).1 (unhide SC).2 (unhide TC).2 (by omega) (by omega) (unhide K14).2.1 (unhide K14).2.2.1)
                        have B1314 := hide b14
                        clear hm14 HU b14
                        go_wp2_with fail
                        refine (unhide HV).mono ?_
                        rintro e w15 hm15
                        obtain ⟨rfl, b15⟩ := makes_not hm15 rc ri (by omega)
                        have b1315 := (unhide B1314).trans (b15.mono (unhide B1314).size)
                        clear hm15 HV b15
                        have ck15 : w15.cell? ⟨K, 0, none⟩ = some (.int .i64 2) := (b1315.cell (p := ⟨K, 0, none⟩) hK13).trans ck13
                        have hK15 : K < w15.heap.size := Nat.lt_of_lt_of_le hK13 b1315.size
                        have B15 := hide ((unhide B13).trans (b1315.mono (unhide B13).size))
                        have HLB := hide (law_bare 4 w15 ((unhide HG).carry ((unhide B12).trans ((unhide B15).mono (unhide B12).size))))
                        have B1516 := hide (Below.refl w15.heap.size w15)
                        clear b1315
                        go_wp2_with fail
                        refine (unhide HLB).mono ?_
                        rintro e w17 ⟨rfl, b17⟩
                        have b1517 := (unhide B1516).trans (b17.mono (unhide B1516).size)
                        have ck17 : w17.cell? ⟨K, 0, none⟩ = some (.int .i64 2) := (b1517.cell (p := ⟨K, 0, none⟩) hK15).trans ck15
                        have B17 := hide ((unhide B15).trans (b1517.mono (unhide B15).size))
                        clear b17 b1517
                        go_wp2
                        exact box3_turn 2 (by omega) rfl rfl (unhide B17) ck

                    · replace ck : wr.cell? ⟨K, 0, none⟩ = some (.int .i64 3) := ck
                      have BF := hide ((unhide B12).trans ((unhide BR).mono (unhide B12).size))
                      clear KR BR
                      go_wp2
                      go_ret
                      exact ⟨rfl, unhide BF⟩
                · omega
              · have hq60 : decide ((60 : Int) < (Q.length : Int)) = true := decide_eq_true (by omega)
                go_wp2_with fail
                refine (unhide HOF).mono ?_
                rintro e w11 ⟨Q2, hj, b11, hres⟩
                have B11 := hide ((unhide B10).trans ((((Below.refl _ _).alloc (Nat.le_refl _) (.cells #[.slice ad4 Q.length cap4] 22)).trans (b11.mono (by simp))).mono (unhide B10).size))
                have qv11 : w11.cell? ⟨w10.heap.size, 0, none⟩ = some (.slice ad4 Q.length cap4) := (b11.cell (p := ⟨w10.heap.size, 0, none⟩) (by simp)).trans (by simp)
                have hform : ∃ x y, e = .returned (.tuple #[x, y]) := by
                  rcases hres with ⟨_, s2, rfl, _⟩ | ⟨_, rfl⟩
                  · exact ⟨_, _, rfl⟩
                  · exact ⟨_, _, rfl⟩
                obtain ⟨x11, y11, rfl⟩ := hform
                clear hj b11 hres HOF Q10 S10 O10 QC QI B10
                go_wp2
                go_ret
                exact ⟨rfl, unhide B11⟩
        · omega
      · have HBA := hide (ref_Bare 4 (w3.alloc (.cells #[.slice ad3 R.length cap3] 22)))
        have hb60 : decide ((60 : Int) < (R.length : Int)) = true := decide_eq_true (by omega)
        go_wp2_with fail
        refine (unhide HBA).mono ?_
        rintro e w4 ⟨rfl, b4⟩
        have z0 : w4.cell? ⟨w1.heap.size, 0, none⟩ = some (.int .i64 0) := (b4.cell (p := ⟨w1.heap.size, 0, none⟩) (by simp; omega)).trans ((World.cell?_alloc_lt _ _ _ hz3).trans q0)
        have z1 : w4.cell? ⟨w1.heap.size, 1, none⟩ = some (.int .i64 (-1)) := (b4.cell (p := ⟨w1.heap.size, 1, none⟩) (by simp; omega)).trans ((World.cell?_alloc_lt _ _ _ hz3).trans q1)
        have y0 : w4.frozen? ⟨w1.heap.size, 0, none⟩ = false := (b4.frozen (p := ⟨w1.heap.size, 0, none⟩) (by simp; omega)).trans ((World.frozen?_alloc_past _ _ _ hz3).trans s0)
        have y1 : w4.frozen? ⟨w1.heap.size, 1, none⟩ = false := (b4.frozen (p := ⟨w1.heap.size, 1, none⟩) (by simp; omega)).trans ((World.frozen?_alloc_past _ _ _ hz3).trans s1)
        have b14 : Below (w1.heap.size + 1) (w1.alloc (.cells #[.int .i64 0, .int .i64 (-1)] 25)) w4 := ((unhide HB3).alloc (by omega) _).trans (b4.mono (by simp; omega))
        have ST := hide (box_stored0 (u := 4) (v := -1) b14)
        have BW := hide ((unhide B1).trans ((unhide ST).2.2.mono hz1))
        have hzs : w1.heap.size < ((w4.setCell ⟨w1.heap.size, 0, none⟩ (.int .i64 4)).setCell ⟨w1.heap.size, 1, none⟩ (.int .i64 (-1))).heap.size := by have := b14.size; simp at this ⊢; omega
        have HOF := hide (of_reads l _ ((w4.setCell ⟨w1.heap.size, 0, none⟩ (.int .i64 4)).setCell ⟨w1.heap.size, 1, none⟩ (.int .i64 (-1))) (by omega) (unhide HR) ((unhide RX).carry (unhide BW)))
        have st0 := (unhide ST).1
        clear b4 b14 HBA q0 q1 s0 s1 O3 B3 B4 HB3
        go_wp2_with fail
        refine (unhide HOF).mono ?_
        rintro e w5 ⟨R5, hj, b5, hres⟩
        have hRR : R5 = R := canon_eq R5 R hj.1 (unhide RC) (fun t => (hj.2.2.1 t).trans (unhide RI t).symm)
        subst hRR
        rcases hres with ⟨hbb, _⟩ | ⟨_, rfl⟩
        · omega
        · have hw5 := (unhide BW).trans (b5.mono (unhide BW).size)
          have p0 : w5.cell? ⟨w1.heap.size, 0, none⟩ = some (.int .i64 4) := (b5.cell (p := ⟨w1.heap.size, 0, none⟩) hzs).trans (unhide ST).1
          have p1 : w5.cell? ⟨w1.heap.size, 1, none⟩ = some (.int .i64 (-1)) := (b5.cell (p := ⟨w1.heap.size, 1, none⟩) hzs).trans (unhide ST).2.1
          have HIS := hide (law_is (.iface 23 (.int .i64 4)) 4 (-1) w5 (fun W h => Place_errno 4 W (((unhide HG).carry hw5).carry h)))
          have B5 := hide hw5
          clear b5 hw5 hj HOF ST BW hzs st0 z0 z1 y0 y1
          go_wp2_with fail
          refine (unhide HIS).mono ?_
          rintro e w6 ⟨rfl, b6⟩
          have B6 := hide ((unhide B5).trans (b6.mono (unhide B5).size))
          clear b6 HIS B5
          go_wp2
          go_ret
          exact ⟨rfl, unhide B6⟩

end Go.Proofs.YtdjajnhiicfcaaaDoor
