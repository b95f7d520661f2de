/- Two sets that hold the same spans are the same. -/
import Derived.Test.YtdjajnhiicfcaaaMade
namespace Go.Proofs.Ytdjajnhiicfcaaa
open Go.RowKit Palim

set_option maxHeartbeats 2000000 in
theorem keep_sameSets (l : List (Int × Int)) (v u : Value) (w : World) (hl : l.length < 1099511627776) (hv : IsSet w v l) (hu : IsSet w u l) :
    Calls Try.prog 21 #[v, u] w fun e w' => e = .returned (.bool true) ∧ Below w.heap.size w w' := by
  have HV := hide (set_Spans v l w hl hv)
  have HU := hide (fun W (h : Below w.heap.size w W) => set_Spans u l W hl (hu.carry h))
  clear hv hu
  go_enter Try.func21, Try.ntmps21
  go_wp2_with fail
  refine (unhide HV).mono ?_
  rintro e w1 ⟨v1, rfl, o1, b1⟩
  have HU1 := hide (unhide HU w1 b1)
  have O1 := hide o1
  have B1 := hide b1
  clear o1 b1 HU HV
  go_wp2_with fail
  refine (unhide HU1).mono ?_
  rintro e w2 ⟨v2, rfl, o2, b2⟩
  have o12 := ownsRow_carry (unhide O1) b2
  have B2 := hide ((unhide B1).trans (b2.mono (unhide B1).size))
  clear b2 HU1 O1 B1
  rcases ownsRow_view o12 with ⟨rfl, rfl⟩ | ⟨g, cap, rfl, _, _, _, hc⟩
  · have hv2 : ∃ ad cap, v2 = .slice ad 0 cap := by
      rcases o2.2 with ⟨h0, _⟩ | ⟨g, cap, _, h0, _⟩
      · exact ⟨none, 0, h0⟩
      · exact ⟨_, cap, h0⟩
    obtain ⟨ad, cap, rfl⟩ := hv2
    clear o12 o2
    go_wp2
    refine wp_loop_rounds 1 ?_
    rw [rounds_succ]
    go_wp2
    go_ret
    exact ⟨rfl, unhide B2⟩
  · rcases ownsRow_view o2 with ⟨rfl, rfl⟩ | ⟨g2, cap2, rfl, _, _, _, hc2⟩
    · clear o12 o2 hc
      go_wp2
      refine wp_loop_rounds 1 ?_
      rw [rounds_succ]
      go_wp2
      go_ret
      exact ⟨rfl, unhide B2⟩
    · clear o12 o2
      have HC := hide hc
      have HC2 := hide hc2
      clear hc hc2
      go_wp2
      go_loopw [7] (fun i wr => ∃ k : Nat, k ≤ l.length ∧ i = .int .i64 k ∧ ∃ q, wr = w2.drewN q) (fun i _ => l.length - (intOf i).toNat)
      case atStart => exact ⟨0, Nat.zero_le _, rfl, 0, rfl⟩
      case round =>
        obtain ⟨k, hk, rfl, q, rfl⟩ := hrel
        by_cases hlt : k < l.length
        · have c0 := (unhide HC k hlt).1
          have c1 := (unhide HC k hlt).2
          have d0 := (unhide HC2 k hlt).1
          have d1 := (unhide HC2 k hlt).2
          generalize l[k].1 = x at c0 d0
          generalize l[k].2 = y at c1 d1
          go_wp2
          go_quiet (fail)
          go_wp2
          go_roundw
          case rel => exact ⟨k + 1, by omega, by go_num, _, rfl⟩
          case measure => simp [intOf]; omega
        · go_wp2
          go_ret
          exact ⟨rfl, (unhide B2).trans ⟨rfl, rfl, rfl, Nat.le_refl _, fun _ _ => rfl⟩⟩

end Go.Proofs.Ytdjajnhiicfcaaa
