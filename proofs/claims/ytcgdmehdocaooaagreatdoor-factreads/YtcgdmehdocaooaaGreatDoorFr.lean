/- FactReads, walked. -/
import Derived.Test.YtcgdmehdocaooaaGreatDoorRn4
import Derived.Test.YtcgdmehdocaooaaGreatDoorSame
import Derived.Test.YtcgdmehdocaooaaGreatDoorNil
namespace Go.Proofs.YtcgdmehdocaooaaGreatDoor
open Go.RowKit

set_option maxHeartbeats 1000000 in
/-- No error is the errno of none. -/
theorem law_bare_nil (w : World) :
    Calls Tryz.prog 6 #[.nilIface, .int .i64 0] w fun e w' => e = .returned (.bool true) ∧ Below w.heap.size w w' := by
  have HB := hide (bare_of 0 w)
  have HI := hide (fun W => law_is .nilIface 0 (-1) W (fun W' _ => Place_nil W'))
  go_enter Tryz.func6, Tryz.ntmps6
  go_wp2_with fail
  refine (unhide HB).mono ?_
  rintro e w1 ⟨rfl, b1⟩
  have HI1 := hide (unhide HI w1)
  have B1 := hide b1
  clear b1 HI HB
  go_wp2_with fail
  refine (unhide HI1).mono ?_
  rintro e w2 ⟨rfl, b2⟩
  have B2 := hide ((unhide B1).trans (b2.mono (unhide B1).size))
  clear b2 HI1 B1
  go_wp2
  go_ret
  exact ⟨rfl, unhide B2⟩

/-- Two nil lists are the same. -/
theorem same_nil (w : World) : Calls Tryz.prog 7 #[.slice none 0 0, .slice none 0 0] w fun e w' => e = .returned (.bool true) ∧ Below w.heap.size w w' :=
  (same_none none none 0 0 w).mono fun _ _ ⟨h1, _, h2⟩ => ⟨h1, h2 ▸ ⟨rfl, rfl, rfl, Nat.le_refl _, fun _ _ => rfl⟩⟩

set_option maxRecDepth 100000 in
set_option maxHeartbeats 2000000 in
theorem factReads_walk (s : ByteArray) (w : World) (hz : s.size ≤ maxLen) (ht : Tab w) (hl : Libs w) (hg : ErrorType w) :
    Calls Tryz.prog 3 #[.string s] w fun e w' => e = .returned (.bool true) ∧ Below w.heap.size w w' := by
  unfold maxLen at hz
  by_cases h800 : 800 < s.size
  · have h800' : 800 < (s.size : Int) := by omega
    clear ht hl hg
    go_enter Tryz.func3, Tryz.ntmps3
    go_wp2
    go_ret
    exact ⟨rfl, Below.refl _ _⟩
  · have h800' : ¬ 800 < (s.size : Int) := by omega
    have HR := hide (ref_Read s w (by omega) hl ht)
    have HF := hide (fun W (h : Below w.heap.size w W) => fact_Read s W (by omega) (hl.carry h) (ht.carry h))
    have HG := hide hg
    clear ht hl hg
    go_enter Tryz.func3, Tryz.ntmps3
    go_wp2_with fail
    refine (unhide HR).mono ?_
    rintro e w1 ⟨⟨q, v, hq, hqs, rfl, hrd⟩ | ⟨hno, rfl⟩, b1⟩
    · have HF1 := hide (unhide HF w1 b1)
      have HRD := hide hrd
      obtain ⟨ad, cap, rfl, _⟩ := hrd
      have B1 := hide b1
      have HOK := hide hq
      have HQS := hide hqs
      clear HR HF b1 hq hqs
      go_wp2_with fail
      refine (unhide HF1).mono ?_
      rintro e w2 ⟨⟨q', v', hq', hqs', rfl, hrd'⟩ | ⟨hno', rfl⟩, b2⟩
      · obtain rfl : q' = q := wrs_inj q' q hq' (unhide HOK) (hqs'.symm.trans (unhide HQS))
        have HS := hide (fun W (h : Below w2.heap.size w2 W) => same_ops q' v' _ W (by have := hq'.2.1; omega) (hrd'.carry h) (((unhide HRD).carry b2).carry h))
        have HBA := hide (law_bare_nil w2)
        obtain ⟨ad', cap', rfl, _⟩ := hrd'
        have B2 := hide ((unhide B1).trans (b2.mono (unhide B1).size))
        clear HF1 hqs' hq' b2 B1 HOK HQS HRD
        go_wp2_with fail
        refine (unhide HBA).mono ?_
        rintro e w3 ⟨rfl, b3⟩
        have HS3 := hide (unhide HS w3 b3)
        have B3 := hide ((unhide B2).trans (b3.mono (unhide B2).size))
        clear HS HBA b3 B2
        go_wp2_with fail
        refine (unhide HS3).mono ?_
        rintro e w4 ⟨rfl, b4⟩
        have B4 := hide ((unhide B3).trans (b4.mono (unhide B3).size))
        clear HS3 b4 B3
        go_wp2
        go_ret
        exact ⟨rfl, unhide B4⟩
      · exact absurd (unhide HQS) (hno' q (unhide HOK))
    · have HF1 := hide (unhide HF w1 b1)
      have HNO := hide hno
      have B1 := hide b1
      clear HR HF b1 hno
      go_wp2_with fail
      refine (unhide HF1).mono ?_
      rintro e w2 ⟨⟨q', v', hq', hqs', rfl, hrd'⟩ | ⟨hno', rfl⟩, b2⟩
      · exact absurd hqs' (unhide HNO q' hq')
      · have B2 := hide ((unhide B1).trans (b2.mono (unhide B1).size))
        have HBA := hide (law_bare 3 w2 ((unhide HG).carry (unhide B2)))
        have HS := hide (fun W => same_nil W)
        clear HF1 hno' b2 B1 HNO HG
        go_wp2_with fail
        refine (unhide HBA).mono ?_
        rintro e w3 ⟨rfl, b3⟩
        have HS3 := hide (unhide HS w3)
        have B3 := hide ((unhide B2).trans (b3.mono (unhide B2).size))
        clear HS HBA b3 B2
        go_wp2_with fail
        refine (unhide HS3).mono ?_
        rintro e w4 ⟨rfl, b4⟩
        have B4 := hide ((unhide B3).trans (b4.mono (unhide B3).size))
        clear HS3 b4 B3
        go_wp2
        go_ret
        exact ⟨rfl, unhide B4⟩

end Go.Proofs.YtcgdmehdocaooaaGreatDoor
