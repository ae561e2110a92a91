/-
  THE DOCUMENT'S OWN TAPE: flags and texts.
-/
import Derived.Test.YtgenefamhhncbaaBRefs
import Derived.BigRegion
namespace Go.Proofs.Ytgenefamhhncbaa.Bt
open Go.RowKit Go.Sort
/-- a text: each way -/
theorem rtext_stays (s : ByteArray) (e most : Int) (he : e ≠ 0) (w : World) :
    Calls Try.prog 46 #[.agg #[.string s, .int .i64 e], .int .i64 most] w fun r w' => r = .returned (rv (tText s e most) (vText (tText s e most))) ∧ Below w.heap.size w w' := by
  have heb : (e != 0) = true := by simp [he]
  have ht := Lib.hid (tk_stays ⟨#[]⟩ s (rdText s most) he)
  go_enter Try.func46, Try.ntmps46
  go_wp2_with fail
  go_returns
  unfold tText
  rw [ht.out]
  exact ⟨rfl, ((Below.refl _ w).alloc (Nat.le_refl _) _).alloc (by simp) _⟩
section
variable (s : ByteArray) (N K : Nat) (most : Int) (w : World)
set_option maxHeartbeats 2000000 in
theorem rtext_bad (E : Int) (hE : E ≠ 0) (HA : Hid (∀ w, Calls Try.prog 68 #[.string s] w fun e w' => e = .returned (.tuple #[.int .u64 (N : Int), .int .i64 (K : Int), .int .i64 E]) ∧ Below w.heap.size w w'))
    (HT : Hid (tText s 0 most = (⟨#[]⟩, s, E))) :
    Calls Try.prog 46 #[.agg #[.string s, .int .i64 0], .int .i64 most] w fun r w' => r = .returned (rv (tText s 0 most) (vText (tText s 0 most))) ∧ Below w.heap.size w w' := by
  have heb : (E != 0) = true := by simp [hE]
  go_enter Try.func46, Try.ntmps46
  go_wp2_with fail
  refine (HA.out _).mono ?_
  rintro r w1 ⟨rfl, b1⟩
  have B1 := ((box_new w s 0).alloc (.cells #[.string ⟨#[]⟩, .int .i64 0] 78)).next b1
  have B2 := (box_new1 w (.cells #[.string s, .int .i64 0] 78) ⟨#[]⟩ 0).next b1
  have bb : Below w.heap.size w w1 := (((Below.refl _ w).alloc (Nat.le_refl _) _).alloc (by simp) _).trans (b1.mono (by simp; omega))
  clear b1
  have x0 := B1.c0
  have x1 := B1.c1
  have y0 := B2.c0
  have y1 := B2.c1
  have yf0 := B2.f 0
  have yf1 := B2.f 1
  go_wp2_with fail
  obtain ⟨w2, hw2, z0, z1, b3⟩ := end_box B2 bb (by omega) s E
  rw [← hw2]
  refine bodyPost_ret (by simp [results, Try.results46, go_sem, z0, z1]; try rfl) rfl ?_
  exact ⟨by rw [HT.out]; rfl, b3⟩
set_option maxHeartbeats 2000000 in
theorem rtext_neg (HA : Hid (∀ w, Calls Try.prog 68 #[.string s] w fun e w' => e = .returned (.tuple #[.int .u64 (N : Int), .int .i64 (K : Int), .int .i64 0]) ∧ Below w.heap.size w w')) (hN : 0 < (N : Int)) (hm : most < 0)
    (HT : Hid (tText s 0 most = (⟨#[]⟩, s, 2))) :
    Calls Try.prog 46 #[.agg #[.string s, .int .i64 0], .int .i64 most] w fun r w' => r = .returned (rv (tText s 0 most) (vText (tText s 0 most))) ∧ Below w.heap.size w w' := by
  go_enter Try.func46, Try.ntmps46
  go_wp2_with fail
  refine (HA.out _).mono ?_
  rintro r w1 ⟨rfl, b1⟩
  have B1 := ((box_new w s 0).alloc (.cells #[.string ⟨#[]⟩, .int .i64 0] 78)).next b1
  have B2 := (box_new1 w (.cells #[.string s, .int .i64 0] 78) ⟨#[]⟩ 0).next b1
  have bb : Below w.heap.size w w1 := (((Below.refl _ w).alloc (Nat.le_refl _) _).alloc (by simp) _).trans (b1.mono (by simp; omega))
  clear b1
  have x0 := B1.c0
  have x1 := B1.c1
  have y0 := B2.c0
  have y1 := B2.c1
  have yf0 := B2.f 0
  have yf1 := B2.f 1
  go_wp2_with fail
  obtain ⟨w2, hw2, z0, z1, b3⟩ := end_box B2 bb (by omega) s 2
  rw [← hw2]
  refine bodyPost_ret (by simp [results, Try.results46, go_sem, z0, z1]; try rfl) rfl ?_
  exact ⟨by rw [HT.out]; rfl, b3⟩
set_option maxHeartbeats 2000000 in
theorem rtext_long (HA : Hid (∀ w, Calls Try.prog 68 #[.string s] w fun e w' => e = .returned (.tuple #[.int .u64 (N : Int), .int .i64 (K : Int), .int .i64 0]) ∧ Below w.heap.size w w')) (hN : 0 < (N : Int)) (_hm : ¬ most < 0) (hm2 : 0 ≤ most) (hm3 : most ≤ 9223372036854775807) (hl : most < (N : Int))
    (HT : Hid (tText s 0 most = (⟨#[]⟩, s, 2))) :
    Calls Try.prog 46 #[.agg #[.string s, .int .i64 0], .int .i64 most] w fun r w' => r = .returned (rv (tText s 0 most) (vText (tText s 0 most))) ∧ Below w.heap.size w w' := by
  go_enter Try.func46, Try.ntmps46
  go_wp2_with fail
  refine (HA.out _).mono ?_
  rintro r w1 ⟨rfl, b1⟩
  have B1 := ((box_new w s 0).alloc (.cells #[.string ⟨#[]⟩, .int .i64 0] 78)).next b1
  have B2 := (box_new1 w (.cells #[.string s, .int .i64 0] 78) ⟨#[]⟩ 0).next b1
  have bb : Below w.heap.size w w1 := (((Below.refl _ w).alloc (Nat.le_refl _) _).alloc (by simp) _).trans (b1.mono (by simp; omega))
  clear b1
  have x0 := B1.c0
  have x1 := B1.c1
  have y0 := B2.c0
  have y1 := B2.c1
  have yf0 := B2.f 0
  have yf1 := B2.f 1
  go_wp2_with fail
  obtain ⟨w2, hw2, z0, z1, b3⟩ := end_box B2 bb (by omega) s 2
  rw [← hw2]
  refine bodyPost_ret (by simp [results, Try.results46, go_sem, z0, z1]; try rfl) rfl ?_
  exact ⟨by rw [HT.out]; rfl, b3⟩
set_option maxHeartbeats 2000000 in
theorem rtext_short (HA : Hid (∀ w, Calls Try.prog 68 #[.string s] w fun e w' => e = .returned (.tuple #[.int .u64 (N : Int), .int .i64 (K : Int), .int .i64 0]) ∧ Below w.heap.size w w')) (hs : s.size ≤ 281474976710656) (hK : K ≤ s.size) (_hm : ¬ most < 0) (hm2 : 0 ≤ most) (hm3 : most ≤ 9223372036854775807) (hl : ¬ most < (N : Int)) (hd : (s.size : Int) - (K : Int) < (N : Int))
    (HT : Hid (tText s 0 most = (⟨#[]⟩, s, 5))) :
    Calls Try.prog 46 #[.agg #[.string s, .int .i64 0], .int .i64 most] w fun r w' => r = .returned (rv (tText s 0 most) (vText (tText s 0 most))) ∧ Below w.heap.size w w' := by
  go_enter Try.func46, Try.ntmps46
  go_wp2_with fail
  refine (HA.out _).mono ?_
  rintro r w1 ⟨rfl, b1⟩
  have B1 := ((box_new w s 0).alloc (.cells #[.string ⟨#[]⟩, .int .i64 0] 78)).next b1
  have B2 := (box_new1 w (.cells #[.string s, .int .i64 0] 78) ⟨#[]⟩ 0).next b1
  have bb : Below w.heap.size w w1 := (((Below.refl _ w).alloc (Nat.le_refl _) _).alloc (by simp) _).trans (b1.mono (by simp; omega))
  clear b1
  have x0 := B1.c0
  have x1 := B1.c1
  have y0 := B2.c0
  have y1 := B2.c1
  have yf0 := B2.f 0
  have yf1 := B2.f 1
  go_wp2_with fail
  obtain ⟨w2, hw2, z0, z1, b3⟩ := end_box B2 bb (by omega) s 5
  rw [← hw2]
  refine bodyPost_ret (by simp [results, Try.results46, go_sem, z0, z1]; try rfl) rfl ?_
  exact ⟨by rw [HT.out]; rfl, b3⟩
set_option maxHeartbeats 4000000 in
theorem rtext_ok (HA : Hid (∀ w, Calls Try.prog 68 #[.string s] w fun e w' => e = .returned (.tuple #[.int .u64 (N : Int), .int .i64 (K : Int), .int .i64 0]) ∧ Below w.heap.size w w')) (hs : s.size ≤ 281474976710656) (hK : K ≤ s.size) (_hm : ¬ most < 0) (hm2 : 0 ≤ most) (hm3 : most ≤ 9223372036854775807) (hl : ¬ most < (N : Int)) (hd : ¬ (s.size : Int) - (K : Int) < (N : Int))
    (HT : Hid (tText s 0 most = (s.extract K (K + N), s.extract (K + N) s.size, 0))) :
    Calls Try.prog 46 #[.agg #[.string s, .int .i64 0], .int .i64 most] w fun r w' => r = .returned (rv (tText s 0 most) (vText (tText s 0 most))) ∧ Below w.heap.size w w' := by
  go_enter Try.func46, Try.ntmps46
  go_wp2_with fail
  refine (HA.out _).mono ?_
  rintro r w1 ⟨rfl, b1⟩
  have B1 := ((box_new w s 0).alloc (.cells #[.string ⟨#[]⟩, .int .i64 0] 78)).next b1
  have B2 := (box_new1 w (.cells #[.string s, .int .i64 0] 78) ⟨#[]⟩ 0).next b1
  have bb : Below w.heap.size w w1 := (((Below.refl _ w).alloc (Nat.le_refl _) _).alloc (by simp) _).trans (b1.mono (by simp; omega))
  clear b1
  have x0 := B1.c0
  have x1 := B1.c1
  have y0 := B2.c0
  have y1 := B2.c1
  have yf0 := B2.f 0
  have yf1 := B2.f 1
  go_wp2_with fail
  have hx0 : ∀ v v', ((w1.setCell ⟨w.heap.size + 1, 0, none⟩ v).setCell ⟨w.heap.size + 1, 1, none⟩ v').cell? ⟨w.heap.size, 0, none⟩ = some (.string s) := fun v v' => by
    have := B1
    unfold BoxAt at this
    have hne : w.heap.size + 1 ≠ w.heap.size := by omega
    simp [World.cell?, World.setCell, Array.getElem?_modify, this]
  have k1 : IntKind.i64.wrap ((K : Int) + (N : Int)) = (K : Int) + (N : Int) := IntWalk.i64_in _ ⟨by omega, by omega⟩
  have k2 : (0 : Int) ≤ (K : Int) + (N : Int) := by omega
  have k3 : ((K : Int) + (N : Int)).toNat = K + N := by omega
  have k4 : (K : Int) ≤ (K : Int) + (N : Int) := by omega
  have k5 : (K : Int) + (N : Int) ≤ (s.size : Int) := by omega
  have k6 : K + N ≤ s.size := by omega
  have k7 : K ≤ K + N := by omega
  have k8 : IntKind.i64.wrap (N : Int) = (N : Int) := IntWalk.i64_in _ ⟨by omega, by omega⟩
  go_region
  go_wp2_with fail
  obtain ⟨w2, hw2, z0, z1, b3⟩ := end_box B2 bb (by omega) (s.extract (K + N) s.size) 0
  rw [← hw2]
  have z2 : w2.drew.cell? ⟨w.heap.size + 1, 0, none⟩ = some (.string (s.extract (K + N) s.size)) := z0
  have z3 : w2.drew.cell? ⟨w.heap.size + 1, 1, none⟩ = some (.int .i64 0) := z1
  refine bodyPost_ret (by simp [results, Try.results46, go_sem, z2, z3]; try rfl) rfl ?_
  exact ⟨by rw [HT.out]; rfl, b3.drew⟩
set_option maxHeartbeats 4000000 in
theorem rtext_ok0 (HA : Hid (∀ w, Calls Try.prog 68 #[.string s] w fun e w' => e = .returned (.tuple #[.int .u64 (N : Int), .int .i64 (K : Int), .int .i64 0]) ∧ Below w.heap.size w w')) (hs : s.size ≤ 281474976710656) (hK : K ≤ s.size) (hm : most < 0) (hN : ¬ 0 < (N : Int)) (hd : ¬ (s.size : Int) - (K : Int) < (N : Int))
    (HT : Hid (tText s 0 most = (s.extract K (K + N), s.extract (K + N) s.size, 0))) :
    Calls Try.prog 46 #[.agg #[.string s, .int .i64 0], .int .i64 most] w fun r w' => r = .returned (rv (tText s 0 most) (vText (tText s 0 most))) ∧ Below w.heap.size w w' := by
  go_enter Try.func46, Try.ntmps46
  go_wp2_with fail
  refine (HA.out _).mono ?_
  rintro r w1 ⟨rfl, b1⟩
  have B1 := ((box_new w s 0).alloc (.cells #[.string ⟨#[]⟩, .int .i64 0] 78)).next b1
  have B2 := (box_new1 w (.cells #[.string s, .int .i64 0] 78) ⟨#[]⟩ 0).next b1
  have bb : Below w.heap.size w w1 := (((Below.refl _ w).alloc (Nat.le_refl _) _).alloc (by simp) _).trans (b1.mono (by simp; omega))
  clear b1
  have x0 := B1.c0
  have x1 := B1.c1
  have y0 := B2.c0
  have y1 := B2.c1
  have yf0 := B2.f 0
  have yf1 := B2.f 1
  go_wp2_with fail
  have hx0 : ∀ v v', ((w1.setCell ⟨w.heap.size + 1, 0, none⟩ v).setCell ⟨w.heap.size + 1, 1, none⟩ v').cell? ⟨w.heap.size, 0, none⟩ = some (.string s) := fun v v' => by
    have := B1
    unfold BoxAt at this
    have hne : w.heap.size + 1 ≠ w.heap.size := by omega
    simp [World.cell?, World.setCell, Array.getElem?_modify, this]
  have k1 : IntKind.i64.wrap ((K : Int) + (N : Int)) = (K : Int) + (N : Int) := IntWalk.i64_in _ ⟨by omega, by omega⟩
  have k2 : (0 : Int) ≤ (K : Int) + (N : Int) := by omega
  have k3 : ((K : Int) + (N : Int)).toNat = K + N := by omega
  have k4 : (K : Int) ≤ (K : Int) + (N : Int) := by omega
  have k5 : (K : Int) + (N : Int) ≤ (s.size : Int) := by omega
  have k6 : K + N ≤ s.size := by omega
  have k7 : K ≤ K + N := by omega
  have k8 : IntKind.i64.wrap (N : Int) = (N : Int) := IntWalk.i64_in _ ⟨by omega, by omega⟩
  go_region
  go_wp2_with fail
  obtain ⟨w2, hw2, z0, z1, b3⟩ := end_box B2 bb (by omega) (s.extract (K + N) s.size) 0
  rw [← hw2]
  have z2 : w2.drew.cell? ⟨w.heap.size + 1, 0, none⟩ = some (.string (s.extract (K + N) s.size)) := z0
  have z3 : w2.drew.cell? ⟨w.heap.size + 1, 1, none⟩ = some (.int .i64 0) := z1
  refine bodyPost_ret (by simp [results, Try.results46, go_sem, z2, z3]; try rfl) rfl ?_
  exact ⟨by rw [HT.out]; rfl, b3.drew⟩
end
theorem rtextT_any (s : ByteArray) (e most : Int) (hs : s.size ≤ 281474976710656) (hm1 : most ≤ 9223372036854775807) (w : World) :
    Calls Try.prog 46 #[.agg #[.string s, .int .i64 e], .int .i64 most] w fun r w' => r = .returned (rv (tText s e most) (vText (tText s e most))) ∧ Below w.heap.size w w' := by
  by_cases he : e = 0
  · subst he
    have HA := Lib.hid (ahead_any s hs)
    have hf := rdNum_facts s.data.toList
    rw [← Lib.size_eq] at hf
    rcases hR : rdNum s.data.toList with ⟨N, K, E⟩
    have hT := rdText_eq s most hR
    rw [hR] at HA hf
    unfold aheadV at HA
    simp only at hf HA
    obtain ⟨f1, f2, f3⟩ := hf
    by_cases hE : E = 0
    · subst hE
      rw [if_neg (by simp)] at hT
      by_cases h2 : max most 0 < (N : Int)
      · rw [if_pos h2] at hT
        have HT : Hid (tText s 0 most = (⟨#[]⟩, s, 2)) := by unfold Hid tText; rw [hT, tk_bad _ _ _ _ (by decide)]
        by_cases hm : most < 0
        · exact rtext_neg s N K most w HA (by omega) hm HT
        · exact rtext_long s N K most w HA (by omega) hm (by omega) hm1 (by omega) HT
      · rw [if_neg h2] at hT
        by_cases h3 : s.size - K < N
        · rw [if_pos h3] at hT
          have HT : Hid (tText s 0 most = (⟨#[]⟩, s, 5)) := by unfold Hid tText; rw [hT, tk_bad _ _ _ _ (by decide)]
          exact rtext_short s N K most w HA hs f2 (by omega) (by omega) hm1 (by omega) (by omega) HT
        · rw [if_neg h3] at hT
          have HT : Hid (tText s 0 most = (s.extract K (K + N), s.extract (K + N) s.size, 0)) := by unfold Hid tText; rw [hT, tk_ok]
          by_cases hm : most < 0
          · exact rtext_ok0 s N K most w HA hs f2 hm (by omega) (by omega) HT
          · exact rtext_ok s N K most w HA hs f2 hm (by omega) hm1 (by omega) (by omega) HT
    · rw [if_pos hE] at hT
      have HT : Hid (tText s 0 most = (⟨#[]⟩, s, E)) := by unfold Hid tText; rw [hT, tk_bad _ _ _ _ hE]
      exact rtext_bad s N K most w E hE HA HT
  · exact rtext_stays s e most he w
end Go.Proofs.Ytgenefamhhncbaa.Bt
