/-
  WHAT THE ROWS REST ON, part 5: BRefs2 Rds Rre Rlaw Blaw.
-/
import Derived.BigRegion
import Derived.Test.YthdkflmkcoabaaaPart4
/-
  THE DOCUMENT'S OWN TAPE: flags and texts.
-/
namespace Go.Proofs.Ythdkflmkcoabaaa.Bt
open Go.RowKit Go.Sort
/-- a text: each way -/
theorem rtext_stays (s : ByteArray) (e most : Int) (he : e ≠ 0) (w : World) :
    Calls Try.prog 52 #[.agg #[.string s, .int .i64 e], .int .i64 most] w fun r w' => r = .returned (rv (tText s e most) (vText (tText s e most))) ∧ Below w.heap.size w w' := by
  have heb : (e != 0) = true := by simp [he]
  have ht := Lib.hid (tk_stays ⟨#[]⟩ s (rdText s most) he)
  go_enter Try.func52, Try.ntmps52
  go_wp2_with fail
  go_returns
  unfold tText
  rw [ht.out]
  exact ⟨rfl, ((Below.refl _ w).alloc (Nat.le_refl _) _).alloc (by simp) _⟩
section
variable (s : ByteArray) (N K : Nat) (most : Int) (w : World)
set_option maxHeartbeats 2000000 in
theorem rtext_bad (E : Int) (hE : E ≠ 0) (HA : Hid (∀ w, Calls Try.prog 69 #[.string s] w fun e w' => e = .returned (.tuple #[.int .u64 (N : Int), .int .i64 (K : Int), .int .i64 E]) ∧ Below w.heap.size w w'))
    (HT : Hid (tText s 0 most = (⟨#[]⟩, s, E))) :
    Calls Try.prog 52 #[.agg #[.string s, .int .i64 0], .int .i64 most] w fun r w' => r = .returned (rv (tText s 0 most) (vText (tText s 0 most))) ∧ Below w.heap.size w w' := by
  have heb : (E != 0) = true := by simp [hE]
  go_enter Try.func52, Try.ntmps52
  go_wp2_with fail
  refine (HA.out _).mono ?_
  rintro r w1 ⟨rfl, b1⟩
  have B1 := ((box_new w s 0).alloc (.cells #[.string ⟨#[]⟩, .int .i64 0] 78)).next b1
  have B2 := (box_new1 w (.cells #[.string s, .int .i64 0] 78) ⟨#[]⟩ 0).next b1
  have bb : Below w.heap.size w w1 := (((Below.refl _ w).alloc (Nat.le_refl _) _).alloc (by simp) _).trans (b1.mono (by simp; omega))
  clear b1
  have x0 := B1.c0
  have x1 := B1.c1
  have y0 := B2.c0
  have y1 := B2.c1
  have yf0 := B2.f 0
  have yf1 := B2.f 1
  go_wp2_with fail
  obtain ⟨w2, hw2, z0, z1, b3⟩ := end_box B2 bb (by omega) s E
  rw [← hw2]
  refine bodyPost_ret (by simp [results, Try.results52, go_sem, z0, z1]; try rfl) rfl ?_
  exact ⟨by rw [HT.out]; rfl, b3⟩
set_option maxHeartbeats 2000000 in
theorem rtext_neg (HA : Hid (∀ w, Calls Try.prog 69 #[.string s] w fun e w' => e = .returned (.tuple #[.int .u64 (N : Int), .int .i64 (K : Int), .int .i64 0]) ∧ Below w.heap.size w w')) (hN : 0 < (N : Int)) (hm : most < 0)
    (HT : Hid (tText s 0 most = (⟨#[]⟩, s, 2))) :
    Calls Try.prog 52 #[.agg #[.string s, .int .i64 0], .int .i64 most] w fun r w' => r = .returned (rv (tText s 0 most) (vText (tText s 0 most))) ∧ Below w.heap.size w w' := by
  go_enter Try.func52, Try.ntmps52
  go_wp2_with fail
  refine (HA.out _).mono ?_
  rintro r w1 ⟨rfl, b1⟩
  have B1 := ((box_new w s 0).alloc (.cells #[.string ⟨#[]⟩, .int .i64 0] 78)).next b1
  have B2 := (box_new1 w (.cells #[.string s, .int .i64 0] 78) ⟨#[]⟩ 0).next b1
  have bb : Below w.heap.size w w1 := (((Below.refl _ w).alloc (Nat.le_refl _) _).alloc (by simp) _).trans (b1.mono (by simp; omega))
  clear b1
  have x0 := B1.c0
  have x1 := B1.c1
  have y0 := B2.c0
  have y1 := B2.c1
  have yf0 := B2.f 0
  have yf1 := B2.f 1
  go_wp2_with fail
  obtain ⟨w2, hw2, z0, z1, b3⟩ := end_box B2 bb (by omega) s 2
  rw [← hw2]
  refine bodyPost_ret (by simp [results, Try.results52, go_sem, z0, z1]; try rfl) rfl ?_
  exact ⟨by rw [HT.out]; rfl, b3⟩
set_option maxHeartbeats 2000000 in
theorem rtext_long (HA : Hid (∀ w, Calls Try.prog 69 #[.string s] w fun e w' => e = .returned (.tuple #[.int .u64 (N : Int), .int .i64 (K : Int), .int .i64 0]) ∧ Below w.heap.size w w')) (hN : 0 < (N : Int)) (_hm : ¬ most < 0) (hm2 : 0 ≤ most) (hm3 : most ≤ 9223372036854775807) (hl : most < (N : Int))
    (HT : Hid (tText s 0 most = (⟨#[]⟩, s, 2))) :
    Calls Try.prog 52 #[.agg #[.string s, .int .i64 0], .int .i64 most] w fun r w' => r = .returned (rv (tText s 0 most) (vText (tText s 0 most))) ∧ Below w.heap.size w w' := by
  go_enter Try.func52, Try.ntmps52
  go_wp2_with fail
  refine (HA.out _).mono ?_
  rintro r w1 ⟨rfl, b1⟩
  have B1 := ((box_new w s 0).alloc (.cells #[.string ⟨#[]⟩, .int .i64 0] 78)).next b1
  have B2 := (box_new1 w (.cells #[.string s, .int .i64 0] 78) ⟨#[]⟩ 0).next b1
  have bb : Below w.heap.size w w1 := (((Below.refl _ w).alloc (Nat.le_refl _) _).alloc (by simp) _).trans (b1.mono (by simp; omega))
  clear b1
  have x0 := B1.c0
  have x1 := B1.c1
  have y0 := B2.c0
  have y1 := B2.c1
  have yf0 := B2.f 0
  have yf1 := B2.f 1
  go_wp2_with fail
  obtain ⟨w2, hw2, z0, z1, b3⟩ := end_box B2 bb (by omega) s 2
  rw [← hw2]
  refine bodyPost_ret (by simp [results, Try.results52, go_sem, z0, z1]; try rfl) rfl ?_
  exact ⟨by rw [HT.out]; rfl, b3⟩
set_option maxHeartbeats 2000000 in
theorem rtext_short (HA : Hid (∀ w, Calls Try.prog 69 #[.string s] w fun e w' => e = .returned (.tuple #[.int .u64 (N : Int), .int .i64 (K : Int), .int .i64 0]) ∧ Below w.heap.size w w')) (hs : s.size ≤ 281474976710656) (hK : K ≤ s.size) (_hm : ¬ most < 0) (hm2 : 0 ≤ most) (hm3 : most ≤ 9223372036854775807) (hl : ¬ most < (N : Int)) (hd : (s.size : Int) - (K : Int) < (N : Int))
    (HT : Hid (tText s 0 most = (⟨#[]⟩, s, 5))) :
    Calls Try.prog 52 #[.agg #[.string s, .int .i64 0], .int .i64 most] w fun r w' => r = .returned (rv (tText s 0 most) (vText (tText s 0 most))) ∧ Below w.heap.size w w' := by
  go_enter Try.func52, Try.ntmps52
  go_wp2_with fail
  refine (HA.out _).mono ?_
  rintro r w1 ⟨rfl, b1⟩
  have B1 := ((box_new w s 0).alloc (.cells #[.string ⟨#[]⟩, .int .i64 0] 78)).next b1
  have B2 := (box_new1 w (.cells #[.string s, .int .i64 0] 78) ⟨#[]⟩ 0).next b1
  have bb : Below w.heap.size w w1 := (((Below.refl _ w).alloc (Nat.le_refl _) _).alloc (by simp) _).trans (b1.mono (by simp; omega))
  clear b1
  have x0 := B1.c0
  have x1 := B1.c1
  have y0 := B2.c0
  have y1 := B2.c1
  have yf0 := B2.f 0
  have yf1 := B2.f 1
  go_wp2_with fail
  obtain ⟨w2, hw2, z0, z1, b3⟩ := end_box B2 bb (by omega) s 5
  rw [← hw2]
  refine bodyPost_ret (by simp [results, Try.results52, go_sem, z0, z1]; try rfl) rfl ?_
  exact ⟨by rw [HT.out]; rfl, b3⟩
set_option maxHeartbeats 4000000 in
theorem rtext_ok (HA : Hid (∀ w, Calls Try.prog 69 #[.string s] w fun e w' => e = .returned (.tuple #[.int .u64 (N : Int), .int .i64 (K : Int), .int .i64 0]) ∧ Below w.heap.size w w')) (hs : s.size ≤ 281474976710656) (hK : K ≤ s.size) (_hm : ¬ most < 0) (hm2 : 0 ≤ most) (hm3 : most ≤ 9223372036854775807) (hl : ¬ most < (N : Int)) (hd : ¬ (s.size : Int) - (K : Int) < (N : Int))
    (HT : Hid (tText s 0 most = (s.extract K (K + N), s.extract (K + N) s.size, 0))) :
    Calls Try.prog 52 #[.agg #[.string s, .int .i64 0], .int .i64 most] w fun r w' => r = .returned (rv (tText s 0 most) (vText (tText s 0 most))) ∧ Below w.heap.size w w' := by
  go_enter Try.func52, Try.ntmps52
  go_wp2_with fail
  refine (HA.out _).mono ?_
  rintro r w1 ⟨rfl, b1⟩
  have B1 := ((box_new w s 0).alloc (.cells #[.string ⟨#[]⟩, .int .i64 0] 78)).next b1
  have B2 := (box_new1 w (.cells #[.string s, .int .i64 0] 78) ⟨#[]⟩ 0).next b1
  have bb : Below w.heap.size w w1 := (((Below.refl _ w).alloc (Nat.le_refl _) _).alloc (by simp) _).trans (b1.mono (by simp; omega))
  clear b1
  have x0 := B1.c0
  have x1 := B1.c1
  have y0 := B2.c0
  have y1 := B2.c1
  have yf0 := B2.f 0
  have yf1 := B2.f 1
  go_wp2_with fail
  have hx0 : ∀ v v', ((w1.setCell ⟨w.heap.size + 1, 0, none⟩ v).setCell ⟨w.heap.size + 1, 1, none⟩ v').cell? ⟨w.heap.size, 0, none⟩ = some (.string s) := fun v v' => by
    have := B1
    unfold BoxAt at this
    have hne : w.heap.size + 1 ≠ w.heap.size := by omega
    simp [World.cell?, World.setCell, Array.getElem?_modify, this]
  have k1 : IntKind.i64.wrap ((K : Int) + (N : Int)) = (K : Int) + (N : Int) := IntWalk.i64_in _ ⟨by omega, by omega⟩
  have k2 : (0 : Int) ≤ (K : Int) + (N : Int) := by omega
  have k3 : ((K : Int) + (N : Int)).toNat = K + N := by omega
  have k4 : (K : Int) ≤ (K : Int) + (N : Int) := by omega
  have k5 : (K : Int) + (N : Int) ≤ (s.size : Int) := by omega
  have k6 : K + N ≤ s.size := by omega
  have k7 : K ≤ K + N := by omega
  have k8 : IntKind.i64.wrap (N : Int) = (N : Int) := IntWalk.i64_in _ ⟨by omega, by omega⟩
  go_region
  go_wp2_with fail
  obtain ⟨w2, hw2, z0, z1, b3⟩ := end_box B2 bb (by omega) (s.extract (K + N) s.size) 0
  rw [← hw2]
  have z2 : w2.drew.cell? ⟨w.heap.size + 1, 0, none⟩ = some (.string (s.extract (K + N) s.size)) := z0
  have z3 : w2.drew.cell? ⟨w.heap.size + 1, 1, none⟩ = some (.int .i64 0) := z1
  refine bodyPost_ret (by simp [results, Try.results52, go_sem, z2, z3]; try rfl) rfl ?_
  exact ⟨by rw [HT.out]; rfl, b3.drew⟩
set_option maxHeartbeats 4000000 in
theorem rtext_ok0 (HA : Hid (∀ w, Calls Try.prog 69 #[.string s] w fun e w' => e = .returned (.tuple #[.int .u64 (N : Int), .int .i64 (K : Int), .int .i64 0]) ∧ Below w.heap.size w w')) (hs : s.size ≤ 281474976710656) (hK : K ≤ s.size) (hm : most < 0) (hN : ¬ 0 < (N : Int)) (hd : ¬ (s.size : Int) - (K : Int) < (N : Int))
    (HT : Hid (tText s 0 most = (s.extract K (K + N), s.extract (K + N) s.size, 0))) :
    Calls Try.prog 52 #[.agg #[.string s, .int .i64 0], .int .i64 most] w fun r w' => r = .returned (rv (tText s 0 most) (vText (tText s 0 most))) ∧ Below w.heap.size w w' := by
  go_enter Try.func52, Try.ntmps52
  go_wp2_with fail
  refine (HA.out _).mono ?_
  rintro r w1 ⟨rfl, b1⟩
  have B1 := ((box_new w s 0).alloc (.cells #[.string ⟨#[]⟩, .int .i64 0] 78)).next b1
  have B2 := (box_new1 w (.cells #[.string s, .int .i64 0] 78) ⟨#[]⟩ 0).next b1
  have bb : Below w.heap.size w w1 := (((Below.refl _ w).alloc (Nat.le_refl _) _).alloc (by simp) _).trans (b1.mono (by simp; omega))
  clear b1
  have x0 := B1.c0
  have x1 := B1.c1
  have y0 := B2.c0
  have y1 := B2.c1
  have yf0 := B2.f 0
  have yf1 := B2.f 1
  go_wp2_with fail
  have hx0 : ∀ v v', ((w1.setCell ⟨w.heap.size + 1, 0, none⟩ v).setCell ⟨w.heap.size + 1, 1, none⟩ v').cell? ⟨w.heap.size, 0, none⟩ = some (.string s) := fun v v' => by
    have := B1
    unfold BoxAt at this
    have hne : w.heap.size + 1 ≠ w.heap.size := by omega
    simp [World.cell?, World.setCell, Array.getElem?_modify, this]
  have k1 : IntKind.i64.wrap ((K : Int) + (N : Int)) = (K : Int) + (N : Int) := IntWalk.i64_in _ ⟨by omega, by omega⟩
  have k2 : (0 : Int) ≤ (K : Int) + (N : Int) := by omega
  have k3 : ((K : Int) + (N : Int)).toNat = K + N := by omega
  have k4 : (K : Int) ≤ (K : Int) + (N : Int) := by omega
  have k5 : (K : Int) + (N : Int) ≤ (s.size : Int) := by omega
  have k6 : K + N ≤ s.size := by omega
  have k7 : K ≤ K + N := by omega
  have k8 : IntKind.i64.wrap (N : Int) = (N : Int) := IntWalk.i64_in _ ⟨by omega, by omega⟩
  go_region
  go_wp2_with fail
  obtain ⟨w2, hw2, z0, z1, b3⟩ := end_box B2 bb (by omega) (s.extract (K + N) s.size) 0
  rw [← hw2]
  have z2 : w2.drew.cell? ⟨w.heap.size + 1, 0, none⟩ = some (.string (s.extract (K + N) s.size)) := z0
  have z3 : w2.drew.cell? ⟨w.heap.size + 1, 1, none⟩ = some (.int .i64 0) := z1
  refine bodyPost_ret (by simp [results, Try.results52, go_sem, z2, z3]; try rfl) rfl ?_
  exact ⟨by rw [HT.out]; rfl, b3.drew⟩
end
theorem rtextT_any (s : ByteArray) (e most : Int) (hs : s.size ≤ 281474976710656) (hm1 : most ≤ 9223372036854775807) (w : World) :
    Calls Try.prog 52 #[.agg #[.string s, .int .i64 e], .int .i64 most] w fun r w' => r = .returned (rv (tText s e most) (vText (tText s e most))) ∧ Below w.heap.size w w' := by
  by_cases he : e = 0
  · subst he
    have HA := Lib.hid (ahead_any s hs)
    have hf := rdNum_facts s.data.toList
    rw [← Lib.size_eq] at hf
    rcases hR : rdNum s.data.toList with ⟨N, K, E⟩
    have hT := rdText_eq s most hR
    rw [hR] at HA hf
    unfold aheadV at HA
    simp only at hf HA
    obtain ⟨f1, f2, f3⟩ := hf
    by_cases hE : E = 0
    · subst hE
      rw [if_neg (by simp)] at hT
      by_cases h2 : max most 0 < (N : Int)
      · rw [if_pos h2] at hT
        have HT : Hid (tText s 0 most = (⟨#[]⟩, s, 2)) := by unfold Hid tText; rw [hT, tk_bad _ _ _ _ (by decide)]
        by_cases hm : most < 0
        · exact rtext_neg s N K most w HA (by omega) hm HT
        · exact rtext_long s N K most w HA (by omega) hm (by omega) hm1 (by omega) HT
      · rw [if_neg h2] at hT
        by_cases h3 : s.size - K < N
        · rw [if_pos h3] at hT
          have HT : Hid (tText s 0 most = (⟨#[]⟩, s, 5)) := by unfold Hid tText; rw [hT, tk_bad _ _ _ _ (by decide)]
          exact rtext_short s N K most w HA hs f2 (by omega) (by omega) hm1 (by omega) (by omega) HT
        · rw [if_neg h3] at hT
          have HT : Hid (tText s 0 most = (s.extract K (K + N), s.extract (K + N) s.size, 0)) := by unfold Hid tText; rw [hT, tk_ok]
          by_cases hm : most < 0
          · exact rtext_ok0 s N K most w HA hs f2 hm (by omega) (by omega) HT
          · exact rtext_ok s N K most w HA hs f2 hm (by omega) hm1 (by omega) (by omega) HT
    · rw [if_pos hE] at hT
      have HT : Hid (tText s 0 most = (⟨#[]⟩, s, E)) := by unfold Hid tText; rw [hT, tk_bad _ _ _ _ hE]
      exact rtext_bad s N K most w E hE HA HT
  · exact rtext_stays s e most he w
end Go.Proofs.Ythdkflmkcoabaaa.Bt
/-
  A SNAPSHOT TAKEN OFF A TAPE, AND READ OF A TEXT: takeSnap, read, ReadSnap.
-/
namespace Go.Proofs.Ythdkflmkcoabaaa
open Go.RowKit
/-- four cells stored -/
def set4 (w : World) (Y : Nat) (a b c d : Value) : World := (((w.setCell ⟨Y, 0, none⟩ a).setCell ⟨Y, 1, none⟩ b).setCell ⟨Y, 2, none⟩ c).setCell ⟨Y, 3, none⟩ d
theorem set4_all {w : World} {Y t : Nat} {x0 x1 x2 x3 : Value} (a b c d : Value) (K : Blk w Y t #[x0, x1, x2, x3]) : Blk (set4 w Y a b c d) Y t #[a, b, c, d] ∧ Fr w (set4 w Y a b c d) (fun q => q = Y) := by
  refine ⟨(((K.set 0 a).set 1 b).set 2 c).set 3 d, ?_⟩
  unfold set4
  exact (((fr_set w Y 0 a).trans (fr_set _ Y 1 b) (R := fun q => q = Y) (fun _ _ h => h) (fun _ _ h => h)).trans (fr_set _ Y 2 c) (R := fun q => q = Y) (fun _ _ h => h) (fun _ _ h => h)).trans (fr_set _ Y 3 d) (R := fun q => q = Y) (fun _ _ h => h) (fun _ _ h => h)
theorem set4_below {w wa : World} {Y t : Nat} {x0 x1 x2 x3 : Value} (a b c d : Value) (K : Blk wa Y t #[x0, x1, x2, x3]) (B : Below Y w wa) : Below Y w (set4 wa Y a b c d) :=
  B.trans ((set4_all a b c d K).2.below (B := Y) (fun _ hq => Nat.le_of_eq hq.symm) (Nat.le_of_lt K.lt))
set_option maxHeartbeats 4000000 in
theorem takeSnap_any {w : World} {b : Nat} {s : ByteArray} (h : Bt.TapeAt w b s 0) (hs : s.size ≤ 281474976710656) :
    Calls Try.prog 51 #[.pointer (some ⟨b, 0, none⟩)] w fun r w' => r = .returned (snapV (rsI s) (rsT s) (rsM s) (rsS s)) ∧ Fr w w' (fun q => q = b) ∧ Bt.TapeAt w' b (ts4 s).2.1 (ts4 s).2.2 := by
  have hlt := h.lt
  have l1 := ts1_le s
  have l2 := ts2_le s
  have l3 := ts3_le s
  have bA : Below w.heap.size w (w.alloc (.cells #[.int .i64 0, .int .i64 0, .int .i64 0, .string ⟨#[]⟩] 25)) := (Below.refl _ w).alloc (Nat.le_refl _) _
  have hA := h.below bA hlt
  have N1 := Lib.hid (Bt.tapeNum_any hA hs)
  have N2 := Lib.hid (fun W (hW : Bt.TapeAt W b (ts1 s).2.1 (ts1 s).2.2) => Bt.tapeNum_any hW (by omega))
  have N3 := Lib.hid (fun W (hW : Bt.TapeAt W b (ts2 s).2.1 (ts2 s).2.2) => Bt.tapeNum_any hW (by omega))
  have N4 := Lib.hid (fun W (hW : Bt.TapeAt W b (ts3 s).2.1 (ts3 s).2.2) => Bt.tapeText_any hW (most := 262144) (by omega) (by decide) (by decide))
  rw [show Bt.tNum s 0 = ts1 s from rfl] at N1
  rw [show Bt.tNum (ts1 s).2.1 (ts1 s).2.2 = ts2 s from rfl] at N2
  rw [show Bt.tNum (ts2 s).2.1 (ts2 s).2.2 = ts3 s from rfl] at N3
  rw [show Bt.tText (ts3 s).2.1 (ts3 s).2.2 262144 = ts4 s from rfl] at N4
  have FA := Lib.hid (Fr.of_below bA (fun q => q = b))
  have BK := Lib.hid (Blk.new w 25 #[.int .i64 0, .int .i64 0, .int .i64 0, .string ⟨#[]⟩])
  unfold Bt.vNum at N1 N2 N3
  unfold Bt.vText at N4
  unfold snapV rsI rsT rsM rsS
  generalize ts4 s = x4 at *
  generalize ts3 s = x3 at *
  generalize ts2 s = x2 at *
  generalize ts1 s = x1 at *
  obtain ⟨n1, s1, e1⟩ := x1
  obtain ⟨n2, s2, e2⟩ := x2
  obtain ⟨n3, s3, e3⟩ := x3
  obtain ⟨n4, s4, e4⟩ := x4
  simp only at N1 N2 N3 N4 ⊢
  clear h hA bA l1 l2 l3
  generalize hy : w.heap.size = Y at *
  go_enter Try.func51, Try.ntmps51
  go_wp2_with fail
  refine N1.out.mono ?_
  rintro e w1 ⟨rfl, g1, t1⟩
  have F1 := Fr.grown g1
  have K1h := Lib.hid (BK.out.fr F1 (by omega))
  have F1h := Lib.hid (FA.out.trans F1 (R := fun q => q = b) (fun _ _ h => h) (fun _ _ h => h))
  have I2 := Lib.hid (N2.out _ t1)
  clear g1 F1 t1 N1 N2 FA BK
  go_wp2_with fail
  refine I2.out.mono ?_
  rintro e w2 ⟨rfl, g2, t2⟩
  have F2 := Fr.grown g2
  have K2h := Lib.hid (K1h.out.fr F2 (by omega))
  have F2h := Lib.hid (F1h.out.trans F2 (R := fun q => q = b) (fun _ _ h => h) (fun _ _ h => h))
  have I3 := Lib.hid (N3.out _ t2)
  clear g2 F2 t2 I2 N3 F1h K1h
  go_wp2_with fail
  refine I3.out.mono ?_
  rintro e w3 ⟨rfl, g3, t3⟩
  have F3 := Fr.grown g3
  have K3h := Lib.hid (K2h.out.fr F3 (by omega))
  have F3h := Lib.hid (F2h.out.trans F3 (R := fun q => q = b) (fun _ _ h => h) (fun _ _ h => h))
  have I4 := Lib.hid (N4.out _ t3)
  clear g3 F3 t3 I3 N4 F2h K2h
  go_wp2_with fail
  refine I4.out.mono ?_
  rintro e w4 ⟨rfl, g4, t4⟩
  have F4 := Fr.grown g4
  have K4h := Lib.hid (K3h.out.fr F4 (by omega))
  have F4h := Lib.hid (F3h.out.trans F4 (R := fun q => q = b) (fun _ _ h => h) (fun _ _ h => h))
  have t4h := Lib.hid t4
  clear g4 F4 t4 I4 F3h K3h
  have c0 : w4.cell? ⟨Y, 0, none⟩ = some (.int .i64 0) := K4h.out.cell 0
  have c1 : w4.cell? ⟨Y, 1, none⟩ = some (.int .i64 0) := K4h.out.cell 1
  have c2 : w4.cell? ⟨Y, 2, none⟩ = some (.int .i64 0) := K4h.out.cell 2
  have c3 : w4.cell? ⟨Y, 3, none⟩ = some (.string ⟨#[]⟩) := K4h.out.cell 3
  have f0 := K4h.out.free 0
  have f1 := K4h.out.free 1
  have f2 := K4h.out.free 2
  have f3 := K4h.out.free 3
  go_wp2_with fail
  obtain ⟨K5, FS⟩ := set4_all (.int .i64 (wrap64 (n1 : Int))) (.int .i64 (wrap64 (n2 : Int))) (.int .i64 (wrap64 (n3 : Int))) (.string n4) K4h.out
  have F5 := Lib.hid (F4h.out.trans FS (R := fun q => q = b) (fun _ _ h => h) (fun q hq h => by omega))
  have T5 := Lib.hid (t4h.out.fr2 FS (by omega))
  unfold set4 at K5 F5 T5
  clear F4h t4h K4h FS f0 f1 f2 f3 c0 c1 c2 c3
  generalize (((w4.setCell ⟨Y, 0, none⟩ (.int .i64 (wrap64 (n1 : Int)))).setCell ⟨Y, 1, none⟩ (.int .i64 (wrap64 (n2 : Int)))).setCell ⟨Y, 2, none⟩ (.int .i64 (wrap64 (n3 : Int)))).setCell ⟨Y, 3, none⟩ (.string n4) = w5 at *
  have z0 : w5.cell? ⟨Y, 0, none⟩ = some (.int .i64 (wrap64 (n1 : Int))) := K5.cell 0
  have z1 : w5.cell? ⟨Y, 1, none⟩ = some (.int .i64 (wrap64 (n2 : Int))) := K5.cell 1
  have z2 : w5.cell? ⟨Y, 2, none⟩ = some (.int .i64 (wrap64 (n3 : Int))) := K5.cell 2
  have z3 : w5.cell? ⟨Y, 3, none⟩ = some (.string n4) := K5.cell 3
  refine bodyPost_ret (by simp [results, Try.results51, go_sem, z0, z1, z2, z3]; try rfl) rfl ?_
  exact ⟨rfl, F5.out, T5.out⟩
set_option maxHeartbeats 8000000 in
theorem read_snap (s : ByteArray) (hs : s.size ≤ 281474976710656) (w : World) :
    Calls Try.prog 50 #[.string s, .func (.func 51) #[] #[], .func (.func 41) #[] #[]] w fun e w' => e = .returned (.tuple #[snapV (rsV s).1 (rsV s).2.1 (rsV s).2.2.1 (rsV s).2.2.2.1, .int .i64 (rsV s).2.2.2.2]) ∧ Below w.heap.size w w' := by
  have A := Lib.hid (fun W => Bt.at_any s W hs)
  have TK := Lib.hid (fun W b (h : Bt.TapeAt W b s 0) => takeSnap_any h hs)
  have EN := Lib.hid (fun W b (h : Bt.TapeAt W b (ts4 s).2.1 (ts4 s).2.2) => Bt.end_any h)
  have MY := Lib.hid (fun W => snapMay_any (rsI s) (rsT s) (rsM s) (rsS s) W)
  rw [show Bt.endE (ts4 s).2.1 (ts4 s).2.2 = rsE s from rfl] at EN
  have R : ∃ a b c d n, rsV s = (a, b, c, d, n) ∧ ((rsE s ≠ 0 ∧ a = 0 ∧ b = 0 ∧ c = 0 ∧ d = ⟨#[]⟩ ∧ n = 3) ∨ (rsE s = 0 ∧ snapB (rsI s) (rsT s) (rsM s) (rsS s) = false ∧ a = 0 ∧ b = 0 ∧ c = 0 ∧ d = ⟨#[]⟩ ∧ n = 3) ∨ (rsE s = 0 ∧ snapB (rsI s) (rsT s) (rsM s) (rsS s) = true ∧ a = rsI s ∧ b = rsT s ∧ c = rsM s ∧ d = rsS s ∧ n = 0)) := by
    unfold rsV
    by_cases h1 : rsE s = 0
    · cases h2 : snapB (rsI s) (rsT s) (rsM s) (rsS s)
      · exact ⟨_, _, _, _, _, by rw [if_neg (by simp)], .inr (.inl ⟨h1, rfl, rfl, rfl, rfl, rfl, rfl⟩)⟩
      · exact ⟨_, _, _, _, _, by rw [if_pos ⟨h1, rfl⟩], .inr (.inr ⟨h1, rfl, rfl, rfl, rfl, rfl, rfl⟩)⟩
    · exact ⟨_, _, _, _, _, by rw [if_neg (fun h => h1 h.1)], .inl ⟨h1, rfl, rfl, rfl, rfl, rfl⟩⟩
  obtain ⟨ra, rb, rc, rd, rn, hR, R⟩ := R
  rw [hR]
  simp only
  clear hR
  generalize ts4 s = y at *
  generalize rsE s = E at *
  generalize rsI s = T0 at *
  generalize rsT s = T1 at *
  generalize rsM s = T2 at *
  generalize rsS s = T3 at *
  generalize hb : snapB T0 T1 T2 T3 = bb at *
  unfold snapV at *
  have K0 := Lib.hid (Blk.new w 25 #[.int .i64 0, .int .i64 0, .int .i64 0, .string ⟨#[]⟩])
  have bA := Lib.hid ((Below.refl _ w).alloc (Nat.le_refl _) (.cells #[.int .i64 0, .int .i64 0, .int .i64 0, .string ⟨#[]⟩] 25))
  generalize hy : w.heap.size = Y at *
  go_enter Try.func50, Try.ntmps50
  go_wp2_with fail
  refine (A.out _).mono ?_
  rintro e w1 ⟨b, rfl, hbY, t1, b1⟩
  have hbY' : Y < b := by have h := hbY; simp [hy] at h; omega
  have K1 := Lib.hid (K0.out.below b1 (by simp [hy]))
  have B1 := Lib.hid (bA.out.trans (b1.mono (by simp [hy])))
  have TK1 := Lib.hid (TK.out _ _ t1)
  clear t1 b1 K0 bA A TK hbY
  go_wp2_with fail
  refine TK1.out.mono ?_
  rintro e w2 ⟨rfl, f2, t2⟩
  have K2 := K1.out.fr f2 (by omega)
  have B2 := B1.out.trans (f2.below (B := Y) (fun q hq => by omega) (by have := B1.out.size; omega))
  have hY2 : Y < w2.heap.size := K2.lt
  have hb2 : b < w2.heap.size := t2.lt
  have bC := (Below.refl w2.heap.size w2).alloc (Nat.le_refl _) (.cells #[.int .i64 T0, .int .i64 T1, .int .i64 T2, .string T3] 25)
  have EN1 := Lib.hid (EN.out _ _ (t2.below bC hb2))
  have K2h := Lib.hid (K2.below bC hY2)
  have B2h := Lib.hid (B2.trans (bC.mono (by have := B2.size; omega)))
  have N2h := Lib.hid (Blk.new w2 25 #[.int .i64 T0, .int .i64 T1, .int .i64 T2, .string T3])
  clear f2 t2 TK1 K1 B1 K2 B2 bC EN
  go_wp2_with fail
  refine EN1.out.mono ?_
  rintro e w3' ⟨rfl, rfl⟩
  have hZ : Y < w2.heap.size := hY2
  have hs3 : w2.heap.size < (w2.alloc (.cells #[.int .i64 T0, .int .i64 T1, .int .i64 T2, .string T3] 25)).heap.size := N2h.out.lt
  generalize w2.alloc (.cells #[.int .i64 T0, .int .i64 T1, .int .i64 T2, .string T3] 25) = w3 at *
  generalize w2.heap.size = Z at *
  clear EN1 hY2 hb2
  rcases R with ⟨h1, rfl, rfl, rfl, rfl, rfl⟩ | ⟨rfl, rfl, rfl, rfl, rfl, rfl, rfl⟩ | ⟨rfl, rfl, rfl, rfl, rfl, rfl, rfl⟩
  · have hE : (E != 0) = true := by simpa using h1
    clear MY h1 N2h
    have bD := (Below.refl w3.heap.size w3).alloc (Nat.le_refl _) (.cells #[.int .i64 0, .int .i64 0, .int .i64 0, .string ⟨#[]⟩] 25)
    have BD := Lib.hid (B2h.out.trans (bD.mono (by have := B2h.out.size; omega)))
    have KK := Lib.hid (K2h.out.below bD (by omega))
    have c0 : (w3.alloc (.cells #[.int .i64 0, .int .i64 0, .int .i64 0, .string ⟨#[]⟩] 25)).cell? ⟨Y, 0, none⟩ = some (.int .i64 0) := KK.out.cell 0
    have c1 : (w3.alloc (.cells #[.int .i64 0, .int .i64 0, .int .i64 0, .string ⟨#[]⟩] 25)).cell? ⟨Y, 1, none⟩ = some (.int .i64 0) := KK.out.cell 1
    have c2 : (w3.alloc (.cells #[.int .i64 0, .int .i64 0, .int .i64 0, .string ⟨#[]⟩] 25)).cell? ⟨Y, 2, none⟩ = some (.int .i64 0) := KK.out.cell 2
    have c3 : (w3.alloc (.cells #[.int .i64 0, .int .i64 0, .int .i64 0, .string ⟨#[]⟩] 25)).cell? ⟨Y, 3, none⟩ = some (.string ⟨#[]⟩) := KK.out.cell 3
    have f0 : (w3.alloc (.cells #[.int .i64 0, .int .i64 0, .int .i64 0, .string ⟨#[]⟩] 25)).frozen? ⟨Y, 0, none⟩ = false := KK.out.free 0
    have f1 : (w3.alloc (.cells #[.int .i64 0, .int .i64 0, .int .i64 0, .string ⟨#[]⟩] 25)).frozen? ⟨Y, 1, none⟩ = false := KK.out.free 1
    have f2 : (w3.alloc (.cells #[.int .i64 0, .int .i64 0, .int .i64 0, .string ⟨#[]⟩] 25)).frozen? ⟨Y, 2, none⟩ = false := KK.out.free 2
    have f3 : (w3.alloc (.cells #[.int .i64 0, .int .i64 0, .int .i64 0, .string ⟨#[]⟩] 25)).frozen? ⟨Y, 3, none⟩ = false := KK.out.free 3
    clear bD
    go_wp2_with fail
    obtain ⟨K5, _⟩ := set4_all (.int .i64 0) (.int .i64 0) (.int .i64 0) (.string ⟨#[]⟩) KK.out
    have B5 := set4_below (.int .i64 0) (.int .i64 0) (.int .i64 0) (.string ⟨#[]⟩) KK.out BD.out
    unfold set4 at K5 B5
    clear c0 c1 c2 c3 f0 f1 f2 f3
    generalize (World.setCell (World.setCell (World.setCell (World.setCell (w3.alloc (.cells #[.int .i64 0, .int .i64 0, .int .i64 0, .string ⟨#[]⟩] 25)) ⟨Y, 0, none⟩ (.int .i64 0)) ⟨Y, 1, none⟩ (.int .i64 0)) ⟨Y, 2, none⟩ (.int .i64 0)) ⟨Y, 3, none⟩ (.string ⟨#[]⟩)) = w9 at *
    have z0 : w9.cell? ⟨Y, 0, none⟩ = some (.int .i64 0) := K5.cell 0
    have z1 : w9.cell? ⟨Y, 1, none⟩ = some (.int .i64 0) := K5.cell 1
    have z2 : w9.cell? ⟨Y, 2, none⟩ = some (.int .i64 0) := K5.cell 2
    have z3 : w9.cell? ⟨Y, 3, none⟩ = some (.string ⟨#[]⟩) := K5.cell 3
    refine bodyPost_ret (by simp [results, Try.results50, go_sem, z0, z1, z2, z3]; try rfl) rfl ?_
    exact ⟨rfl, B5⟩
  · have e0 : w3.cell? ⟨Z, 0, none⟩ = some (.int .i64 T0) := N2h.out.cell 0
    have e1 : w3.cell? ⟨Z, 1, none⟩ = some (.int .i64 T1) := N2h.out.cell 1
    have e2 : w3.cell? ⟨Z, 2, none⟩ = some (.int .i64 T2) := N2h.out.cell 2
    have e3 : w3.cell? ⟨Z, 3, none⟩ = some (.string T3) := N2h.out.cell 3
    go_wp2_with fail
    refine (MY.out _).mono ?_
    rintro e w4 ⟨rfl, b4⟩
    have K4 := Lib.hid (K2h.out.below b4 (by omega))
    have B4 := Lib.hid (B2h.out.trans (b4.mono (by have := B2h.out.size; omega)))
    clear b4 MY N2h K2h B2h e0 e1 e2 e3
    have bD := (Below.refl w4.heap.size w4).alloc (Nat.le_refl _) (.cells #[.int .i64 0, .int .i64 0, .int .i64 0, .string ⟨#[]⟩] 25)
    have BD := Lib.hid (B4.out.trans (bD.mono (by have := B4.out.size; omega)))
    have KK := Lib.hid (K4.out.below bD K4.out.lt)
    have c0 : (w4.alloc (.cells #[.int .i64 0, .int .i64 0, .int .i64 0, .string ⟨#[]⟩] 25)).cell? ⟨Y, 0, none⟩ = some (.int .i64 0) := KK.out.cell 0
    have c1 : (w4.alloc (.cells #[.int .i64 0, .int .i64 0, .int .i64 0, .string ⟨#[]⟩] 25)).cell? ⟨Y, 1, none⟩ = some (.int .i64 0) := KK.out.cell 1
    have c2 : (w4.alloc (.cells #[.int .i64 0, .int .i64 0, .int .i64 0, .string ⟨#[]⟩] 25)).cell? ⟨Y, 2, none⟩ = some (.int .i64 0) := KK.out.cell 2
    have c3 : (w4.alloc (.cells #[.int .i64 0, .int .i64 0, .int .i64 0, .string ⟨#[]⟩] 25)).cell? ⟨Y, 3, none⟩ = some (.string ⟨#[]⟩) := KK.out.cell 3
    have f0 : (w4.alloc (.cells #[.int .i64 0, .int .i64 0, .int .i64 0, .string ⟨#[]⟩] 25)).frozen? ⟨Y, 0, none⟩ = false := KK.out.free 0
    have f1 : (w4.alloc (.cells #[.int .i64 0, .int .i64 0, .int .i64 0, .string ⟨#[]⟩] 25)).frozen? ⟨Y, 1, none⟩ = false := KK.out.free 1
    have f2 : (w4.alloc (.cells #[.int .i64 0, .int .i64 0, .int .i64 0, .string ⟨#[]⟩] 25)).frozen? ⟨Y, 2, none⟩ = false := KK.out.free 2
    have f3 : (w4.alloc (.cells #[.int .i64 0, .int .i64 0, .int .i64 0, .string ⟨#[]⟩] 25)).frozen? ⟨Y, 3, none⟩ = false := KK.out.free 3
    clear bD
    go_wp2_with fail
    obtain ⟨K5, _⟩ := set4_all (.int .i64 0) (.int .i64 0) (.int .i64 0) (.string ⟨#[]⟩) KK.out
    have B5 := set4_below (.int .i64 0) (.int .i64 0) (.int .i64 0) (.string ⟨#[]⟩) KK.out BD.out
    unfold set4 at K5 B5
    clear c0 c1 c2 c3 f0 f1 f2 f3
    generalize (World.setCell (World.setCell (World.setCell (World.setCell (w4.alloc (.cells #[.int .i64 0, .int .i64 0, .int .i64 0, .string ⟨#[]⟩] 25)) ⟨Y, 0, none⟩ (.int .i64 0)) ⟨Y, 1, none⟩ (.int .i64 0)) ⟨Y, 2, none⟩ (.int .i64 0)) ⟨Y, 3, none⟩ (.string ⟨#[]⟩)) = w9 at *
    have z0 : w9.cell? ⟨Y, 0, none⟩ = some (.int .i64 0) := K5.cell 0
    have z1 : w9.cell? ⟨Y, 1, none⟩ = some (.int .i64 0) := K5.cell 1
    have z2 : w9.cell? ⟨Y, 2, none⟩ = some (.int .i64 0) := K5.cell 2
    have z3 : w9.cell? ⟨Y, 3, none⟩ = some (.string ⟨#[]⟩) := K5.cell 3
    refine bodyPost_ret (by simp [results, Try.results50, go_sem, z0, z1, z2, z3]; try rfl) rfl ?_
    exact ⟨rfl, B5⟩
  · have e0 : w3.cell? ⟨Z, 0, none⟩ = some (.int .i64 ra) := N2h.out.cell 0
    have e1 : w3.cell? ⟨Z, 1, none⟩ = some (.int .i64 rb) := N2h.out.cell 1
    have e2 : w3.cell? ⟨Z, 2, none⟩ = some (.int .i64 rc) := N2h.out.cell 2
    have e3 : w3.cell? ⟨Z, 3, none⟩ = some (.string rd) := N2h.out.cell 3
    go_wp2_with fail
    refine (MY.out _).mono ?_
    rintro e w4 ⟨rfl, b4⟩
    have KK := Lib.hid (K2h.out.below b4 (by omega))
    have N4 := Lib.hid (N2h.out.below b4 hs3)
    have BD := Lib.hid (B2h.out.trans (b4.mono (by have := B2h.out.size; omega)))
    clear b4 MY N2h K2h B2h e0 e1 e2 e3
    have e0 : w4.cell? ⟨Z, 0, none⟩ = some (.int .i64 ra) := N4.out.cell 0
    have e1 : w4.cell? ⟨Z, 1, none⟩ = some (.int .i64 rb) := N4.out.cell 1
    have e2 : w4.cell? ⟨Z, 2, none⟩ = some (.int .i64 rc) := N4.out.cell 2
    have e3 : w4.cell? ⟨Z, 3, none⟩ = some (.string rd) := N4.out.cell 3
    have c0 : w4.cell? ⟨Y, 0, none⟩ = some (.int .i64 0) := KK.out.cell 0
    have c1 : w4.cell? ⟨Y, 1, none⟩ = some (.int .i64 0) := KK.out.cell 1
    have c2 : w4.cell? ⟨Y, 2, none⟩ = some (.int .i64 0) := KK.out.cell 2
    have c3 : w4.cell? ⟨Y, 3, none⟩ = some (.string ⟨#[]⟩) := KK.out.cell 3
    have f0 : w4.frozen? ⟨Y, 0, none⟩ = false := KK.out.free 0
    have f1 : w4.frozen? ⟨Y, 1, none⟩ = false := KK.out.free 1
    have f2 : w4.frozen? ⟨Y, 2, none⟩ = false := KK.out.free 2
    have f3 : w4.frozen? ⟨Y, 3, none⟩ = false := KK.out.free 3
    go_wp2_with fail
    obtain ⟨K5, _⟩ := set4_all (.int .i64 ra) (.int .i64 rb) (.int .i64 rc) (.string rd) KK.out
    have B5 := set4_below (.int .i64 ra) (.int .i64 rb) (.int .i64 rc) (.string rd) KK.out BD.out
    unfold set4 at K5 B5
    clear c0 c1 c2 c3 f0 f1 f2 f3
    generalize (World.setCell (World.setCell (World.setCell (World.setCell w4 ⟨Y, 0, none⟩ (.int .i64 ra)) ⟨Y, 1, none⟩ (.int .i64 rb)) ⟨Y, 2, none⟩ (.int .i64 rc)) ⟨Y, 3, none⟩ (.string rd)) = w9 at *
    have z0 : w9.cell? ⟨Y, 0, none⟩ = some (.int .i64 ra) := K5.cell 0
    have z1 : w9.cell? ⟨Y, 1, none⟩ = some (.int .i64 rb) := K5.cell 1
    have z2 : w9.cell? ⟨Y, 2, none⟩ = some (.int .i64 rc) := K5.cell 2
    have z3 : w9.cell? ⟨Y, 3, none⟩ = some (.string rd) := K5.cell 3
    refine bodyPost_ret (by simp [results, Try.results50, go_sem, z0, z1, z2, z3]; try rfl) rfl ?_
    exact ⟨rfl, B5⟩
set_option maxHeartbeats 2000000 in
theorem readSnap_any (s : ByteArray) (hs : s.size ≤ 281474976710656) (w : World) :
    Calls Try.prog 16 #[.string s] w fun e w' => e = .returned (.tuple #[snapV (rsV s).1 (rsV s).2.1 (rsV s).2.2.1 (rsV s).2.2.2.1, .int .i64 (rsV s).2.2.2.2]) ∧ Below w.heap.size w w' := by
  have RD := Lib.hid (fun W => read_snap s hs W)
  generalize rsV s = r at *
  obtain ⟨ra, rb, rc, rd, rn⟩ := r
  simp only at RD ⊢
  unfold snapV at *
  have K0 := Lib.hid (Blk.new w 25 #[.int .i64 0, .int .i64 0, .int .i64 0, .string ⟨#[]⟩])
  have bA := Lib.hid ((Below.refl _ w).alloc (Nat.le_refl _) (.cells #[.int .i64 0, .int .i64 0, .int .i64 0, .string ⟨#[]⟩] 25))
  generalize hy : w.heap.size = Y at *
  go_enter Try.func16, Try.ntmps16
  go_wp2_with fail
  refine (RD.out _).mono ?_
  rintro e w1 ⟨rfl, b1⟩
  have KK := Lib.hid (K0.out.below b1 (by simp [hy]))
  have BD := Lib.hid (bA.out.trans (b1.mono (by simp [hy])))
  clear b1 K0 bA RD
  have c0 : w1.cell? ⟨Y, 0, none⟩ = some (.int .i64 0) := KK.out.cell 0
  have c1 : w1.cell? ⟨Y, 1, none⟩ = some (.int .i64 0) := KK.out.cell 1
  have c2 : w1.cell? ⟨Y, 2, none⟩ = some (.int .i64 0) := KK.out.cell 2
  have c3 : w1.cell? ⟨Y, 3, none⟩ = some (.string ⟨#[]⟩) := KK.out.cell 3
  have f0 : w1.frozen? ⟨Y, 0, none⟩ = false := KK.out.free 0
  have f1 : w1.frozen? ⟨Y, 1, none⟩ = false := KK.out.free 1
  have f2 : w1.frozen? ⟨Y, 2, none⟩ = false := KK.out.free 2
  have f3 : w1.frozen? ⟨Y, 3, none⟩ = false := KK.out.free 3
  go_wp2_with fail
  obtain ⟨K5, _⟩ := set4_all (.int .i64 ra) (.int .i64 rb) (.int .i64 rc) (.string rd) KK.out
  have B5 := set4_below (.int .i64 ra) (.int .i64 rb) (.int .i64 rc) (.string rd) KK.out BD.out
  unfold set4 at K5 B5
  clear c0 c1 c2 c3 f0 f1 f2 f3
  generalize (World.setCell (World.setCell (World.setCell (World.setCell w1 ⟨Y, 0, none⟩ (.int .i64 ra)) ⟨Y, 1, none⟩ (.int .i64 rb)) ⟨Y, 2, none⟩ (.int .i64 rc)) ⟨Y, 3, none⟩ (.string rd)) = w9 at *
  have z0 : w9.cell? ⟨Y, 0, none⟩ = some (.int .i64 ra) := K5.cell 0
  have z1 : w9.cell? ⟨Y, 1, none⟩ = some (.int .i64 rb) := K5.cell 1
  have z2 : w9.cell? ⟨Y, 2, none⟩ = some (.int .i64 rc) := K5.cell 2
  have z3 : w9.cell? ⟨Y, 3, none⟩ = some (.string rd) := K5.cell 3
  refine bodyPost_ret (by simp [results, Try.results16, go_sem, z0, z1, z2, z3]; try rfl) rfl ?_
  exact ⟨rfl, B5⟩
end Go.Proofs.Ythdkflmkcoabaaa
/-
  THE DOCUMENT'S OWN ReadVote.
-/
namespace Go.Proofs.Ythdkflmkcoabaaa
open Go.RowKit
theorem rnumber_any (n : Nat) (hn : n < 18446744073709551616) (w : World) : Calls Try.prog 48 #[.int .u64 (n : Int)] w fun e w' => e = .returned (.int .i64 (numR n)) ∧ w = w' := by
  unfold numR
  by_cases h : 549755813888 < n
  · rw [if_pos h]
    have h' : (549755813888 : Int) < (n : Int) := by omega
    clear hn
    go_enter Try.func48, Try.ntmps48
    go_wp2_with fail
    go_ret
    exact ⟨rfl, rfl⟩
  · rw [if_neg h]
    have h' : ¬ (549755813888 : Int) < (n : Int) := by omega
    have ew : IntKind.i64.wrap (n : Int) = (n : Int) := IntWalk.i64_in _ (by omega)
    clear hn
    go_enter Try.func48, Try.ntmps48
    go_wp2_with fail
    go_ret
    exact ⟨rfl, rfl⟩
theorem rend_any (s : ByteArray) (e : Int) (w : World) :
    Calls Try.prog 49 #[.agg #[.string s, .int .i64 e]] w fun r w' => r = .returned (.int .i64 (Bt.endE s e)) ∧ Below w.heap.size w w' := by
  by_cases he : e = 0
  · subst he
    by_cases hs : s.size = 0
    · have e0 : s = ⟨#[]⟩ := by
        apply ByteArray.ext
        exact Array.eq_empty_of_size_eq_zero hs
      subst e0
      go_enter Try.func49, Try.ntmps49
      go_wp2_with fail
      go_ret
      exact ⟨rfl, (Below.refl _ w).alloc (Nat.le_refl _) _⟩
    · have hne : s.toList.isEmpty = false := by
        rw [Lib.toList_data, Bt.head_drop s (by omega)]; rfl
      have hne2 : (!s.toList.isEmpty) = true := by rw [hne]; rfl
      go_enter Try.func49, Try.ntmps49
      go_wp2_with fail
      go_ret
      exact ⟨Bt.ret_i64 (by unfold Bt.endE; rw [if_neg (by simp), if_neg hs]), (Below.refl _ w).alloc (Nat.le_refl _) _⟩
  · have hEb : (e == 0) = false := by simp [he]
    go_enter Try.func49, Try.ntmps49
    go_wp2_with fail
    go_ret
    exact ⟨Bt.ret_i64 (by unfold Bt.endE; rw [if_pos he]), (Below.refl _ w).alloc (Nat.le_refl _) _⟩
def rrV (s : ByteArray) : Int × Int × Int := if rdE s = 0 ∧ voteB (numR (tv1 s).1) (rdF s) = true then (numR (tv1 s).1, rdF s, 0) else (0, 0, 3)
theorem rrV_eq (s : ByteArray) : rrV s = rdV s := by
  have h := voteB_num (n := (tv1 s).1) (f := rdF s) (Bt.tNum_lt s 0)
  unfold rrV rdV
  rw [h.1, show wrap64 ((tv1 s).1 : Int) = rdT s from rfl]
  by_cases hc : rdE s = 0 ∧ voteB (rdT s) (rdF s) = true
  · rw [if_pos hc, if_pos hc, h.2 hc.2]; rfl
  · rw [if_neg hc, if_neg hc]
set_option maxHeartbeats 4000000 in
theorem rreadVote_any (s : ByteArray) (hs : s.size ≤ 281474976710656) (w : World) :
    Calls Try.prog 15 #[.string s] w fun e w' => e = .returned (.tuple #[voteV (rdV s).1 (rdV s).2.1, .int .i64 (rdV s).2.2]) ∧ Below w.heap.size w w' := by
  rw [← rrV_eq]
  have N1 := Lib.hid (fun W => Bt.rnumT_any s 0 hs W)
  have N2 := Lib.hid (fun W => Bt.rintT_any (tv1 s).2.1 (tv1 s).2.2 (by have := tv1_le s; omega) W)
  have EN := Lib.hid (fun W => rend_any (tv2 s).2.1 (tv2 s).2.2 W)
  have NU := Lib.hid (fun W => rnumber_any (tv1 s).1 (Bt.tNum_lt s 0) W)
  have VD := Lib.hid (fun W => voted_any (numR (tv1 s).1) (rdF s) W)
  unfold Bt.rv Bt.vNum at N1
  unfold Bt.rv Bt.vInt at N2
  rw [show Bt.tNum s 0 = tv1 s from rfl] at N1
  rw [show Bt.tInt (tv1 s).2.1 (tv1 s).2.2 = tv2 s from rfl] at N2
  rw [show Bt.endE (tv2 s).2.1 (tv2 s).2.2 = rdE s from rfl] at EN
  have R : ∃ a b c, rrV s = (a, b, c) ∧ ((rdE s ≠ 0 ∧ a = 0 ∧ b = 0 ∧ c = 3) ∨ (rdE s = 0 ∧ voteB (numR (tv1 s).1) (rdF s) = false ∧ a = 0 ∧ b = 0 ∧ c = 3) ∨ (rdE s = 0 ∧ voteB (numR (tv1 s).1) (rdF s) = true ∧ a = numR (tv1 s).1 ∧ b = rdF s ∧ c = 0)) := by
    unfold rrV
    by_cases h1 : rdE s = 0
    · cases h2 : voteB (numR (tv1 s).1) (rdF s)
      · exact ⟨_, _, _, by rw [if_neg (by simp)], .inr (.inl ⟨h1, rfl, rfl, rfl, rfl⟩)⟩
      · exact ⟨_, _, _, by rw [if_pos ⟨h1, rfl⟩], .inr (.inr ⟨h1, rfl, rfl, rfl, rfl⟩)⟩
    · exact ⟨_, _, _, by rw [if_neg (fun h => h1 h.1)], .inl ⟨h1, rfl, rfl, rfl⟩⟩
  obtain ⟨ra, rb, rc, hR, R⟩ := R
  rw [hR]
  simp only
  clear hR
  rw [show (tv2 s).1 = rdF s from rfl] at N2
  generalize rdE s = E at *
  generalize rdF s = F at *
  generalize tv2 s = y at *
  generalize tv1 s = x at *
  obtain ⟨xn, xs, xe⟩ := x
  obtain ⟨yn, ys, ye⟩ := y
  simp only at N1 N2 EN NU VD R
  generalize numR xn = T at *
  generalize hb : voteB T F = bb at *
  unfold voteV at *
  have K0 := Lib.hid (Blk.new w 32 #[.int .i64 0, .int .i64 0])
  have bA := Lib.hid ((Below.refl _ w).alloc (Nat.le_refl _) (.cells #[.int .i64 0, .int .i64 0] 32))
  generalize hy : w.heap.size = Y at *
  go_enter Try.func15, Try.ntmps15
  go_wp2_with fail
  refine (N1.out _).mono ?_
  rintro e w1 ⟨rfl, b1⟩
  have K1 := Lib.hid (K0.out.below b1 (by simp [hy]))
  have B1 := Lib.hid (bA.out.trans (b1.mono (by simp [hy])))
  clear b1 K0 bA N1
  go_wp2_with fail
  refine (N2.out _).mono ?_
  rintro e w2 ⟨rfl, b2⟩
  have bC := (Below.refl w1.heap.size w1).alloc (Nat.le_refl _) (.cells #[.string xs, .int .i64 xe] 78)
  have K2 := Lib.hid ((K1.out.below bC K1.out.lt).below b2 (by have := K1.out.lt; simp; omega))
  have B2 := Lib.hid ((B1.out.trans (bC.mono (by have := B1.out.size; omega))).trans (b2.mono (by have := B1.out.size; simp; omega)))
  clear b2 bC K1 B1 N2
  go_wp2_with fail
  refine (NU.out _).mono ?_
  rintro e w3 ⟨rfl, rfl⟩
  have bC := (Below.refl w2.heap.size w2).alloc (Nat.le_refl _) (.cells #[.string ys, .int .i64 ye] 78)
  have K3 := Lib.hid (K2.out.below bC K2.out.lt)
  have B3 := Lib.hid (B2.out.trans (bC.mono (by have := B2.out.size; omega)))
  have T3 := Lib.hid (Blk.new w2 78 #[.string ys, .int .i64 ye])
  have hT : w2.heap.size < (w2.alloc (.cells #[.string ys, .int .i64 ye] 78)).heap.size := T3.out.lt
  clear bC K2 B2 NU
  generalize w2.alloc (.cells #[.string ys, .int .i64 ye] 78) = w3 at *
  generalize w2.heap.size = Q at *
  have bD := (Below.refl w3.heap.size w3).alloc (Nat.le_refl _) (.cells #[.int .i64 T, .int .i64 F] 32)
  have K4 := Lib.hid (K3.out.below bD K3.out.lt)
  have B4 := Lib.hid (B3.out.trans (bD.mono (by have := B3.out.size; omega)))
  have T4 := Lib.hid (T3.out.below bD hT)
  have N4 := Lib.hid (Blk.new w3 32 #[.int .i64 T, .int .i64 F])
  have u0 : (w3.alloc (.cells #[.int .i64 T, .int .i64 F] 32)).cell? ⟨Q, 0, none⟩ = some (.string ys) := T4.out.cell 0
  have u1 : (w3.alloc (.cells #[.int .i64 T, .int .i64 F] 32)).cell? ⟨Q, 1, none⟩ = some (.int .i64 ye) := T4.out.cell 1
  clear bD K3 B3 T3
  go_wp2_with fail
  refine (EN.out _).mono ?_
  rintro e w5 ⟨rfl, b5⟩
  have K5 := Lib.hid (K4.out.below b5 K4.out.lt)
  have B5 := Lib.hid (B4.out.trans (b5.mono (by have := B4.out.size; omega)))
  have N5 := Lib.hid (N4.out.below b5 N4.out.lt)
  clear b5 K4 B4 T4 N4 u0 u1 EN hT
  generalize w3.heap.size = Z at *
  rcases R with ⟨h1, rfl, rfl, rfl⟩ | ⟨rfl, rfl, rfl, rfl, rfl⟩ | ⟨rfl, rfl, rfl, rfl, rfl⟩
  · have hE : (E != 0) = true := by simpa using h1
    clear h1 VD N5
    have c0 : w5.cell? ⟨Y, 0, none⟩ = some (.int .i64 0) := K5.out.cell 0
    have c1 : w5.cell? ⟨Y, 1, none⟩ = some (.int .i64 0) := K5.out.cell 1
    have f0 : w5.frozen? ⟨Y, 0, none⟩ = false := K5.out.free 0
    have f1 : w5.frozen? ⟨Y, 1, none⟩ = false := K5.out.free 1
    go_wp2_with fail
    obtain ⟨z0, z1, B9, _⟩ := end_cells (.int .i64 0) (.int .i64 0) K5.out B5.out
    clear c0 c1 f0 f1
    generalize (World.setCell (World.setCell w5 ⟨Y, 0, none⟩ (.int .i64 0)) ⟨Y, 1, none⟩ (.int .i64 0)) = w9 at *
    refine bodyPost_ret (by simp [results, Try.results15, go_sem, z0, z1]; try rfl) rfl ?_
    exact ⟨rfl, B9⟩
  · have e0 : w5.cell? ⟨Z, 0, none⟩ = some (.int .i64 T) := N5.out.cell 0
    have e1 : w5.cell? ⟨Z, 1, none⟩ = some (.int .i64 F) := N5.out.cell 1
    go_wp2_with fail
    refine (VD.out _).mono ?_
    rintro e w6 ⟨rfl, b6⟩
    have K6 := Lib.hid (K5.out.below b6 K5.out.lt)
    have B6 := Lib.hid (B5.out.trans (b6.mono (by have := B5.out.size; omega)))
    have N6 := Lib.hid (N5.out.below b6 N5.out.lt)
    clear b6 VD N5 K5 B5 e0 e1
    have c0 : w6.cell? ⟨Y, 0, none⟩ = some (.int .i64 0) := K6.out.cell 0
    have c1 : w6.cell? ⟨Y, 1, none⟩ = some (.int .i64 0) := K6.out.cell 1
    have f0 : w6.frozen? ⟨Y, 0, none⟩ = false := K6.out.free 0
    have f1 : w6.frozen? ⟨Y, 1, none⟩ = false := K6.out.free 1
    go_wp2_with fail
    obtain ⟨z0, z1, B9, _⟩ := end_cells (.int .i64 0) (.int .i64 0) K6.out B6.out
    clear c0 c1 f0 f1
    generalize (World.setCell (World.setCell w6 ⟨Y, 0, none⟩ (.int .i64 0)) ⟨Y, 1, none⟩ (.int .i64 0)) = w9 at *
    refine bodyPost_ret (by simp [results, Try.results15, go_sem, z0, z1]; try rfl) rfl ?_
    exact ⟨rfl, B9⟩
  · have e0 : w5.cell? ⟨Z, 0, none⟩ = some (.int .i64 ra) := N5.out.cell 0
    have e1 : w5.cell? ⟨Z, 1, none⟩ = some (.int .i64 rb) := N5.out.cell 1
    go_wp2_with fail
    refine (VD.out _).mono ?_
    rintro e w6 ⟨rfl, b6⟩
    have K6 := Lib.hid (K5.out.below b6 K5.out.lt)
    have B6 := Lib.hid (B5.out.trans (b6.mono (by have := B5.out.size; omega)))
    have N6 := Lib.hid (N5.out.below b6 N5.out.lt)
    clear b6 VD N5 K5 B5 e0 e1
    have c0 : w6.cell? ⟨Y, 0, none⟩ = some (.int .i64 0) := K6.out.cell 0
    have c1 : w6.cell? ⟨Y, 1, none⟩ = some (.int .i64 0) := K6.out.cell 1
    have f0 : w6.frozen? ⟨Y, 0, none⟩ = false := K6.out.free 0
    have f1 : w6.frozen? ⟨Y, 1, none⟩ = false := K6.out.free 1
    have e0 : w6.cell? ⟨Z, 0, none⟩ = some (.int .i64 ra) := N6.out.cell 0
    have e1 : w6.cell? ⟨Z, 1, none⟩ = some (.int .i64 rb) := N6.out.cell 1
    go_wp2_with fail
    obtain ⟨z0, z1, B9, _⟩ := end_cells (.int .i64 ra) (.int .i64 rb) K6.out B6.out
    clear e0 e1 c0 c1 f0 f1
    generalize (World.setCell (World.setCell w6 ⟨Y, 0, none⟩ (.int .i64 ra)) ⟨Y, 1, none⟩ (.int .i64 rb)) = w9 at *
    refine bodyPost_ret (by simp [results, Try.results15, go_sem, z0, z1]; try rfl) rfl ?_
    exact ⟨rfl, B9⟩
def rrS (s : ByteArray) : Int × Int × Int × ByteArray × Int := if rsE s = 0 ∧ snapB (numR (ts1 s).1) (numR (ts2 s).1) (numR (ts3 s).1) (rsS s) = true then (numR (ts1 s).1, numR (ts2 s).1, numR (ts3 s).1, rsS s, 0) else (0, 0, 0, ⟨#[]⟩, 3)
theorem rrS_eq (s : ByteArray) : rrS s = rsV s := by
  have h := snapB_num (a := (ts1 s).1) (b := (ts2 s).1) (c := (ts3 s).1) (s := rsS s) (Bt.tNum_lt _ _) (Bt.tNum_lt _ _) (Bt.tNum_lt _ _)
  unfold rrS rsV
  rw [h.1, show wrap64 ((ts1 s).1 : Int) = rsI s from rfl, show wrap64 ((ts2 s).1 : Int) = rsT s from rfl, show wrap64 ((ts3 s).1 : Int) = rsM s from rfl]
  by_cases hc : rsE s = 0 ∧ snapB (rsI s) (rsT s) (rsM s) (rsS s) = true
  · obtain ⟨e1, e2, e3⟩ := h.2 hc.2
    rw [if_pos hc, if_pos hc, e1, e2, e3]; rfl
  · rw [if_neg hc, if_neg hc]
set_option maxHeartbeats 8000000 in
theorem rreadSnap_any (s : ByteArray) (hs : s.size ≤ 281474976710656) (w : World) :
    Calls Try.prog 17 #[.string s] w fun e w' => e = .returned (.tuple #[snapV (rsV s).1 (rsV s).2.1 (rsV s).2.2.1 (rsV s).2.2.2.1, .int .i64 (rsV s).2.2.2.2]) ∧ Below w.heap.size w w' := by
  rw [← rrS_eq]
  have N1 := Lib.hid (fun W => Bt.rnumT_any s 0 hs W)
  have N2 := Lib.hid (fun W => Bt.rnumT_any (ts1 s).2.1 (ts1 s).2.2 (by have := ts1_le s; omega) W)
  have N3 := Lib.hid (fun W => Bt.rnumT_any (ts2 s).2.1 (ts2 s).2.2 (by have := ts2_le s; omega) W)
  have N4 := Lib.hid (fun W => Bt.rtextT_any (ts3 s).2.1 (ts3 s).2.2 262144 (by have := ts3_le s; omega) (by decide) W)
  have EN := Lib.hid (fun W => rend_any (ts4 s).2.1 (ts4 s).2.2 W)
  have NU1 := Lib.hid (fun W => rnumber_any (ts1 s).1 (Bt.tNum_lt _ _) W)
  have NU2 := Lib.hid (fun W => rnumber_any (ts2 s).1 (Bt.tNum_lt _ _) W)
  have NU3 := Lib.hid (fun W => rnumber_any (ts3 s).1 (Bt.tNum_lt _ _) W)
  have VD := Lib.hid (fun W => smay_any (numR (ts1 s).1) (numR (ts2 s).1) (numR (ts3 s).1) (rsS s) W)
  unfold Bt.rv Bt.vNum at N1 N2 N3
  unfold Bt.rv Bt.vText at N4
  rw [show Bt.tNum s 0 = ts1 s from rfl] at N1
  rw [show Bt.tNum (ts1 s).2.1 (ts1 s).2.2 = ts2 s from rfl] at N2
  rw [show Bt.tNum (ts2 s).2.1 (ts2 s).2.2 = ts3 s from rfl] at N3
  rw [show Bt.tText (ts3 s).2.1 (ts3 s).2.2 262144 = ts4 s from rfl] at N4
  rw [show Bt.endE (ts4 s).2.1 (ts4 s).2.2 = rsE s from rfl] at EN
  have R : ∃ a b c d n, rrS s = (a, b, c, d, n) ∧ ((rsE s ≠ 0 ∧ a = 0 ∧ b = 0 ∧ c = 0 ∧ d = ⟨#[]⟩ ∧ n = 3) ∨ (rsE s = 0 ∧ snapB (numR (ts1 s).1) (numR (ts2 s).1) (numR (ts3 s).1) (rsS s) = false ∧ a = 0 ∧ b = 0 ∧ c = 0 ∧ d = ⟨#[]⟩ ∧ n = 3) ∨ (rsE s = 0 ∧ snapB (numR (ts1 s).1) (numR (ts2 s).1) (numR (ts3 s).1) (rsS s) = true ∧ a = numR (ts1 s).1 ∧ b = numR (ts2 s).1 ∧ c = numR (ts3 s).1 ∧ d = rsS s ∧ n = 0)) := by
    unfold rrS
    by_cases h1 : rsE s = 0
    · cases h2 : snapB (numR (ts1 s).1) (numR (ts2 s).1) (numR (ts3 s).1) (rsS s)
      · exact ⟨_, _, _, _, _, by rw [if_neg (by simp)], .inr (.inl ⟨h1, rfl, rfl, rfl, rfl, rfl, rfl⟩)⟩
      · exact ⟨_, _, _, _, _, by rw [if_pos ⟨h1, rfl⟩], .inr (.inr ⟨h1, rfl, rfl, rfl, rfl, rfl, rfl⟩)⟩
    · exact ⟨_, _, _, _, _, by rw [if_neg (fun h => h1 h.1)], .inl ⟨h1, rfl, rfl, rfl, rfl, rfl⟩⟩
  obtain ⟨ra, rb, rc, rd, rn, hR, R⟩ := R
  rw [hR]
  simp only
  clear hR
  rw [show (ts4 s).1 = rsS s from rfl] at N4
  generalize rsE s = E at *
  generalize rsS s = T4 at *
  generalize ts4 s = x4 at *
  generalize ts3 s = x3 at *
  generalize ts2 s = x2 at *
  generalize ts1 s = x1 at *
  obtain ⟨n1, s1, e1⟩ := x1
  obtain ⟨n2, s2, e2⟩ := x2
  obtain ⟨n3, s3, e3⟩ := x3
  obtain ⟨n4, s4, e4⟩ := x4
  simp only at N1 N2 N3 N4 EN NU1 NU2 NU3 VD R
  generalize numR n1 = T1 at *
  generalize numR n2 = T2 at *
  generalize numR n3 = T3 at *
  generalize hb : snapB T1 T2 T3 T4 = bb at *
  unfold snapV at *
  have K0 := Lib.hid (Blk.new w 35 #[.int .i64 0, .int .i64 0, .int .i64 0, .string ⟨#[]⟩])
  have B0 := Lib.hid ((Below.refl _ w).alloc (Nat.le_refl _) (.cells #[.int .i64 0, .int .i64 0, .int .i64 0, .string ⟨#[]⟩] 35))
  generalize hy : w.heap.size = Y at *
  go_enter Try.func17, Try.ntmps17
  go_wp2_with fail
  refine (N1.out _).mono ?_
  rintro e w1 ⟨rfl, b1⟩
  have K1 := Lib.hid (K0.out.below b1 K0.out.lt)
  have B1 := Lib.hid (B0.out.trans (b1.mono (by have := B0.out.size; omega)))
  clear b1 K0 B0 N1
  go_wp2_with fail
  refine (N2.out _).mono ?_
  rintro e w2 ⟨rfl, b2⟩
  have bC := (Below.refl w1.heap.size w1).alloc (Nat.le_refl _) (.cells #[.string s1, .int .i64 e1] 78)
  have K2 := Lib.hid ((K1.out.below bC K1.out.lt).below b2 (by have := K1.out.lt; simp; omega))
  have B2 := Lib.hid ((B1.out.trans (bC.mono (by have := B1.out.size; omega))).trans (b2.mono (by have := B1.out.size; simp; omega)))
  clear b2 bC K1 B1 N2
  go_wp2_with fail
  refine (N3.out _).mono ?_
  rintro e w3 ⟨rfl, b3⟩
  have bC := (Below.refl w2.heap.size w2).alloc (Nat.le_refl _) (.cells #[.string s2, .int .i64 e2] 78)
  have K3 := Lib.hid ((K2.out.below bC K2.out.lt).below b3 (by have := K2.out.lt; simp; omega))
  have B3 := Lib.hid ((B2.out.trans (bC.mono (by have := B2.out.size; omega))).trans (b3.mono (by have := B2.out.size; simp; omega)))
  clear b3 bC K2 B2 N3
  go_wp2_with fail
  refine (N4.out _).mono ?_
  rintro e w4 ⟨rfl, b4⟩
  have bC := (Below.refl w3.heap.size w3).alloc (Nat.le_refl _) (.cells #[.string s3, .int .i64 e3] 78)
  have K4 := Lib.hid ((K3.out.below bC K3.out.lt).below b4 (by have := K3.out.lt; simp; omega))
  have B4 := Lib.hid ((B3.out.trans (bC.mono (by have := B3.out.size; omega))).trans (b4.mono (by have := B3.out.size; simp; omega)))
  clear b4 bC K3 B3 N4
  go_wp2_with fail
  refine (NU1.out _).mono ?_
  rintro e w5 ⟨rfl, rfl⟩
  go_wp2_with fail
  refine (NU2.out _).mono ?_
  rintro e w5 ⟨rfl, rfl⟩
  go_wp2_with fail
  refine (NU3.out _).mono ?_
  rintro e w5 ⟨rfl, rfl⟩
  have bC := (Below.refl w4.heap.size w4).alloc (Nat.le_refl _) (.cells #[.string s4, .int .i64 e4] 78)
  have K5 := Lib.hid (K4.out.below bC K4.out.lt)
  have B5 := Lib.hid (B4.out.trans (bC.mono (by have := B4.out.size; omega)))
  have T5 := Lib.hid (Blk.new w4 78 #[.string s4, .int .i64 e4])
  have hT : w4.heap.size < (w4.alloc (.cells #[.string s4, .int .i64 e4] 78)).heap.size := T5.out.lt
  clear bC K4 B4 NU1 NU2 NU3
  generalize w4.alloc (.cells #[.string s4, .int .i64 e4] 78) = w5 at *
  generalize w4.heap.size = Q at *
  have bD := (Below.refl w5.heap.size w5).alloc (Nat.le_refl _) (.cells #[.int .i64 T1, .int .i64 T2, .int .i64 T3, .string T4] 35)
  have K6 := Lib.hid (K5.out.below bD K5.out.lt)
  have B6 := Lib.hid (B5.out.trans (bD.mono (by have := B5.out.size; omega)))
  have T6 := Lib.hid (T5.out.below bD hT)
  have N6 := Lib.hid (Blk.new w5 35 #[.int .i64 T1, .int .i64 T2, .int .i64 T3, .string T4])
  have u0 : (w5.alloc (.cells #[.int .i64 T1, .int .i64 T2, .int .i64 T3, .string T4] 35)).cell? ⟨Q, 0, none⟩ = some (.string s4) := T6.out.cell 0
  have u1 : (w5.alloc (.cells #[.int .i64 T1, .int .i64 T2, .int .i64 T3, .string T4] 35)).cell? ⟨Q, 1, none⟩ = some (.int .i64 e4) := T6.out.cell 1
  clear bD K5 B5 T5
  go_wp2_with fail
  refine (EN.out _).mono ?_
  rintro e w7 ⟨rfl, b7⟩
  have K7 := Lib.hid (K6.out.below b7 K6.out.lt)
  have B7 := Lib.hid (B6.out.trans (b7.mono (by have := B6.out.size; omega)))
  have N7 := Lib.hid (N6.out.below b7 N6.out.lt)
  clear b7 K6 B6 T6 N6 u0 u1 EN hT
  generalize w5.heap.size = Z at *
  rcases R with ⟨h1, rfl, rfl, rfl, rfl, rfl⟩ | ⟨rfl, rfl, rfl, rfl, rfl, rfl, rfl⟩ | ⟨rfl, rfl, rfl, rfl, rfl, rfl, rfl⟩
  · have hE : (E != 0) = true := by simpa using h1
    clear h1 VD N7
    have c0 : w7.cell? ⟨Y, 0, none⟩ = some (.int .i64 0) := K7.out.cell 0
    have c1 : w7.cell? ⟨Y, 1, none⟩ = some (.int .i64 0) := K7.out.cell 1
    have c2 : w7.cell? ⟨Y, 2, none⟩ = some (.int .i64 0) := K7.out.cell 2
    have c3 : w7.cell? ⟨Y, 3, none⟩ = some (.string ⟨#[]⟩) := K7.out.cell 3
    have f0 : w7.frozen? ⟨Y, 0, none⟩ = false := K7.out.free 0
    have f1 : w7.frozen? ⟨Y, 1, none⟩ = false := K7.out.free 1
    have f2 : w7.frozen? ⟨Y, 2, none⟩ = false := K7.out.free 2
    have f3 : w7.frozen? ⟨Y, 3, none⟩ = false := K7.out.free 3
    go_wp2_with fail
    obtain ⟨K9, _⟩ := set4_all (.int .i64 0) (.int .i64 0) (.int .i64 0) (.string ⟨#[]⟩) K7.out
    have B9 := set4_below (.int .i64 0) (.int .i64 0) (.int .i64 0) (.string ⟨#[]⟩) K7.out B7.out
    unfold set4 at K9 B9
    clear c0 c1 c2 c3 f0 f1 f2 f3
    generalize (World.setCell (World.setCell (World.setCell (World.setCell w7 ⟨Y, 0, none⟩ (.int .i64 0)) ⟨Y, 1, none⟩ (.int .i64 0)) ⟨Y, 2, none⟩ (.int .i64 0)) ⟨Y, 3, none⟩ (.string ⟨#[]⟩)) = w9 at *
    have z0 : w9.cell? ⟨Y, 0, none⟩ = some (.int .i64 0) := K9.cell 0
    have z1 : w9.cell? ⟨Y, 1, none⟩ = some (.int .i64 0) := K9.cell 1
    have z2 : w9.cell? ⟨Y, 2, none⟩ = some (.int .i64 0) := K9.cell 2
    have z3 : w9.cell? ⟨Y, 3, none⟩ = some (.string ⟨#[]⟩) := K9.cell 3
    refine bodyPost_ret (by simp [results, Try.results17, go_sem, z0, z1, z2, z3]; try rfl) rfl ?_
    exact ⟨rfl, B9⟩
  · have e0 : w7.cell? ⟨Z, 0, none⟩ = some (.int .i64 T1) := N7.out.cell 0
    have e1 : w7.cell? ⟨Z, 1, none⟩ = some (.int .i64 T2) := N7.out.cell 1
    have e2 : w7.cell? ⟨Z, 2, none⟩ = some (.int .i64 T3) := N7.out.cell 2
    have e3 : w7.cell? ⟨Z, 3, none⟩ = some (.string T4) := N7.out.cell 3
    go_wp2_with fail
    refine (VD.out _).mono ?_
    rintro e w8 ⟨rfl, b8⟩
    have K8 := Lib.hid (K7.out.below b8 K7.out.lt)
    have B8 := Lib.hid (B7.out.trans (b8.mono (by have := B7.out.size; omega)))
    have N8 := Lib.hid (N7.out.below b8 N7.out.lt)
    clear b8 VD N7 K7 B7 e0 e1 e2 e3
    have c0 : w8.cell? ⟨Y, 0, none⟩ = some (.int .i64 0) := K8.out.cell 0
    have c1 : w8.cell? ⟨Y, 1, none⟩ = some (.int .i64 0) := K8.out.cell 1
    have c2 : w8.cell? ⟨Y, 2, none⟩ = some (.int .i64 0) := K8.out.cell 2
    have c3 : w8.cell? ⟨Y, 3, none⟩ = some (.string ⟨#[]⟩) := K8.out.cell 3
    have f0 : w8.frozen? ⟨Y, 0, none⟩ = false := K8.out.free 0
    have f1 : w8.frozen? ⟨Y, 1, none⟩ = false := K8.out.free 1
    have f2 : w8.frozen? ⟨Y, 2, none⟩ = false := K8.out.free 2
    have f3 : w8.frozen? ⟨Y, 3, none⟩ = false := K8.out.free 3
    go_wp2_with fail
    obtain ⟨K9, _⟩ := set4_all (.int .i64 0) (.int .i64 0) (.int .i64 0) (.string ⟨#[]⟩) K8.out
    have B9 := set4_below (.int .i64 0) (.int .i64 0) (.int .i64 0) (.string ⟨#[]⟩) K8.out B8.out
    unfold set4 at K9 B9
    clear c0 c1 c2 c3 f0 f1 f2 f3
    generalize (World.setCell (World.setCell (World.setCell (World.setCell w8 ⟨Y, 0, none⟩ (.int .i64 0)) ⟨Y, 1, none⟩ (.int .i64 0)) ⟨Y, 2, none⟩ (.int .i64 0)) ⟨Y, 3, none⟩ (.string ⟨#[]⟩)) = w9 at *
    have z0 : w9.cell? ⟨Y, 0, none⟩ = some (.int .i64 0) := K9.cell 0
    have z1 : w9.cell? ⟨Y, 1, none⟩ = some (.int .i64 0) := K9.cell 1
    have z2 : w9.cell? ⟨Y, 2, none⟩ = some (.int .i64 0) := K9.cell 2
    have z3 : w9.cell? ⟨Y, 3, none⟩ = some (.string ⟨#[]⟩) := K9.cell 3
    refine bodyPost_ret (by simp [results, Try.results17, go_sem, z0, z1, z2, z3]; try rfl) rfl ?_
    exact ⟨rfl, B9⟩
  · have e0 : w7.cell? ⟨Z, 0, none⟩ = some (.int .i64 ra) := N7.out.cell 0
    have e1 : w7.cell? ⟨Z, 1, none⟩ = some (.int .i64 rb) := N7.out.cell 1
    have e2 : w7.cell? ⟨Z, 2, none⟩ = some (.int .i64 rc) := N7.out.cell 2
    have e3 : w7.cell? ⟨Z, 3, none⟩ = some (.string rd) := N7.out.cell 3
    go_wp2_with fail
    refine (VD.out _).mono ?_
    rintro e w8 ⟨rfl, b8⟩
    have K8 := Lib.hid (K7.out.below b8 K7.out.lt)
    have B8 := Lib.hid (B7.out.trans (b8.mono (by have := B7.out.size; omega)))
    have N8 := Lib.hid (N7.out.below b8 N7.out.lt)
    clear b8 VD N7 K7 B7 e0 e1 e2 e3
    have c0 : w8.cell? ⟨Y, 0, none⟩ = some (.int .i64 0) := K8.out.cell 0
    have c1 : w8.cell? ⟨Y, 1, none⟩ = some (.int .i64 0) := K8.out.cell 1
    have c2 : w8.cell? ⟨Y, 2, none⟩ = some (.int .i64 0) := K8.out.cell 2
    have c3 : w8.cell? ⟨Y, 3, none⟩ = some (.string ⟨#[]⟩) := K8.out.cell 3
    have f0 : w8.frozen? ⟨Y, 0, none⟩ = false := K8.out.free 0
    have f1 : w8.frozen? ⟨Y, 1, none⟩ = false := K8.out.free 1
    have f2 : w8.frozen? ⟨Y, 2, none⟩ = false := K8.out.free 2
    have f3 : w8.frozen? ⟨Y, 3, none⟩ = false := K8.out.free 3
    have e0 : w8.cell? ⟨Z, 0, none⟩ = some (.int .i64 ra) := N8.out.cell 0
    have e1 : w8.cell? ⟨Z, 1, none⟩ = some (.int .i64 rb) := N8.out.cell 1
    have e2 : w8.cell? ⟨Z, 2, none⟩ = some (.int .i64 rc) := N8.out.cell 2
    have e3 : w8.cell? ⟨Z, 3, none⟩ = some (.string rd) := N8.out.cell 3
    go_wp2_with fail
    obtain ⟨K9, _⟩ := set4_all (.int .i64 ra) (.int .i64 rb) (.int .i64 rc) (.string rd) K8.out
    have B9 := set4_below (.int .i64 ra) (.int .i64 rb) (.int .i64 rc) (.string rd) K8.out B8.out
    unfold set4 at K9 B9
    clear e0 e1 e2 e3 c0 c1 c2 c3 f0 f1 f2 f3
    generalize (World.setCell (World.setCell (World.setCell (World.setCell w8 ⟨Y, 0, none⟩ (.int .i64 ra)) ⟨Y, 1, none⟩ (.int .i64 rb)) ⟨Y, 2, none⟩ (.int .i64 rc)) ⟨Y, 3, none⟩ (.string rd)) = w9 at *
    have z0 : w9.cell? ⟨Y, 0, none⟩ = some (.int .i64 ra) := K9.cell 0
    have z1 : w9.cell? ⟨Y, 1, none⟩ = some (.int .i64 rb) := K9.cell 1
    have z2 : w9.cell? ⟨Y, 2, none⟩ = some (.int .i64 rc) := K9.cell 2
    have z3 : w9.cell? ⟨Y, 3, none⟩ = some (.string rd) := K9.cell 3
    refine bodyPost_ret (by simp [results, Try.results17, go_sem, z0, z1, z2, z3]; try rfl) rfl ?_
    exact ⟨rfl, B9⟩
end Go.Proofs.Ythdkflmkcoabaaa
/-
  THE LAW ShelfReads AS A WALK.
-/
namespace Go.Proofs.Ythdkflmkcoabaaa
open Go.RowKit
set_option maxHeartbeats 8000000 in
theorem reads_core (s sd : ByteArray) (a b n i t m k : Int) (w : World) (h0' : ¬ (20000 : Int) < (s.size : Int))
    (VA : Hid (∀ W, Calls Try.prog 14 #[.string s] W fun e w' => e = .returned (.tuple #[.agg #[.int .i64 a, .int .i64 b], .int .i64 n]) ∧ Below W.heap.size W w')) (VR : Hid (∀ W, Calls Try.prog 15 #[.string s] W fun e w' => e = .returned (.tuple #[.agg #[.int .i64 a, .int .i64 b], .int .i64 n]) ∧ Below W.heap.size W w'))
    (SA : Hid (∀ W, Calls Try.prog 16 #[.string s] W fun e w' => e = .returned (.tuple #[.agg #[.int .i64 i, .int .i64 t, .int .i64 m, .string sd], .int .i64 k]) ∧ Below W.heap.size W w')) (SR : Hid (∀ W, Calls Try.prog 17 #[.string s] W fun e w' => e = .returned (.tuple #[.agg #[.int .i64 i, .int .i64 t, .int .i64 m, .string sd], .int .i64 k]) ∧ Below W.heap.size W w')) :
    Calls Try.prog 4 #[.string s] w fun e w' => e = .returned (.bool true) ∧ Below w.heap.size w w' := by
  go_enter Try.func4, Try.ntmps4
  go_wp2_with fail
  refine (VA.out _).mono ?_
  rintro e w1 ⟨rfl, b1⟩
  have B1 := Lib.hid (b1.alloc b1.size (.cells #[.int .i64 a, .int .i64 b] 23))
  have K1 := Lib.hid (Blk.new w1 23 #[.int .i64 a, .int .i64 b])
  clear b1 VA
  go_wp2_with fail
  generalize w1.alloc (.cells #[.int .i64 a, .int .i64 b] 23) = v1 at *
  generalize w1.heap.size = Q1 at *
  refine (VR.out _).mono ?_
  rintro e w2 ⟨rfl, b2⟩
  have bA := (Below.refl w2.heap.size w2).alloc (Nat.le_refl _) (.cells #[.int .i64 a, .int .i64 b] 32)
  have B2 := Lib.hid ((B1.out.trans (b2.mono B1.out.size)).trans (bA.mono (by have := B1.out.size; have := b2.size; omega)))
  have K2 := Lib.hid ((K1.out.below b2 K1.out.lt).below bA (by have := K1.out.lt; have := b2.size; omega))
  have L2 := Lib.hid (Blk.new w2 32 #[.int .i64 a, .int .i64 b])
  clear b2 bA VR B1 K1
  go_wp2_with fail
  generalize w2.alloc (.cells #[.int .i64 a, .int .i64 b] 32) = v2 at *
  generalize w2.heap.size = Q2 at *
  refine (SA.out _).mono ?_
  rintro e w3 ⟨rfl, b3⟩
  have bA := (Below.refl w3.heap.size w3).alloc (Nat.le_refl _) (.cells #[.int .i64 i, .int .i64 t, .int .i64 m, .string sd] 25)
  have B3 := Lib.hid ((B2.out.trans (b3.mono B2.out.size)).trans (bA.mono (by have := B2.out.size; have := b3.size; omega)))
  have K3 := Lib.hid ((K2.out.below b3 K2.out.lt).below bA (by have := K2.out.lt; have := b3.size; omega))
  have L3 := Lib.hid ((L2.out.below b3 L2.out.lt).below bA (by have := L2.out.lt; have := b3.size; omega))
  have M3 := Lib.hid (Blk.new w3 25 #[.int .i64 i, .int .i64 t, .int .i64 m, .string sd])
  clear b3 bA SA B2 K2 L2
  go_wp2_with fail
  generalize w3.alloc (.cells #[.int .i64 i, .int .i64 t, .int .i64 m, .string sd] 25) = v3 at *
  generalize w3.heap.size = Q3 at *
  refine (SR.out _).mono ?_
  rintro e w4 ⟨rfl, b4⟩
  have bA := (Below.refl w4.heap.size w4).alloc (Nat.le_refl _) (.cells #[.int .i64 i, .int .i64 t, .int .i64 m, .string sd] 35)
  have B4 := Lib.hid ((B3.out.trans (b4.mono B3.out.size)).trans (bA.mono (by have := B3.out.size; have := b4.size; omega)))
  have K4 := Lib.hid ((K3.out.below b4 K3.out.lt).below bA (by have := K3.out.lt; have := b4.size; omega))
  have L4 := Lib.hid ((L3.out.below b4 L3.out.lt).below bA (by have := L3.out.lt; have := b4.size; omega))
  have M4 := Lib.hid ((M3.out.below b4 M3.out.lt).below bA (by have := M3.out.lt; have := b4.size; omega))
  have N4 := Lib.hid (Blk.new w4 35 #[.int .i64 i, .int .i64 t, .int .i64 m, .string sd])
  clear b4 bA SR B3 K3 L3 M3
  go_wp2_with fail
  generalize w4.alloc (.cells #[.int .i64 i, .int .i64 t, .int .i64 m, .string sd] 35) = v4 at *
  generalize w4.heap.size = Q4 at *
  refine (awake_any _).mono ?_
  rintro e w5 ⟨rfl, b5⟩
  have B5 := Lib.hid (B4.out.trans (b5.mono B4.out.size))
  have K5 := K4.out.below b5 K4.out.lt
  have L5 := L4.out.below b5 L4.out.lt
  have M5 := M4.out.below b5 M4.out.lt
  have N5 := N4.out.below b5 N4.out.lt
  have c0 : w5.cell? ⟨Q1, 0, none⟩ = some (.int .i64 a) := K5.cell 0
  have c1 : w5.cell? ⟨Q1, 1, none⟩ = some (.int .i64 b) := K5.cell 1
  have d0 : w5.cell? ⟨Q2, 0, none⟩ = some (.int .i64 a) := L5.cell 0
  have d1 : w5.cell? ⟨Q2, 1, none⟩ = some (.int .i64 b) := L5.cell 1
  have e0 : w5.cell? ⟨Q3, 0, none⟩ = some (.int .i64 i) := M5.cell 0
  have e1 : w5.cell? ⟨Q3, 1, none⟩ = some (.int .i64 t) := M5.cell 1
  have e2 : w5.cell? ⟨Q3, 2, none⟩ = some (.int .i64 m) := M5.cell 2
  have e3 : w5.cell? ⟨Q3, 3, none⟩ = some (.string sd) := M5.cell 3
  have f0 : w5.cell? ⟨Q4, 0, none⟩ = some (.int .i64 i) := N5.cell 0
  have f1 : w5.cell? ⟨Q4, 1, none⟩ = some (.int .i64 t) := N5.cell 1
  have f2 : w5.cell? ⟨Q4, 2, none⟩ = some (.int .i64 m) := N5.cell 2
  have f3 : w5.cell? ⟨Q4, 3, none⟩ = some (.string sd) := N5.cell 3
  clear b5 B4 K4 L4 M4 N4 K5 L5 M5 N5
  go_wp2_with fail
  go_ret
  exact ⟨by simp, B5.out⟩
theorem reads_law (s : ByteArray) (w : World) (_hs : s.size ≤ 9223372036854775807) : Calls Try.prog 4 #[.string s] w fun e w' => e = .returned (.bool true) ∧ Below w.heap.size w w' := by
  by_cases h0 : s.size ≤ 20000
  · exact reads_core s _ _ _ _ _ _ _ _ w (by omega) (Lib.hid fun W => readVote_any s (by omega) W) (Lib.hid fun W => rreadVote_any s (by omega) W) (Lib.hid fun W => readSnap_any s (by omega) W) (Lib.hid fun W => rreadSnap_any s (by omega) W)
  · have h0' : (20000 : Int) < (s.size : Int) := by omega
    clear h0
    go_enter Try.func4, Try.ntmps4
    go_wp2_with fail
    refine (awake_any _).mono ?_
    rintro e w8 ⟨rfl, b8⟩
    go_wp2_with fail
    go_ret
    exact ⟨rfl, b8⟩
end Go.Proofs.Ythdkflmkcoabaaa
/-
  THE LAW ShelfBack AS A WALK.
-/
namespace Go.Proofs.Ythdkflmkcoabaaa
open Go.RowKit
set_option maxHeartbeats 8000000 in
theorem back_yy (a b i t m ra rb rc fn ri rt rm rk gn : Int) (s T rs fa ga vs ys : ByteArray) (w : World) (hs : s.size ≤ 20000) (hT : T.size ≤ 20000)
    (VA : Hid (∀ W, Calls Try.prog 10 #[.agg #[.int .i64 a, .int .i64 b]] W fun e w' => e = .returned (.tuple #[.string vs, .int .i64 0]) ∧ Below W.heap.size W w'))
    (RV : Hid (∀ W, Calls Try.prog 14 #[.string vs] W fun e w' => e = .returned (.tuple #[.agg #[.int .i64 a, .int .i64 b], .int .i64 0]) ∧ Below W.heap.size W w'))
    (SA : Hid (∀ W, Calls Try.prog 12 #[.agg #[.int .i64 i, .int .i64 t, .int .i64 m, .string s]] W fun e w' => e = .returned (.tuple #[.string ys, .int .i64 0]) ∧ Below W.heap.size W w'))
    (RS : Hid (∀ W, Calls Try.prog 16 #[.string ys] W fun e w' => e = .returned (.tuple #[.agg #[.int .i64 i, .int .i64 t, .int .i64 m, .string s], .int .i64 0]) ∧ Below W.heap.size W w'))
    (RT : Hid (∀ W, Calls Try.prog 14 #[.string T] W fun e w' => e = .returned (.tuple #[.agg #[.int .i64 ra, .int .i64 rb], .int .i64 rc]) ∧ Below W.heap.size W w'))
    (VT : Hid (∀ W, Calls Try.prog 10 #[.agg #[.int .i64 ra, .int .i64 rb]] W fun e w' => e = .returned (.tuple #[.string fa, .int .i64 fn]) ∧ Below W.heap.size W w'))
    (ST : Hid (∀ W, Calls Try.prog 16 #[.string T] W fun e w' => e = .returned (.tuple #[.agg #[.int .i64 ri, .int .i64 rt, .int .i64 rm, .string rs], .int .i64 rk]) ∧ Below W.heap.size W w'))
    (XT : Hid (∀ W, Calls Try.prog 12 #[.agg #[.int .i64 ri, .int .i64 rt, .int .i64 rm, .string rs]] W fun e w' => e = .returned (.tuple #[.string ga, .int .i64 gn]) ∧ Below W.heap.size W w'))
    (H1 : rc ≠ 0 ∨ (rc = 0 ∧ fn = 0 ∧ fa = T)) (H2 : rk ≠ 0 ∨ (rk = 0 ∧ gn = 0 ∧ ga = T)) :
    Calls Try.prog 5 #[.agg #[.int .i64 a, .int .i64 b], .agg #[.int .i64 i, .int .i64 t, .int .i64 m, .string s], .string T] w fun e w' => e = .returned (.bool true) ∧ Below w.heap.size w w' := by
  have P0 := Lib.hid (Pv.start w #[.int .i64 a, .int .i64 b] #[.int .i64 i, .int .i64 t, .int .i64 m, .string s])
  have g0 : ((w.alloc (.cells #[.int .i64 a, .int .i64 b] 23)).alloc (.cells #[.int .i64 i, .int .i64 t, .int .i64 m, .string s] 25)).cell? ⟨w.heap.size + 1, 0, none⟩ = some (.int .i64 i) := P0.out.x.cell 0
  have g1 : ((w.alloc (.cells #[.int .i64 a, .int .i64 b] 23)).alloc (.cells #[.int .i64 i, .int .i64 t, .int .i64 m, .string s] 25)).cell? ⟨w.heap.size + 1, 1, none⟩ = some (.int .i64 t) := P0.out.x.cell 1
  have g2 : ((w.alloc (.cells #[.int .i64 a, .int .i64 b] 23)).alloc (.cells #[.int .i64 i, .int .i64 t, .int .i64 m, .string s] 25)).cell? ⟨w.heap.size + 1, 2, none⟩ = some (.int .i64 m) := P0.out.x.cell 2
  have g3 : ((w.alloc (.cells #[.int .i64 a, .int .i64 b] 23)).alloc (.cells #[.int .i64 i, .int .i64 t, .int .i64 m, .string s] 25)).cell? ⟨w.heap.size + 1, 3, none⟩ = some (.string s) := P0.out.x.cell 3
  have s0 : ¬ (20000 : Int) < (s.size : Int) := by omega
  have s1 : ¬ (20000 : Int) < (T.size : Int) := by omega
  clear hs hT g0 g1 g2
  have H1h := Lib.hid H1
  have H2h := Lib.hid H2
  clear H1 H2
  go_enter Try.func5, Try.ntmps5
  go_wp2_with fail
  refine (VA.out _).mono ?_
  rintro e w1 ⟨rfl, b1⟩
  have P1 := Lib.hid (P0.out.step b1)
  clear b1 P0 g3 VA
  go_wp2_with fail
  refine (RV.out _).mono ?_
  rintro e w2 ⟨rfl, b2⟩
  have P2 := Lib.hid ((P1.out.step b2).al (.cells #[.int .i64 a, .int .i64 b] 23))
  clear b2 P1 RV
  have c0 : (w2.alloc (.cells #[.int .i64 a, .int .i64 b] 23)).cell? ⟨w.heap.size, 0, none⟩ = some (.int .i64 a) := P2.out.v.cell 0
  have c1 : (w2.alloc (.cells #[.int .i64 a, .int .i64 b] 23)).cell? ⟨w.heap.size, 1, none⟩ = some (.int .i64 b) := P2.out.v.cell 1
  have d0 : (w2.alloc (.cells #[.int .i64 a, .int .i64 b] 23)).cell? ⟨w.heap.size + 1, 0, none⟩ = some (.int .i64 i) := P2.out.x.cell 0
  have d1 : (w2.alloc (.cells #[.int .i64 a, .int .i64 b] 23)).cell? ⟨w.heap.size + 1, 1, none⟩ = some (.int .i64 t) := P2.out.x.cell 1
  have d2 : (w2.alloc (.cells #[.int .i64 a, .int .i64 b] 23)).cell? ⟨w.heap.size + 1, 2, none⟩ = some (.int .i64 m) := P2.out.x.cell 2
  have d3 : (w2.alloc (.cells #[.int .i64 a, .int .i64 b] 23)).cell? ⟨w.heap.size + 1, 3, none⟩ = some (.string s) := P2.out.x.cell 3
  go_wp2_with fail
  refine (SA.out _).mono ?_
  rintro e w3 ⟨rfl, b3⟩
  have P3 := Lib.hid (P2.out.step b3)
  clear b3 P2 SA c0 c1 d0 d1 d2 d3
  go_wp2_with fail
  refine (RS.out _).mono ?_
  rintro e w4 ⟨rfl, b4⟩
  have P4 := Lib.hid ((P3.out.step b4).al (.cells #[.int .i64 i, .int .i64 t, .int .i64 m, .string s] 25))
  clear b4 P3 RS
  have d0 : (w4.alloc (.cells #[.int .i64 i, .int .i64 t, .int .i64 m, .string s] 25)).cell? ⟨w.heap.size + 1, 0, none⟩ = some (.int .i64 i) := P4.out.x.cell 0
  have d1 : (w4.alloc (.cells #[.int .i64 i, .int .i64 t, .int .i64 m, .string s] 25)).cell? ⟨w.heap.size + 1, 1, none⟩ = some (.int .i64 t) := P4.out.x.cell 1
  have d2 : (w4.alloc (.cells #[.int .i64 i, .int .i64 t, .int .i64 m, .string s] 25)).cell? ⟨w.heap.size + 1, 2, none⟩ = some (.int .i64 m) := P4.out.x.cell 2
  have d3 : (w4.alloc (.cells #[.int .i64 i, .int .i64 t, .int .i64 m, .string s] 25)).cell? ⟨w.heap.size + 1, 3, none⟩ = some (.string s) := P4.out.x.cell 3
  go_wp2_with fail
  refine (RT.out _).mono ?_
  rintro e w5 ⟨rfl, b5⟩
  have P5 := Lib.hid ((P4.out.step b5).al (.cells #[.int .i64 ra, .int .i64 rb] 23))
  clear b5 P4 RT d0 d1 d2 d3
  go_wp2_with fail
  refine (VT.out _).mono ?_
  rintro e w6 ⟨rfl, b6⟩
  have P6 := Lib.hid (P5.out.step b6)
  clear b6 P5 VT
  go_wp2_with fail
  refine (ST.out _).mono ?_
  rintro e w7 ⟨rfl, b7⟩
  have P7 := Lib.hid ((P6.out.step b7).al (.cells #[.int .i64 ri, .int .i64 rt, .int .i64 rm, .string rs] 25))
  clear b7 P6 ST
  go_wp2_with fail
  refine (XT.out _).mono ?_
  rintro e w8 ⟨rfl, b8⟩
  have P8 := Lib.hid (P7.out.step b8)
  clear b8 P7 XT
  go_wp2_with fail
  refine (awake_any _).mono ?_
  rintro e w9 ⟨rfl, b9⟩
  have P9 := Lib.hid (P8.out.step b9)
  clear b9 P8
  rcases H1h.out with h1 | ⟨rfl, rfl, rfl⟩
  · have h1b : (rc != 0) = true := by simpa using h1
    clear h1
    rcases H2h.out with h2 | ⟨rfl, rfl, h2⟩
    · have h2b : (rk != 0) = true := by simpa using h2
      clear h2 H1h H2h
      go_wp2_with fail
      go_ret
      exact ⟨by simp, P9.out.b⟩
    · clear H1h H2h
      subst h2
      go_wp2_with fail
      go_ret
      exact ⟨by simp, P9.out.b⟩
  · rcases H2h.out with h2 | ⟨rfl, rfl, h2⟩
    · have h2b : (rk != 0) = true := by simpa using h2
      clear h2 H1h H2h
      go_wp2_with fail
      go_ret
      exact ⟨by simp, P9.out.b⟩
    · clear H1h H2h
      subst h2
      go_wp2_with fail
      go_ret
      exact ⟨by simp, P9.out.b⟩
set_option maxHeartbeats 8000000 in
theorem back_yn (a b i t m ra rb rc fn ri rt rm rk gn : Int) (s T rs fa ga vs ys : ByteArray) (w : World) (hs : s.size ≤ 20000) (hT : T.size ≤ 20000)
    (VA : Hid (∀ W, Calls Try.prog 10 #[.agg #[.int .i64 a, .int .i64 b]] W fun e w' => e = .returned (.tuple #[.string vs, .int .i64 0]) ∧ Below W.heap.size W w'))
    (RV : Hid (∀ W, Calls Try.prog 14 #[.string vs] W fun e w' => e = .returned (.tuple #[.agg #[.int .i64 a, .int .i64 b], .int .i64 0]) ∧ Below W.heap.size W w'))
    (SA : Hid (∀ W, Calls Try.prog 12 #[.agg #[.int .i64 i, .int .i64 t, .int .i64 m, .string s]] W fun e w' => e = .returned (.tuple #[.string ys, .int .i64 1]) ∧ Below W.heap.size W w'))
    (RT : Hid (∀ W, Calls Try.prog 14 #[.string T] W fun e w' => e = .returned (.tuple #[.agg #[.int .i64 ra, .int .i64 rb], .int .i64 rc]) ∧ Below W.heap.size W w'))
    (VT : Hid (∀ W, Calls Try.prog 10 #[.agg #[.int .i64 ra, .int .i64 rb]] W fun e w' => e = .returned (.tuple #[.string fa, .int .i64 fn]) ∧ Below W.heap.size W w'))
    (ST : Hid (∀ W, Calls Try.prog 16 #[.string T] W fun e w' => e = .returned (.tuple #[.agg #[.int .i64 ri, .int .i64 rt, .int .i64 rm, .string rs], .int .i64 rk]) ∧ Below W.heap.size W w'))
    (XT : Hid (∀ W, Calls Try.prog 12 #[.agg #[.int .i64 ri, .int .i64 rt, .int .i64 rm, .string rs]] W fun e w' => e = .returned (.tuple #[.string ga, .int .i64 gn]) ∧ Below W.heap.size W w'))
    (H1 : rc ≠ 0 ∨ (rc = 0 ∧ fn = 0 ∧ fa = T)) (H2 : rk ≠ 0 ∨ (rk = 0 ∧ gn = 0 ∧ ga = T)) :
    Calls Try.prog 5 #[.agg #[.int .i64 a, .int .i64 b], .agg #[.int .i64 i, .int .i64 t, .int .i64 m, .string s], .string T] w fun e w' => e = .returned (.bool true) ∧ Below w.heap.size w w' := by
  have P0 := Lib.hid (Pv.start w #[.int .i64 a, .int .i64 b] #[.int .i64 i, .int .i64 t, .int .i64 m, .string s])
  have g0 : ((w.alloc (.cells #[.int .i64 a, .int .i64 b] 23)).alloc (.cells #[.int .i64 i, .int .i64 t, .int .i64 m, .string s] 25)).cell? ⟨w.heap.size + 1, 0, none⟩ = some (.int .i64 i) := P0.out.x.cell 0
  have g1 : ((w.alloc (.cells #[.int .i64 a, .int .i64 b] 23)).alloc (.cells #[.int .i64 i, .int .i64 t, .int .i64 m, .string s] 25)).cell? ⟨w.heap.size + 1, 1, none⟩ = some (.int .i64 t) := P0.out.x.cell 1
  have g2 : ((w.alloc (.cells #[.int .i64 a, .int .i64 b] 23)).alloc (.cells #[.int .i64 i, .int .i64 t, .int .i64 m, .string s] 25)).cell? ⟨w.heap.size + 1, 2, none⟩ = some (.int .i64 m) := P0.out.x.cell 2
  have g3 : ((w.alloc (.cells #[.int .i64 a, .int .i64 b] 23)).alloc (.cells #[.int .i64 i, .int .i64 t, .int .i64 m, .string s] 25)).cell? ⟨w.heap.size + 1, 3, none⟩ = some (.string s) := P0.out.x.cell 3
  have s0 : ¬ (20000 : Int) < (s.size : Int) := by omega
  have s1 : ¬ (20000 : Int) < (T.size : Int) := by omega
  clear hs hT g0 g1 g2
  have H1h := Lib.hid H1
  have H2h := Lib.hid H2
  clear H1 H2
  go_enter Try.func5, Try.ntmps5
  go_wp2_with fail
  refine (VA.out _).mono ?_
  rintro e w1 ⟨rfl, b1⟩
  have P1 := Lib.hid (P0.out.step b1)
  clear b1 P0 g3 VA
  go_wp2_with fail
  refine (RV.out _).mono ?_
  rintro e w2 ⟨rfl, b2⟩
  have P2 := Lib.hid ((P1.out.step b2).al (.cells #[.int .i64 a, .int .i64 b] 23))
  clear b2 P1 RV
  have c0 : (w2.alloc (.cells #[.int .i64 a, .int .i64 b] 23)).cell? ⟨w.heap.size, 0, none⟩ = some (.int .i64 a) := P2.out.v.cell 0
  have c1 : (w2.alloc (.cells #[.int .i64 a, .int .i64 b] 23)).cell? ⟨w.heap.size, 1, none⟩ = some (.int .i64 b) := P2.out.v.cell 1
  have d0 : (w2.alloc (.cells #[.int .i64 a, .int .i64 b] 23)).cell? ⟨w.heap.size + 1, 0, none⟩ = some (.int .i64 i) := P2.out.x.cell 0
  have d1 : (w2.alloc (.cells #[.int .i64 a, .int .i64 b] 23)).cell? ⟨w.heap.size + 1, 1, none⟩ = some (.int .i64 t) := P2.out.x.cell 1
  have d2 : (w2.alloc (.cells #[.int .i64 a, .int .i64 b] 23)).cell? ⟨w.heap.size + 1, 2, none⟩ = some (.int .i64 m) := P2.out.x.cell 2
  have d3 : (w2.alloc (.cells #[.int .i64 a, .int .i64 b] 23)).cell? ⟨w.heap.size + 1, 3, none⟩ = some (.string s) := P2.out.x.cell 3
  go_wp2_with fail
  refine (SA.out _).mono ?_
  rintro e w3 ⟨rfl, b3⟩
  have P3 := Lib.hid (P2.out.step b3)
  clear b3 P2 SA c0 c1 d0 d1 d2 d3
  have P4 := Lib.hid P3.out
  clear P3
  go_wp2_with fail
  refine (RT.out _).mono ?_
  rintro e w5 ⟨rfl, b5⟩
  have P5 := Lib.hid ((P4.out.step b5).al (.cells #[.int .i64 ra, .int .i64 rb] 23))
  clear b5 P4 RT
  go_wp2_with fail
  refine (VT.out _).mono ?_
  rintro e w6 ⟨rfl, b6⟩
  have P6 := Lib.hid (P5.out.step b6)
  clear b6 P5 VT
  go_wp2_with fail
  refine (ST.out _).mono ?_
  rintro e w7 ⟨rfl, b7⟩
  have P7 := Lib.hid ((P6.out.step b7).al (.cells #[.int .i64 ri, .int .i64 rt, .int .i64 rm, .string rs] 25))
  clear b7 P6 ST
  go_wp2_with fail
  refine (XT.out _).mono ?_
  rintro e w8 ⟨rfl, b8⟩
  have P8 := Lib.hid (P7.out.step b8)
  clear b8 P7 XT
  go_wp2_with fail
  refine (awake_any _).mono ?_
  rintro e w9 ⟨rfl, b9⟩
  have P9 := Lib.hid (P8.out.step b9)
  clear b9 P8
  rcases H1h.out with h1 | ⟨rfl, rfl, rfl⟩
  · have h1b : (rc != 0) = true := by simpa using h1
    clear h1
    rcases H2h.out with h2 | ⟨rfl, rfl, h2⟩
    · have h2b : (rk != 0) = true := by simpa using h2
      clear h2 H1h H2h
      go_wp2_with fail
      go_ret
      exact ⟨by simp, P9.out.b⟩
    · clear H1h H2h
      subst h2
      go_wp2_with fail
      go_ret
      exact ⟨by simp, P9.out.b⟩
  · rcases H2h.out with h2 | ⟨rfl, rfl, h2⟩
    · have h2b : (rk != 0) = true := by simpa using h2
      clear h2 H1h H2h
      go_wp2_with fail
      go_ret
      exact ⟨by simp, P9.out.b⟩
    · clear H1h H2h
      subst h2
      go_wp2_with fail
      go_ret
      exact ⟨by simp, P9.out.b⟩
set_option maxHeartbeats 8000000 in
theorem back_ny (a b i t m ra rb rc fn ri rt rm rk gn : Int) (s T rs fa ga vs ys : ByteArray) (w : World) (hs : s.size ≤ 20000) (hT : T.size ≤ 20000)
    (VA : Hid (∀ W, Calls Try.prog 10 #[.agg #[.int .i64 a, .int .i64 b]] W fun e w' => e = .returned (.tuple #[.string vs, .int .i64 1]) ∧ Below W.heap.size W w'))
    (SA : Hid (∀ W, Calls Try.prog 12 #[.agg #[.int .i64 i, .int .i64 t, .int .i64 m, .string s]] W fun e w' => e = .returned (.tuple #[.string ys, .int .i64 0]) ∧ Below W.heap.size W w'))
    (RS : Hid (∀ W, Calls Try.prog 16 #[.string ys] W fun e w' => e = .returned (.tuple #[.agg #[.int .i64 i, .int .i64 t, .int .i64 m, .string s], .int .i64 0]) ∧ Below W.heap.size W w'))
    (RT : Hid (∀ W, Calls Try.prog 14 #[.string T] W fun e w' => e = .returned (.tuple #[.agg #[.int .i64 ra, .int .i64 rb], .int .i64 rc]) ∧ Below W.heap.size W w'))
    (VT : Hid (∀ W, Calls Try.prog 10 #[.agg #[.int .i64 ra, .int .i64 rb]] W fun e w' => e = .returned (.tuple #[.string fa, .int .i64 fn]) ∧ Below W.heap.size W w'))
    (ST : Hid (∀ W, Calls Try.prog 16 #[.string T] W fun e w' => e = .returned (.tuple #[.agg #[.int .i64 ri, .int .i64 rt, .int .i64 rm, .string rs], .int .i64 rk]) ∧ Below W.heap.size W w'))
    (XT : Hid (∀ W, Calls Try.prog 12 #[.agg #[.int .i64 ri, .int .i64 rt, .int .i64 rm, .string rs]] W fun e w' => e = .returned (.tuple #[.string ga, .int .i64 gn]) ∧ Below W.heap.size W w'))
    (H1 : rc ≠ 0 ∨ (rc = 0 ∧ fn = 0 ∧ fa = T)) (H2 : rk ≠ 0 ∨ (rk = 0 ∧ gn = 0 ∧ ga = T)) :
    Calls Try.prog 5 #[.agg #[.int .i64 a, .int .i64 b], .agg #[.int .i64 i, .int .i64 t, .int .i64 m, .string s], .string T] w fun e w' => e = .returned (.bool true) ∧ Below w.heap.size w w' := by
  have P0 := Lib.hid (Pv.start w #[.int .i64 a, .int .i64 b] #[.int .i64 i, .int .i64 t, .int .i64 m, .string s])
  have g0 : ((w.alloc (.cells #[.int .i64 a, .int .i64 b] 23)).alloc (.cells #[.int .i64 i, .int .i64 t, .int .i64 m, .string s] 25)).cell? ⟨w.heap.size + 1, 0, none⟩ = some (.int .i64 i) := P0.out.x.cell 0
  have g1 : ((w.alloc (.cells #[.int .i64 a, .int .i64 b] 23)).alloc (.cells #[.int .i64 i, .int .i64 t, .int .i64 m, .string s] 25)).cell? ⟨w.heap.size + 1, 1, none⟩ = some (.int .i64 t) := P0.out.x.cell 1
  have g2 : ((w.alloc (.cells #[.int .i64 a, .int .i64 b] 23)).alloc (.cells #[.int .i64 i, .int .i64 t, .int .i64 m, .string s] 25)).cell? ⟨w.heap.size + 1, 2, none⟩ = some (.int .i64 m) := P0.out.x.cell 2
  have g3 : ((w.alloc (.cells #[.int .i64 a, .int .i64 b] 23)).alloc (.cells #[.int .i64 i, .int .i64 t, .int .i64 m, .string s] 25)).cell? ⟨w.heap.size + 1, 3, none⟩ = some (.string s) := P0.out.x.cell 3
  have s0 : ¬ (20000 : Int) < (s.size : Int) := by omega
  have s1 : ¬ (20000 : Int) < (T.size : Int) := by omega
  clear hs hT g0 g1 g2
  have H1h := Lib.hid H1
  have H2h := Lib.hid H2
  clear H1 H2
  go_enter Try.func5, Try.ntmps5
  go_wp2_with fail
  refine (VA.out _).mono ?_
  rintro e w1 ⟨rfl, b1⟩
  have P1 := Lib.hid (P0.out.step b1)
  clear b1 P0 g3 VA
  have P2 := Lib.hid P1.out
  clear P1
  have d0 : w1.cell? ⟨w.heap.size + 1, 0, none⟩ = some (.int .i64 i) := P2.out.x.cell 0
  have d1 : w1.cell? ⟨w.heap.size + 1, 1, none⟩ = some (.int .i64 t) := P2.out.x.cell 1
  have d2 : w1.cell? ⟨w.heap.size + 1, 2, none⟩ = some (.int .i64 m) := P2.out.x.cell 2
  have d3 : w1.cell? ⟨w.heap.size + 1, 3, none⟩ = some (.string s) := P2.out.x.cell 3
  go_wp2_with fail
  refine (SA.out _).mono ?_
  rintro e w3 ⟨rfl, b3⟩
  have P3 := Lib.hid (P2.out.step b3)
  clear b3 P2 SA d0 d1 d2 d3
  go_wp2_with fail
  refine (RS.out _).mono ?_
  rintro e w4 ⟨rfl, b4⟩
  have P4 := Lib.hid ((P3.out.step b4).al (.cells #[.int .i64 i, .int .i64 t, .int .i64 m, .string s] 25))
  clear b4 P3 RS
  have d0 : (w4.alloc (.cells #[.int .i64 i, .int .i64 t, .int .i64 m, .string s] 25)).cell? ⟨w.heap.size + 1, 0, none⟩ = some (.int .i64 i) := P4.out.x.cell 0
  have d1 : (w4.alloc (.cells #[.int .i64 i, .int .i64 t, .int .i64 m, .string s] 25)).cell? ⟨w.heap.size + 1, 1, none⟩ = some (.int .i64 t) := P4.out.x.cell 1
  have d2 : (w4.alloc (.cells #[.int .i64 i, .int .i64 t, .int .i64 m, .string s] 25)).cell? ⟨w.heap.size + 1, 2, none⟩ = some (.int .i64 m) := P4.out.x.cell 2
  have d3 : (w4.alloc (.cells #[.int .i64 i, .int .i64 t, .int .i64 m, .string s] 25)).cell? ⟨w.heap.size + 1, 3, none⟩ = some (.string s) := P4.out.x.cell 3
  go_wp2_with fail
  refine (RT.out _).mono ?_
  rintro e w5 ⟨rfl, b5⟩
  have P5 := Lib.hid ((P4.out.step b5).al (.cells #[.int .i64 ra, .int .i64 rb] 23))
  clear b5 P4 RT d0 d1 d2 d3
  go_wp2_with fail
  refine (VT.out _).mono ?_
  rintro e w6 ⟨rfl, b6⟩
  have P6 := Lib.hid (P5.out.step b6)
  clear b6 P5 VT
  go_wp2_with fail
  refine (ST.out _).mono ?_
  rintro e w7 ⟨rfl, b7⟩
  have P7 := Lib.hid ((P6.out.step b7).al (.cells #[.int .i64 ri, .int .i64 rt, .int .i64 rm, .string rs] 25))
  clear b7 P6 ST
  go_wp2_with fail
  refine (XT.out _).mono ?_
  rintro e w8 ⟨rfl, b8⟩
  have P8 := Lib.hid (P7.out.step b8)
  clear b8 P7 XT
  go_wp2_with fail
  refine (awake_any _).mono ?_
  rintro e w9 ⟨rfl, b9⟩
  have P9 := Lib.hid (P8.out.step b9)
  clear b9 P8
  rcases H1h.out with h1 | ⟨rfl, rfl, rfl⟩
  · have h1b : (rc != 0) = true := by simpa using h1
    clear h1
    rcases H2h.out with h2 | ⟨rfl, rfl, h2⟩
    · have h2b : (rk != 0) = true := by simpa using h2
      clear h2 H1h H2h
      go_wp2_with fail
      go_ret
      exact ⟨by simp, P9.out.b⟩
    · clear H1h H2h
      subst h2
      go_wp2_with fail
      go_ret
      exact ⟨by simp, P9.out.b⟩
  · rcases H2h.out with h2 | ⟨rfl, rfl, h2⟩
    · have h2b : (rk != 0) = true := by simpa using h2
      clear h2 H1h H2h
      go_wp2_with fail
      go_ret
      exact ⟨by simp, P9.out.b⟩
    · clear H1h H2h
      subst h2
      go_wp2_with fail
      go_ret
      exact ⟨by simp, P9.out.b⟩
set_option maxHeartbeats 8000000 in
theorem back_nn (a b i t m ra rb rc fn ri rt rm rk gn : Int) (s T rs fa ga vs ys : ByteArray) (w : World) (hs : s.size ≤ 20000) (hT : T.size ≤ 20000)
    (VA : Hid (∀ W, Calls Try.prog 10 #[.agg #[.int .i64 a, .int .i64 b]] W fun e w' => e = .returned (.tuple #[.string vs, .int .i64 1]) ∧ Below W.heap.size W w'))
    (SA : Hid (∀ W, Calls Try.prog 12 #[.agg #[.int .i64 i, .int .i64 t, .int .i64 m, .string s]] W fun e w' => e = .returned (.tuple #[.string ys, .int .i64 1]) ∧ Below W.heap.size W w'))
    (RT : Hid (∀ W, Calls Try.prog 14 #[.string T] W fun e w' => e = .returned (.tuple #[.agg #[.int .i64 ra, .int .i64 rb], .int .i64 rc]) ∧ Below W.heap.size W w'))
    (VT : Hid (∀ W, Calls Try.prog 10 #[.agg #[.int .i64 ra, .int .i64 rb]] W fun e w' => e = .returned (.tuple #[.string fa, .int .i64 fn]) ∧ Below W.heap.size W w'))
    (ST : Hid (∀ W, Calls Try.prog 16 #[.string T] W fun e w' => e = .returned (.tuple #[.agg #[.int .i64 ri, .int .i64 rt, .int .i64 rm, .string rs], .int .i64 rk]) ∧ Below W.heap.size W w'))
    (XT : Hid (∀ W, Calls Try.prog 12 #[.agg #[.int .i64 ri, .int .i64 rt, .int .i64 rm, .string rs]] W fun e w' => e = .returned (.tuple #[.string ga, .int .i64 gn]) ∧ Below W.heap.size W w'))
    (H1 : rc ≠ 0 ∨ (rc = 0 ∧ fn = 0 ∧ fa = T)) (H2 : rk ≠ 0 ∨ (rk = 0 ∧ gn = 0 ∧ ga = T)) :
    Calls Try.prog 5 #[.agg #[.int .i64 a, .int .i64 b], .agg #[.int .i64 i, .int .i64 t, .int .i64 m, .string s], .string T] w fun e w' => e = .returned (.bool true) ∧ Below w.heap.size w w' := by
  have P0 := Lib.hid (Pv.start w #[.int .i64 a, .int .i64 b] #[.int .i64 i, .int .i64 t, .int .i64 m, .string s])
  have g0 : ((w.alloc (.cells #[.int .i64 a, .int .i64 b] 23)).alloc (.cells #[.int .i64 i, .int .i64 t, .int .i64 m, .string s] 25)).cell? ⟨w.heap.size + 1, 0, none⟩ = some (.int .i64 i) := P0.out.x.cell 0
  have g1 : ((w.alloc (.cells #[.int .i64 a, .int .i64 b] 23)).alloc (.cells #[.int .i64 i, .int .i64 t, .int .i64 m, .string s] 25)).cell? ⟨w.heap.size + 1, 1, none⟩ = some (.int .i64 t) := P0.out.x.cell 1
  have g2 : ((w.alloc (.cells #[.int .i64 a, .int .i64 b] 23)).alloc (.cells #[.int .i64 i, .int .i64 t, .int .i64 m, .string s] 25)).cell? ⟨w.heap.size + 1, 2, none⟩ = some (.int .i64 m) := P0.out.x.cell 2
  have g3 : ((w.alloc (.cells #[.int .i64 a, .int .i64 b] 23)).alloc (.cells #[.int .i64 i, .int .i64 t, .int .i64 m, .string s] 25)).cell? ⟨w.heap.size + 1, 3, none⟩ = some (.string s) := P0.out.x.cell 3
  have s0 : ¬ (20000 : Int) < (s.size : Int) := by omega
  have s1 : ¬ (20000 : Int) < (T.size : Int) := by omega
  clear hs hT g0 g1 g2
  have H1h := Lib.hid H1
  have H2h := Lib.hid H2
  clear H1 H2
  go_enter Try.func5, Try.ntmps5
  go_wp2_with fail
  refine (VA.out _).mono ?_
  rintro e w1 ⟨rfl, b1⟩
  have P1 := Lib.hid (P0.out.step b1)
  clear b1 P0 g3 VA
  have P2 := Lib.hid P1.out
  clear P1
  have d0 : w1.cell? ⟨w.heap.size + 1, 0, none⟩ = some (.int .i64 i) := P2.out.x.cell 0
  have d1 : w1.cell? ⟨w.heap.size + 1, 1, none⟩ = some (.int .i64 t) := P2.out.x.cell 1
  have d2 : w1.cell? ⟨w.heap.size + 1, 2, none⟩ = some (.int .i64 m) := P2.out.x.cell 2
  have d3 : w1.cell? ⟨w.heap.size + 1, 3, none⟩ = some (.string s) := P2.out.x.cell 3
  go_wp2_with fail
  refine (SA.out _).mono ?_
  rintro e w3 ⟨rfl, b3⟩
  have P3 := Lib.hid (P2.out.step b3)
  clear b3 P2 SA d0 d1 d2 d3
  have P4 := Lib.hid P3.out
  clear P3
  go_wp2_with fail
  refine (RT.out _).mono ?_
  rintro e w5 ⟨rfl, b5⟩
  have P5 := Lib.hid ((P4.out.step b5).al (.cells #[.int .i64 ra, .int .i64 rb] 23))
  clear b5 P4 RT
  go_wp2_with fail
  refine (VT.out _).mono ?_
  rintro e w6 ⟨rfl, b6⟩
  have P6 := Lib.hid (P5.out.step b6)
  clear b6 P5 VT
  go_wp2_with fail
  refine (ST.out _).mono ?_
  rintro e w7 ⟨rfl, b7⟩
  have P7 := Lib.hid ((P6.out.step b7).al (.cells #[.int .i64 ri, .int .i64 rt, .int .i64 rm, .string rs] 25))
  clear b7 P6 ST
  go_wp2_with fail
  refine (XT.out _).mono ?_
  rintro e w8 ⟨rfl, b8⟩
  have P8 := Lib.hid (P7.out.step b8)
  clear b8 P7 XT
  go_wp2_with fail
  refine (awake_any _).mono ?_
  rintro e w9 ⟨rfl, b9⟩
  have P9 := Lib.hid (P8.out.step b9)
  clear b9 P8
  rcases H1h.out with h1 | ⟨rfl, rfl, rfl⟩
  · have h1b : (rc != 0) = true := by simpa using h1
    clear h1
    rcases H2h.out with h2 | ⟨rfl, rfl, h2⟩
    · have h2b : (rk != 0) = true := by simpa using h2
      clear h2 H1h H2h
      go_wp2_with fail
      go_ret
      exact ⟨by simp, P9.out.b⟩
    · clear H1h H2h
      subst h2
      go_wp2_with fail
      go_ret
      exact ⟨by simp, P9.out.b⟩
  · rcases H2h.out with h2 | ⟨rfl, rfl, h2⟩
    · have h2b : (rk != 0) = true := by simpa using h2
      clear h2 H1h H2h
      go_wp2_with fail
      go_ret
      exact ⟨by simp, P9.out.b⟩
    · clear H1h H2h
      subst h2
      go_wp2_with fail
      go_ret
      exact ⟨by simp, P9.out.b⟩
set_option maxHeartbeats 4000000 in
theorem back_law (a b i t m : Int) (s T : ByteArray) (w : World) (_hT : T.size ≤ 9223372036854775807) : Calls Try.prog 5 #[voteV a b, snapV i t m s, .string T] w fun e w' => e = .returned (.bool true) ∧ Below w.heap.size w w' := by
  by_cases hz : s.size ≤ 20000 ∧ T.size ≤ 20000
  · obtain ⟨hs, ht⟩ := hz
    have RT := Lib.hid fun W => readVote_any T (by omega) W
    have VT := Lib.hid fun W => vote_all (rdV T).1 (rdV T).2.1 W
    have ST := Lib.hid fun W => readSnap_any T (by omega) W
    have XT := Lib.hid fun W => snap_all (rsV T).1 (rsV T).2.1 (rsV T).2.2.1 (rsV T).2.2.2.1 W
    have H1 : (rdV T).2.2 ≠ 0 ∨ ((rdV T).2.2 = 0 ∧ (vT (rdV T).1 (rdV T).2.1).2 = 0 ∧ (vT (rdV T).1 (rdV T).2.1).1 = T) := by
      by_cases h : (rdV T).2.2 = 0
      · obtain ⟨h1, h2⟩ := rdV_back h
        unfold vT
        rw [h1, if_pos rfl]
        exact .inr ⟨h, rfl, h2⟩
      · exact .inl h
    have H2 : (rsV T).2.2.2.2 ≠ 0 ∨ ((rsV T).2.2.2.2 = 0 ∧ (sT (rsV T).1 (rsV T).2.1 (rsV T).2.2.1 (rsV T).2.2.2.1).2 = 0 ∧ (sT (rsV T).1 (rsV T).2.1 (rsV T).2.2.1 (rsV T).2.2.2.1).1 = T) := by
      by_cases h : (rsV T).2.2.2.2 = 0
      · obtain ⟨h1, h2⟩ := rsV_back h
        unfold sT
        rw [h1, if_pos rfl]
        exact .inr ⟨h, rfl, h2⟩
      · exact .inl h
    have RV : voteB a b = true → Hid (∀ W, Calls Try.prog 14 #[.string (voteS a b)] W fun e w' => e = .returned (.tuple #[.agg #[.int .i64 a, .int .i64 b], .int .i64 0]) ∧ Below W.heap.size W w') := fun h W => by
      have h1 := Bt.numS_size a
      have h2 : (Bt.intS b).size ≤ 9 := Bt.numS_size _
      have := readVote_any (voteS a b) (by unfold voteS; rw [ByteArray.size_append]; omega) W
      rw [rdV_was h] at this
      exact this
    have RS : snapB i t m s = true → Hid (∀ W, Calls Try.prog 16 #[.string (snapS i t m s)] W fun e w' => e = .returned (.tuple #[.agg #[.int .i64 i, .int .i64 t, .int .i64 m, .string s], .int .i64 0]) ∧ Below W.heap.size W w') := fun h W => by
      have h1 := Bt.numS_size i
      have h2 := Bt.numS_size t
      have h3 := Bt.numS_size m
      have h4 := Bt.numS_size (s.size : Int)
      have := readSnap_any (snapS i t m s) (by unfold snapS Bt.textS; simp only [ByteArray.size_append]; omega) W
      rw [rsV_was h] at this
      exact this
    cases hv : voteB a b
    · cases hx : snapB i t m s
      · exact back_nn a b i t m _ _ _ _ _ _ _ _ _ s T _ _ _ _ _ w hs ht (Lib.hid fun W => vote_no hv W) (Lib.hid fun W => snap_no hx W) RT VT ST XT H1 H2
      · exact back_ny a b i t m _ _ _ _ _ _ _ _ _ s T _ _ _ _ _ w hs ht (Lib.hid fun W => vote_no hv W) (Lib.hid fun W => snap_ok hx W) (RS hx) RT VT ST XT H1 H2
    · cases hx : snapB i t m s
      · exact back_yn a b i t m _ _ _ _ _ _ _ _ _ s T _ _ _ _ _ w hs ht (Lib.hid fun W => vote_ok hv W) (RV hv) (Lib.hid fun W => snap_no hx W) RT VT ST XT H1 H2
      · exact back_yy a b i t m _ _ _ _ _ _ _ _ _ s T _ _ _ _ _ w hs ht (Lib.hid fun W => vote_ok hv W) (RV hv) (Lib.hid fun W => snap_ok hx W) (RS hx) RT VT ST XT H1 H2
  · have P0 := Lib.hid (Pv.start w #[.int .i64 a, .int .i64 b] #[.int .i64 i, .int .i64 t, .int .i64 m, .string s])
    unfold voteV snapV at *
    have g3 : ((w.alloc (.cells #[.int .i64 a, .int .i64 b] 23)).alloc (.cells #[.int .i64 i, .int .i64 t, .int .i64 m, .string s] 25)).cell? ⟨w.heap.size + 1, 3, none⟩ = some (.string s) := P0.out.x.cell 3
    by_cases hs : s.size ≤ 20000
    · have s0 : ¬ (20000 : Int) < (s.size : Int) := by omega
      have s1 : (20000 : Int) < (T.size : Int) := by omega
      clear hz
      go_enter Try.func5, Try.ntmps5
      go_wp2_with fail
      refine (awake_any _).mono ?_
      rintro e w8 ⟨rfl, b8⟩
      have N8 := Lib.hid (P0.out.step b8)
      clear b8
      go_wp2_with fail
      go_ret
      exact ⟨rfl, N8.out.b⟩
    · have s0 : (20000 : Int) < (s.size : Int) := by omega
      clear hz
      go_enter Try.func5, Try.ntmps5
      go_wp2_with fail
      refine (awake_any _).mono ?_
      rintro e w8 ⟨rfl, b8⟩
      have N8 := Lib.hid (P0.out.step b8)
      clear b8
      go_wp2_with fail
      go_ret
      exact ⟨rfl, N8.out.b⟩
end Go.Proofs.Ythdkflmkcoabaaa
