/-
  WHAT THE ROWS REST ON, part 6: BRefs BRefs2 Rds Rre Dskq Savq Awk.
-/
import Derived.BigRegion
import Derived.Test.YthnnenhpcceckaaGreatPart5
/-
  THE DOCUMENT'S OWN TAPE: its calls.
-/
namespace Go.Proofs.YthnnenhpcceckaaGreat.Bt
open Go.RowKit Go.Sort
/-- a tape of the document, and what it answers -/
def tp (s : ByteArray) (e : Int) : Value := .agg #[.string s, .int .i64 e]
def rv {α : Type} (x : α × ByteArray × Int) (v : Value) : Value := .tuple #[.agg #[.string x.2.1, .int .i64 x.2.2], v]
theorem extract_all (s : ByteArray) : s.extract 0 s.size = s := bytes_ext (by rw [Lib.extract_data, List.drop_zero, Nat.sub_zero, List.take_of_length_le (by rw [← Lib.size_eq]; exact Nat.le_refl _)])
/-- a tape of the document in memory -/
def BoxAt (w : World) (b : Nat) (s : ByteArray) (e : Int) : Prop := w.heap[b]? = some (.cells #[.string s, .int .i64 e] 105 (0, 0))
section
variable {w w' : World} {b : Nat} {s s' : ByteArray} {e e' : Int}
theorem BoxAt.lt (h : BoxAt w b s e) : b < w.heap.size := (Array.getElem?_eq_some_iff.1 h).1
theorem BoxAt.c0 (h : BoxAt w b s e) : w.cell? ⟨b, 0, none⟩ = some (.string s) := by unfold BoxAt at h; simp [World.cell?, h]
theorem BoxAt.c1 (h : BoxAt w b s e) : w.cell? ⟨b, 1, none⟩ = some (.int .i64 e) := by unfold BoxAt at h; simp [World.cell?, h]
theorem BoxAt.f (h : BoxAt w b s e) (o : Nat) : w.frozen? ⟨b, o, none⟩ = false := by unfold BoxAt at h; simp [World.frozen?, h]
theorem BoxAt.next (h : BoxAt w b s e) (hb : Below w.heap.size w w') : BoxAt w' b s e := by
  have := h.lt
  unfold BoxAt at *
  rw [hb.block b this]; exact h
theorem BoxAt.set (h : BoxAt w b s e) : BoxAt ((w.setCell ⟨b, 0, none⟩ (.string s')).setCell ⟨b, 1, none⟩ (.int .i64 e')) b s' e' := by
  unfold BoxAt at *; simp [World.setCell, Array.getElem?_modify, h]
theorem BoxAt.alloc (h : BoxAt w b s e) (o : Obj) : BoxAt (w.alloc o) b s e := h.next ((Below.refl _ _).alloc (Nat.le_refl _) o)
theorem box_new (w : World) (s : ByteArray) (e : Int) : BoxAt (w.alloc (.cells #[.string s, .int .i64 e] 105)) w.heap.size s e := by
  unfold BoxAt; simp [World.alloc, -World.alloc_eq]
theorem box_new1 (w : World) (o : Obj) (s : ByteArray) (e : Int) : BoxAt ((w.alloc o).alloc (.cells #[.string s, .int .i64 e] 105)) (w.heap.size + 1) s e := by
  have h := box_new (w.alloc o) s e
  have hz : (w.alloc o).heap.size = w.heap.size + 1 := by simp [World.alloc, -World.alloc_eq]
  rwa [hz] at h
end
theorem end_box {w W : World} {b : Nat} {s0 : ByteArray} {e0 : Int} (hB : BoxAt W b s0 e0) (hb : Below w.heap.size w W) (hge : w.heap.size ≤ b) (s' : ByteArray) (e' : Int) :
    ∃ w2, w2 = (W.setCell ⟨b, 0, none⟩ (.string s')).setCell ⟨b, 1, none⟩ (.int .i64 e') ∧ w2.cell? ⟨b, 0, none⟩ = some (.string s') ∧ w2.cell? ⟨b, 1, none⟩ = some (.int .i64 e') ∧ Below w.heap.size w w2 :=
  ⟨_, rfl, hB.set.c0, hB.set.c1, (hb.setCell (p := ⟨b, 0, none⟩) hge (.string s')).setCell (p := ⟨b, 1, none⟩) hge (.int .i64 e')⟩
theorem rnumT_any (s : ByteArray) (e : Int) (hs : s.size ≤ 281474976710656) (w : World) :
    Calls Tryz.prog 45 #[.agg #[.string s, .int .i64 e]] w fun r w' => r = .returned (rv (tNum s e) (vNum (tNum s e))) ∧ Below w.heap.size w w' := by
  by_cases he : e = 0
  · subst he
    have HA := Lib.hid (ahead_any s hs)
    have hf := rdNum_facts s.data.toList
    rw [← Lib.size_eq] at hf
    unfold tNum
    rcases hR : rdNum s.data.toList with ⟨N, K, E⟩
    rw [hR] at HA hf
    simp only at hf
    have hk := hf.2.1
    unfold aheadV at HA
    go_enter Tryz.func45, Tryz.ntmps45
    go_wp2_with fail
    refine (HA.out _).mono ?_
    rintro r w1 ⟨rfl, b1⟩
    have B1 := ((box_new w s 0).alloc (.cells #[.string ⟨#[]⟩, .int .i64 0] 105)).next b1
    have B2 := (box_new1 w (.cells #[.string s, .int .i64 0] 105) ⟨#[]⟩ 0).next b1
    have x0 := B1.c0
    have x1 := B1.c1
    have y0 := B2.c0
    have y1 := B2.c1
    have yf0 := B2.f 0
    have yf1 := B2.f 1
    have bb : Below w.heap.size w w1 := (((Below.refl _ w).alloc (Nat.le_refl _) _).alloc (by simp) _).trans (b1.mono (by simp; omega))
    clear b1
    go_wp2_with fail
    obtain ⟨w2, hw2, z0, z1, b3⟩ := end_box B2 bb (by omega) (s.extract K s.size) E
    rw [← hw2]
    refine bodyPost_ret (by simp [results, Tryz.results45, go_sem, z0, z1]; try rfl) rfl ?_
    refine ⟨?_, b3⟩
    rcases hf.2.2 with rfl | ⟨rfl, rfl, rfl⟩ | ⟨rfl, rfl, rfl⟩
    · rw [tk_ok]; rfl
    · rw [tk_bad _ _ _ _ (by decide), extract_all]; rfl
    · rw [tk_bad _ _ _ _ (by decide), extract_all]; rfl
  · have heb : (e != 0) = true := by simp [he]
    have ht := Lib.hid (tk_stays 0 s (rdNum s.data.toList) he)
    go_enter Tryz.func45, Tryz.ntmps45
    go_wp2_with fail
    go_returns
    unfold tNum
    rw [ht.out]
    exact ⟨rfl, ((Below.refl _ w).alloc (Nat.le_refl _) _).alloc (by simp) _⟩
theorem tInt_of (s : ByteArray) (e : Int) : tInt s e = (unz (tNum s e).1, (tNum s e).2) := by
  unfold tInt tNum tk rdInt
  split
  · simp [unz]
  · dsimp only
    split
    · simp [unz]
    · rfl
theorem tNum_lt (s : ByteArray) (e : Int) : (tNum s e).1 < 18446744073709551616 := by
  have hf := (rdNum_facts s.data.toList).1
  unfold tNum tk
  split
  · exact (by decide : (0 : Nat) < 18446744073709551616)
  · split
    · exact (by decide : (0 : Nat) < 18446744073709551616)
    · exact hf
set_option maxHeartbeats 1000000 in
theorem rintT_any (s : ByteArray) (e : Int) (hs : s.size ≤ 281474976710656) (w : World) :
    Calls Tryz.prog 46 #[.agg #[.string s, .int .i64 e]] w fun r w' => r = .returned (rv (tInt s e) (vInt (tInt s e))) ∧ Below w.heap.size w w' := by
  have HA := Lib.hid (rnumT_any s e hs)
  have hl := tNum_lt s e
  rw [tInt_of]
  rcases hT : tNum s e with ⟨N, s', e'⟩
  rw [hT] at HA hl
  clear hT
  unfold rv vNum at HA
  simp only at HA hl
  by_cases hn : N % 2 = 0
  · have hn2 : (N : Int) % 2 = 0 := by omega
    have hu : Hid (unz N = (N : Int) / 2) := by unfold Hid unz; rw [if_pos hn]; omega
    go_enter Tryz.func46, Tryz.ntmps46
    go_wp2_with fail
    refine (HA.out _).mono ?_
    rintro r w1 ⟨rfl, b1⟩
    have B1 := ((box_new w s e).alloc (.cells #[.string ⟨#[]⟩, .int .i64 0] 105)).next b1
    have B2 := (box_new1 w (.cells #[.string s, .int .i64 e] 105) ⟨#[]⟩ 0).next b1
    have bb : Below w.heap.size w w1 := (((Below.refl _ w).alloc (Nat.le_refl _) _).alloc (by simp) _).trans (b1.mono (by simp; omega))
    clear b1
    have B4 := B2.alloc (.cells #[.string s', .int .i64 e'] 105)
    have y0 := B4.c0
    have y1 := B4.c1
    have yf0 := B4.f 0
    have yf1 := B4.f 1
    go_wp2_with fail
    obtain ⟨w2, hw2, z0, z1, b3⟩ := end_box B4 (bb.alloc bb.size _) (by omega) s' e'
    rw [← hw2]
    refine bodyPost_ret (by simp [results, Tryz.results46, go_sem, z0, z1]; try rfl) rfl ?_
    refine ⟨?_, b3⟩
    unfold rv vInt
    simp only [hu.out]
  · have hn2 : ¬ (N : Int) % 2 = 0 := by omega
    have hn3 : (N : Int) % 2 = 1 := by omega
    have hu : Hid (unz N = -((N : Int) / 2) - 1) := by unfold Hid unz; rw [if_neg hn]; omega
    go_enter Tryz.func46, Tryz.ntmps46
    go_wp2_with fail
    refine (HA.out _).mono ?_
    rintro r w1 ⟨rfl, b1⟩
    have B1 := ((box_new w s e).alloc (.cells #[.string ⟨#[]⟩, .int .i64 0] 105)).next b1
    have B2 := (box_new1 w (.cells #[.string s, .int .i64 e] 105) ⟨#[]⟩ 0).next b1
    have bb : Below w.heap.size w w1 := (((Below.refl _ w).alloc (Nat.le_refl _) _).alloc (by simp) _).trans (b1.mono (by simp; omega))
    clear b1
    have B4 := B2.alloc (.cells #[.string s', .int .i64 e'] 105)
    have y0 := B4.c0
    have y1 := B4.c1
    have yf0 := B4.f 0
    have yf1 := B4.f 1
    go_wp2_with fail
    obtain ⟨w2, hw2, z0, z1, b3⟩ := end_box B4 (bb.alloc bb.size _) (by omega) s' e'
    rw [← hw2]
    refine bodyPost_ret (by simp [results, Tryz.results46, go_sem, z0, z1]; try rfl) rfl ?_
    refine ⟨?_, b3⟩
    unfold rv vInt
    simp only [hu.out]
end Go.Proofs.YthnnenhpcceckaaGreat.Bt
/-
  THE DOCUMENT'S OWN TAPE: flags and texts.
-/
namespace Go.Proofs.YthnnenhpcceckaaGreat.Bt
open Go.RowKit Go.Sort
/-- a text: each way -/
theorem rtext_stays (s : ByteArray) (e most : Int) (he : e ≠ 0) (w : World) :
    Calls Tryz.prog 53 #[.agg #[.string s, .int .i64 e], .int .i64 most] w fun r w' => r = .returned (rv (tText s e most) (vText (tText s e most))) ∧ Below w.heap.size w w' := by
  have heb : (e != 0) = true := by simp [he]
  have ht := Lib.hid (tk_stays ⟨#[]⟩ s (rdText s most) he)
  go_enter Tryz.func53, Tryz.ntmps53
  go_wp2_with fail
  go_returns
  unfold tText
  rw [ht.out]
  exact ⟨rfl, ((Below.refl _ w).alloc (Nat.le_refl _) _).alloc (by simp) _⟩
section
variable (s : ByteArray) (N K : Nat) (most : Int) (w : World)
set_option maxHeartbeats 2000000 in
theorem rtext_bad (E : Int) (hE : E ≠ 0) (HA : Hid (∀ w, Calls Tryz.prog 69 #[.string s] w fun e w' => e = .returned (.tuple #[.int .u64 (N : Int), .int .i64 (K : Int), .int .i64 E]) ∧ Below w.heap.size w w'))
    (HT : Hid (tText s 0 most = (⟨#[]⟩, s, E))) :
    Calls Tryz.prog 53 #[.agg #[.string s, .int .i64 0], .int .i64 most] w fun r w' => r = .returned (rv (tText s 0 most) (vText (tText s 0 most))) ∧ Below w.heap.size w w' := by
  have heb : (E != 0) = true := by simp [hE]
  go_enter Tryz.func53, Tryz.ntmps53
  go_wp2_with fail
  refine (HA.out _).mono ?_
  rintro r w1 ⟨rfl, b1⟩
  have B1 := ((box_new w s 0).alloc (.cells #[.string ⟨#[]⟩, .int .i64 0] 105)).next b1
  have B2 := (box_new1 w (.cells #[.string s, .int .i64 0] 105) ⟨#[]⟩ 0).next b1
  have bb : Below w.heap.size w w1 := (((Below.refl _ w).alloc (Nat.le_refl _) _).alloc (by simp) _).trans (b1.mono (by simp; omega))
  clear b1
  have x0 := B1.c0
  have x1 := B1.c1
  have y0 := B2.c0
  have y1 := B2.c1
  have yf0 := B2.f 0
  have yf1 := B2.f 1
  go_wp2_with fail
  obtain ⟨w2, hw2, z0, z1, b3⟩ := end_box B2 bb (by omega) s E
  rw [← hw2]
  refine bodyPost_ret (by simp [results, Tryz.results53, go_sem, z0, z1]; try rfl) rfl ?_
  exact ⟨by rw [HT.out]; rfl, b3⟩
set_option maxHeartbeats 2000000 in
theorem rtext_neg (HA : Hid (∀ w, Calls Tryz.prog 69 #[.string s] w fun e w' => e = .returned (.tuple #[.int .u64 (N : Int), .int .i64 (K : Int), .int .i64 0]) ∧ Below w.heap.size w w')) (hN : 0 < (N : Int)) (hm : most < 0)
    (HT : Hid (tText s 0 most = (⟨#[]⟩, s, 2))) :
    Calls Tryz.prog 53 #[.agg #[.string s, .int .i64 0], .int .i64 most] w fun r w' => r = .returned (rv (tText s 0 most) (vText (tText s 0 most))) ∧ Below w.heap.size w w' := by
  go_enter Tryz.func53, Tryz.ntmps53
  go_wp2_with fail
  refine (HA.out _).mono ?_
  rintro r w1 ⟨rfl, b1⟩
  have B1 := ((box_new w s 0).alloc (.cells #[.string ⟨#[]⟩, .int .i64 0] 105)).next b1
  have B2 := (box_new1 w (.cells #[.string s, .int .i64 0] 105) ⟨#[]⟩ 0).next b1
  have bb : Below w.heap.size w w1 := (((Below.refl _ w).alloc (Nat.le_refl _) _).alloc (by simp) _).trans (b1.mono (by simp; omega))
  clear b1
  have x0 := B1.c0
  have x1 := B1.c1
  have y0 := B2.c0
  have y1 := B2.c1
  have yf0 := B2.f 0
  have yf1 := B2.f 1
  go_wp2_with fail
  obtain ⟨w2, hw2, z0, z1, b3⟩ := end_box B2 bb (by omega) s 2
  rw [← hw2]
  refine bodyPost_ret (by simp [results, Tryz.results53, go_sem, z0, z1]; try rfl) rfl ?_
  exact ⟨by rw [HT.out]; rfl, b3⟩
set_option maxHeartbeats 2000000 in
theorem rtext_long (HA : Hid (∀ w, Calls Tryz.prog 69 #[.string s] w fun e w' => e = .returned (.tuple #[.int .u64 (N : Int), .int .i64 (K : Int), .int .i64 0]) ∧ Below w.heap.size w w')) (hN : 0 < (N : Int)) (_hm : ¬ most < 0) (hm2 : 0 ≤ most) (hm3 : most ≤ 9223372036854775807) (hl : most < (N : Int))
    (HT : Hid (tText s 0 most = (⟨#[]⟩, s, 2))) :
    Calls Tryz.prog 53 #[.agg #[.string s, .int .i64 0], .int .i64 most] w fun r w' => r = .returned (rv (tText s 0 most) (vText (tText s 0 most))) ∧ Below w.heap.size w w' := by
  go_enter Tryz.func53, Tryz.ntmps53
  go_wp2_with fail
  refine (HA.out _).mono ?_
  rintro r w1 ⟨rfl, b1⟩
  have B1 := ((box_new w s 0).alloc (.cells #[.string ⟨#[]⟩, .int .i64 0] 105)).next b1
  have B2 := (box_new1 w (.cells #[.string s, .int .i64 0] 105) ⟨#[]⟩ 0).next b1
  have bb : Below w.heap.size w w1 := (((Below.refl _ w).alloc (Nat.le_refl _) _).alloc (by simp) _).trans (b1.mono (by simp; omega))
  clear b1
  have x0 := B1.c0
  have x1 := B1.c1
  have y0 := B2.c0
  have y1 := B2.c1
  have yf0 := B2.f 0
  have yf1 := B2.f 1
  go_wp2_with fail
  obtain ⟨w2, hw2, z0, z1, b3⟩ := end_box B2 bb (by omega) s 2
  rw [← hw2]
  refine bodyPost_ret (by simp [results, Tryz.results53, go_sem, z0, z1]; try rfl) rfl ?_
  exact ⟨by rw [HT.out]; rfl, b3⟩
set_option maxHeartbeats 2000000 in
theorem rtext_short (HA : Hid (∀ w, Calls Tryz.prog 69 #[.string s] w fun e w' => e = .returned (.tuple #[.int .u64 (N : Int), .int .i64 (K : Int), .int .i64 0]) ∧ Below w.heap.size w w')) (hs : s.size ≤ 281474976710656) (hK : K ≤ s.size) (_hm : ¬ most < 0) (hm2 : 0 ≤ most) (hm3 : most ≤ 9223372036854775807) (hl : ¬ most < (N : Int)) (hd : (s.size : Int) - (K : Int) < (N : Int))
    (HT : Hid (tText s 0 most = (⟨#[]⟩, s, 5))) :
    Calls Tryz.prog 53 #[.agg #[.string s, .int .i64 0], .int .i64 most] w fun r w' => r = .returned (rv (tText s 0 most) (vText (tText s 0 most))) ∧ Below w.heap.size w w' := by
  go_enter Tryz.func53, Tryz.ntmps53
  go_wp2_with fail
  refine (HA.out _).mono ?_
  rintro r w1 ⟨rfl, b1⟩
  have B1 := ((box_new w s 0).alloc (.cells #[.string ⟨#[]⟩, .int .i64 0] 105)).next b1
  have B2 := (box_new1 w (.cells #[.string s, .int .i64 0] 105) ⟨#[]⟩ 0).next b1
  have bb : Below w.heap.size w w1 := (((Below.refl _ w).alloc (Nat.le_refl _) _).alloc (by simp) _).trans (b1.mono (by simp; omega))
  clear b1
  have x0 := B1.c0
  have x1 := B1.c1
  have y0 := B2.c0
  have y1 := B2.c1
  have yf0 := B2.f 0
  have yf1 := B2.f 1
  go_wp2_with fail
  obtain ⟨w2, hw2, z0, z1, b3⟩ := end_box B2 bb (by omega) s 5
  rw [← hw2]
  refine bodyPost_ret (by simp [results, Tryz.results53, go_sem, z0, z1]; try rfl) rfl ?_
  exact ⟨by rw [HT.out]; rfl, b3⟩
set_option maxHeartbeats 4000000 in
theorem rtext_ok (HA : Hid (∀ w, Calls Tryz.prog 69 #[.string s] w fun e w' => e = .returned (.tuple #[.int .u64 (N : Int), .int .i64 (K : Int), .int .i64 0]) ∧ Below w.heap.size w w')) (hs : s.size ≤ 281474976710656) (hK : K ≤ s.size) (_hm : ¬ most < 0) (hm2 : 0 ≤ most) (hm3 : most ≤ 9223372036854775807) (hl : ¬ most < (N : Int)) (hd : ¬ (s.size : Int) - (K : Int) < (N : Int))
    (HT : Hid (tText s 0 most = (s.extract K (K + N), s.extract (K + N) s.size, 0))) :
    Calls Tryz.prog 53 #[.agg #[.string s, .int .i64 0], .int .i64 most] w fun r w' => r = .returned (rv (tText s 0 most) (vText (tText s 0 most))) ∧ Below w.heap.size w w' := by
  go_enter Tryz.func53, Tryz.ntmps53
  go_wp2_with fail
  refine (HA.out _).mono ?_
  rintro r w1 ⟨rfl, b1⟩
  have B1 := ((box_new w s 0).alloc (.cells #[.string ⟨#[]⟩, .int .i64 0] 105)).next b1
  have B2 := (box_new1 w (.cells #[.string s, .int .i64 0] 105) ⟨#[]⟩ 0).next b1
  have bb : Below w.heap.size w w1 := (((Below.refl _ w).alloc (Nat.le_refl _) _).alloc (by simp) _).trans (b1.mono (by simp; omega))
  clear b1
  have x0 := B1.c0
  have x1 := B1.c1
  have y0 := B2.c0
  have y1 := B2.c1
  have yf0 := B2.f 0
  have yf1 := B2.f 1
  go_wp2_with fail
  have hx0 : ∀ v v', ((w1.setCell ⟨w.heap.size + 1, 0, none⟩ v).setCell ⟨w.heap.size + 1, 1, none⟩ v').cell? ⟨w.heap.size, 0, none⟩ = some (.string s) := fun v v' => by
    have := B1
    unfold BoxAt at this
    have hne : w.heap.size + 1 ≠ w.heap.size := by omega
    simp [World.cell?, World.setCell, Array.getElem?_modify, this]
  have k1 : IntKind.i64.wrap ((K : Int) + (N : Int)) = (K : Int) + (N : Int) := IntWalk.i64_in _ ⟨by omega, by omega⟩
  have k2 : (0 : Int) ≤ (K : Int) + (N : Int) := by omega
  have k3 : ((K : Int) + (N : Int)).toNat = K + N := by omega
  have k4 : (K : Int) ≤ (K : Int) + (N : Int) := by omega
  have k5 : (K : Int) + (N : Int) ≤ (s.size : Int) := by omega
  have k6 : K + N ≤ s.size := by omega
  have k7 : K ≤ K + N := by omega
  have k8 : IntKind.i64.wrap (N : Int) = (N : Int) := IntWalk.i64_in _ ⟨by omega, by omega⟩
  go_region
  go_wp2_with fail
  obtain ⟨w2, hw2, z0, z1, b3⟩ := end_box B2 bb (by omega) (s.extract (K + N) s.size) 0
  rw [← hw2]
  have z2 : w2.drew.cell? ⟨w.heap.size + 1, 0, none⟩ = some (.string (s.extract (K + N) s.size)) := z0
  have z3 : w2.drew.cell? ⟨w.heap.size + 1, 1, none⟩ = some (.int .i64 0) := z1
  refine bodyPost_ret (by simp [results, Tryz.results53, go_sem, z2, z3]; try rfl) rfl ?_
  exact ⟨by rw [HT.out]; rfl, b3.drew⟩
set_option maxHeartbeats 4000000 in
theorem rtext_ok0 (HA : Hid (∀ w, Calls Tryz.prog 69 #[.string s] w fun e w' => e = .returned (.tuple #[.int .u64 (N : Int), .int .i64 (K : Int), .int .i64 0]) ∧ Below w.heap.size w w')) (hs : s.size ≤ 281474976710656) (hK : K ≤ s.size) (hm : most < 0) (hN : ¬ 0 < (N : Int)) (hd : ¬ (s.size : Int) - (K : Int) < (N : Int))
    (HT : Hid (tText s 0 most = (s.extract K (K + N), s.extract (K + N) s.size, 0))) :
    Calls Tryz.prog 53 #[.agg #[.string s, .int .i64 0], .int .i64 most] w fun r w' => r = .returned (rv (tText s 0 most) (vText (tText s 0 most))) ∧ Below w.heap.size w w' := by
  go_enter Tryz.func53, Tryz.ntmps53
  go_wp2_with fail
  refine (HA.out _).mono ?_
  rintro r w1 ⟨rfl, b1⟩
  have B1 := ((box_new w s 0).alloc (.cells #[.string ⟨#[]⟩, .int .i64 0] 105)).next b1
  have B2 := (box_new1 w (.cells #[.string s, .int .i64 0] 105) ⟨#[]⟩ 0).next b1
  have bb : Below w.heap.size w w1 := (((Below.refl _ w).alloc (Nat.le_refl _) _).alloc (by simp) _).trans (b1.mono (by simp; omega))
  clear b1
  have x0 := B1.c0
  have x1 := B1.c1
  have y0 := B2.c0
  have y1 := B2.c1
  have yf0 := B2.f 0
  have yf1 := B2.f 1
  go_wp2_with fail
  have hx0 : ∀ v v', ((w1.setCell ⟨w.heap.size + 1, 0, none⟩ v).setCell ⟨w.heap.size + 1, 1, none⟩ v').cell? ⟨w.heap.size, 0, none⟩ = some (.string s) := fun v v' => by
    have := B1
    unfold BoxAt at this
    have hne : w.heap.size + 1 ≠ w.heap.size := by omega
    simp [World.cell?, World.setCell, Array.getElem?_modify, this]
  have k1 : IntKind.i64.wrap ((K : Int) + (N : Int)) = (K : Int) + (N : Int) := IntWalk.i64_in _ ⟨by omega, by omega⟩
  have k2 : (0 : Int) ≤ (K : Int) + (N : Int) := by omega
  have k3 : ((K : Int) + (N : Int)).toNat = K + N := by omega
  have k4 : (K : Int) ≤ (K : Int) + (N : Int) := by omega
  have k5 : (K : Int) + (N : Int) ≤ (s.size : Int) := by omega
  have k6 : K + N ≤ s.size := by omega
  have k7 : K ≤ K + N := by omega
  have k8 : IntKind.i64.wrap (N : Int) = (N : Int) := IntWalk.i64_in _ ⟨by omega, by omega⟩
  go_region
  go_wp2_with fail
  obtain ⟨w2, hw2, z0, z1, b3⟩ := end_box B2 bb (by omega) (s.extract (K + N) s.size) 0
  rw [← hw2]
  have z2 : w2.drew.cell? ⟨w.heap.size + 1, 0, none⟩ = some (.string (s.extract (K + N) s.size)) := z0
  have z3 : w2.drew.cell? ⟨w.heap.size + 1, 1, none⟩ = some (.int .i64 0) := z1
  refine bodyPost_ret (by simp [results, Tryz.results53, go_sem, z2, z3]; try rfl) rfl ?_
  exact ⟨by rw [HT.out]; rfl, b3.drew⟩
end
theorem rtextT_any (s : ByteArray) (e most : Int) (hs : s.size ≤ 281474976710656) (hm1 : most ≤ 9223372036854775807) (w : World) :
    Calls Tryz.prog 53 #[.agg #[.string s, .int .i64 e], .int .i64 most] w fun r w' => r = .returned (rv (tText s e most) (vText (tText s e most))) ∧ Below w.heap.size w w' := by
  by_cases he : e = 0
  · subst he
    have HA := Lib.hid (ahead_any s hs)
    have hf := rdNum_facts s.data.toList
    rw [← Lib.size_eq] at hf
    rcases hR : rdNum s.data.toList with ⟨N, K, E⟩
    have hT := rdText_eq s most hR
    rw [hR] at HA hf
    unfold aheadV at HA
    simp only at hf HA
    obtain ⟨f1, f2, f3⟩ := hf
    by_cases hE : E = 0
    · subst hE
      rw [if_neg (by simp)] at hT
      by_cases h2 : max most 0 < (N : Int)
      · rw [if_pos h2] at hT
        have HT : Hid (tText s 0 most = (⟨#[]⟩, s, 2)) := by unfold Hid tText; rw [hT, tk_bad _ _ _ _ (by decide)]
        by_cases hm : most < 0
        · exact rtext_neg s N K most w HA (by omega) hm HT
        · exact rtext_long s N K most w HA (by omega) hm (by omega) hm1 (by omega) HT
      · rw [if_neg h2] at hT
        by_cases h3 : s.size - K < N
        · rw [if_pos h3] at hT
          have HT : Hid (tText s 0 most = (⟨#[]⟩, s, 5)) := by unfold Hid tText; rw [hT, tk_bad _ _ _ _ (by decide)]
          exact rtext_short s N K most w HA hs f2 (by omega) (by omega) hm1 (by omega) (by omega) HT
        · rw [if_neg h3] at hT
          have HT : Hid (tText s 0 most = (s.extract K (K + N), s.extract (K + N) s.size, 0)) := by unfold Hid tText; rw [hT, tk_ok]
          by_cases hm : most < 0
          · exact rtext_ok0 s N K most w HA hs f2 hm (by omega) (by omega) HT
          · exact rtext_ok s N K most w HA hs f2 hm (by omega) hm1 (by omega) (by omega) HT
    · rw [if_pos hE] at hT
      have HT : Hid (tText s 0 most = (⟨#[]⟩, s, E)) := by unfold Hid tText; rw [hT, tk_bad _ _ _ _ hE]
      exact rtext_bad s N K most w E hE HA HT
  · exact rtext_stays s e most he w
end Go.Proofs.YthnnenhpcceckaaGreat.Bt
/-
  A SNAPSHOT TAKEN OFF A TAPE, AND READ OF A TEXT: takeSnap, read, ReadSnap.
-/
namespace Go.Proofs.YthnnenhpcceckaaGreat
open Go.RowKit
/-- four cells stored -/
def set4 (w : World) (Y : Nat) (a b c d : Value) : World := (((w.setCell ⟨Y, 0, none⟩ a).setCell ⟨Y, 1, none⟩ b).setCell ⟨Y, 2, none⟩ c).setCell ⟨Y, 3, none⟩ d
theorem set4_all {w : World} {Y t : Nat} {x0 x1 x2 x3 : Value} (a b c d : Value) (K : Blk w Y t #[x0, x1, x2, x3]) : Blk (set4 w Y a b c d) Y t #[a, b, c, d] ∧ Fr w (set4 w Y a b c d) (fun q => q = Y) := by
  refine ⟨(((K.set 0 a).set 1 b).set 2 c).set 3 d, ?_⟩
  unfold set4
  exact (((fr_set w Y 0 a).trans (fr_set _ Y 1 b) (R := fun q => q = Y) (fun _ _ h => h) (fun _ _ h => h)).trans (fr_set _ Y 2 c) (R := fun q => q = Y) (fun _ _ h => h) (fun _ _ h => h)).trans (fr_set _ Y 3 d) (R := fun q => q = Y) (fun _ _ h => h) (fun _ _ h => h)
theorem set4_below {w wa : World} {Y t : Nat} {x0 x1 x2 x3 : Value} (a b c d : Value) (K : Blk wa Y t #[x0, x1, x2, x3]) (B : Below Y w wa) : Below Y w (set4 wa Y a b c d) :=
  B.trans ((set4_all a b c d K).2.below (B := Y) (fun _ hq => Nat.le_of_eq hq.symm) (Nat.le_of_lt K.lt))
set_option maxHeartbeats 4000000 in
theorem takeSnap_any {w : World} {b : Nat} {s : ByteArray} (h : Bt.TapeAt w b s 0) (hs : s.size ≤ 281474976710656) :
    Calls Tryz.prog 51 #[.pointer (some ⟨b, 0, none⟩)] w fun r w' => r = .returned (snapV (rsI s) (rsT s) (rsM s) (rsS s)) ∧ Fr w w' (fun q => q = b) ∧ Bt.TapeAt w' b (ts4 s).2.1 (ts4 s).2.2 := by
  have hlt := h.lt
  have l1 := ts1_le s
  have l2 := ts2_le s
  have l3 := ts3_le s
  have bA : Below w.heap.size w (w.alloc (.cells #[.int .i64 0, .int .i64 0, .int .i64 0, .string ⟨#[]⟩] 40)) := (Below.refl _ w).alloc (Nat.le_refl _) _
  have hA := h.below bA hlt
  have N1 := Lib.hid (Bt.tapeNum_any hA hs)
  have N2 := Lib.hid (fun W (hW : Bt.TapeAt W b (ts1 s).2.1 (ts1 s).2.2) => Bt.tapeNum_any hW (by omega))
  have N3 := Lib.hid (fun W (hW : Bt.TapeAt W b (ts2 s).2.1 (ts2 s).2.2) => Bt.tapeNum_any hW (by omega))
  have N4 := Lib.hid (fun W (hW : Bt.TapeAt W b (ts3 s).2.1 (ts3 s).2.2) => Bt.tapeText_any hW (most := 262144) (by omega) (by decide) (by decide))
  rw [show Bt.tNum s 0 = ts1 s from rfl] at N1
  rw [show Bt.tNum (ts1 s).2.1 (ts1 s).2.2 = ts2 s from rfl] at N2
  rw [show Bt.tNum (ts2 s).2.1 (ts2 s).2.2 = ts3 s from rfl] at N3
  rw [show Bt.tText (ts3 s).2.1 (ts3 s).2.2 262144 = ts4 s from rfl] at N4
  have FA := Lib.hid (Fr.of_below bA (fun q => q = b))
  have BK := Lib.hid (Blk.new w 40 #[.int .i64 0, .int .i64 0, .int .i64 0, .string ⟨#[]⟩])
  unfold Bt.vNum at N1 N2 N3
  unfold Bt.vText at N4
  unfold snapV rsI rsT rsM rsS
  generalize ts4 s = x4 at *
  generalize ts3 s = x3 at *
  generalize ts2 s = x2 at *
  generalize ts1 s = x1 at *
  obtain ⟨n1, s1, e1⟩ := x1
  obtain ⟨n2, s2, e2⟩ := x2
  obtain ⟨n3, s3, e3⟩ := x3
  obtain ⟨n4, s4, e4⟩ := x4
  simp only at N1 N2 N3 N4 ⊢
  clear h hA bA l1 l2 l3
  generalize hy : w.heap.size = Y at *
  go_enter Tryz.func51, Tryz.ntmps51
  go_wp2_with fail
  refine N1.out.mono ?_
  rintro e w1 ⟨rfl, g1, t1⟩
  have F1 := Fr.grown g1
  have K1h := Lib.hid (BK.out.fr F1 (by omega))
  have F1h := Lib.hid (FA.out.trans F1 (R := fun q => q = b) (fun _ _ h => h) (fun _ _ h => h))
  have I2 := Lib.hid (N2.out _ t1)
  clear g1 F1 t1 N1 N2 FA BK
  go_wp2_with fail
  refine I2.out.mono ?_
  rintro e w2 ⟨rfl, g2, t2⟩
  have F2 := Fr.grown g2
  have K2h := Lib.hid (K1h.out.fr F2 (by omega))
  have F2h := Lib.hid (F1h.out.trans F2 (R := fun q => q = b) (fun _ _ h => h) (fun _ _ h => h))
  have I3 := Lib.hid (N3.out _ t2)
  clear g2 F2 t2 I2 N3 F1h K1h
  go_wp2_with fail
  refine I3.out.mono ?_
  rintro e w3 ⟨rfl, g3, t3⟩
  have F3 := Fr.grown g3
  have K3h := Lib.hid (K2h.out.fr F3 (by omega))
  have F3h := Lib.hid (F2h.out.trans F3 (R := fun q => q = b) (fun _ _ h => h) (fun _ _ h => h))
  have I4 := Lib.hid (N4.out _ t3)
  clear g3 F3 t3 I3 N4 F2h K2h
  go_wp2_with fail
  refine I4.out.mono ?_
  rintro e w4 ⟨rfl, g4, t4⟩
  have F4 := Fr.grown g4
  have K4h := Lib.hid (K3h.out.fr F4 (by omega))
  have F4h := Lib.hid (F3h.out.trans F4 (R := fun q => q = b) (fun _ _ h => h) (fun _ _ h => h))
  have t4h := Lib.hid t4
  clear g4 F4 t4 I4 F3h K3h
  have c0 : w4.cell? ⟨Y, 0, none⟩ = some (.int .i64 0) := K4h.out.cell 0
  have c1 : w4.cell? ⟨Y, 1, none⟩ = some (.int .i64 0) := K4h.out.cell 1
  have c2 : w4.cell? ⟨Y, 2, none⟩ = some (.int .i64 0) := K4h.out.cell 2
  have c3 : w4.cell? ⟨Y, 3, none⟩ = some (.string ⟨#[]⟩) := K4h.out.cell 3
  have f0 := K4h.out.free 0
  have f1 := K4h.out.free 1
  have f2 := K4h.out.free 2
  have f3 := K4h.out.free 3
  go_wp2_with fail
  obtain ⟨K5, FS⟩ := set4_all (.int .i64 (wrap64 (n1 : Int))) (.int .i64 (wrap64 (n2 : Int))) (.int .i64 (wrap64 (n3 : Int))) (.string n4) K4h.out
  have F5 := Lib.hid (F4h.out.trans FS (R := fun q => q = b) (fun _ _ h => h) (fun q hq h => by omega))
  have T5 := Lib.hid (t4h.out.fr2 FS (by omega))
  unfold set4 at K5 F5 T5
  clear F4h t4h K4h FS f0 f1 f2 f3 c0 c1 c2 c3
  generalize (((w4.setCell ⟨Y, 0, none⟩ (.int .i64 (wrap64 (n1 : Int)))).setCell ⟨Y, 1, none⟩ (.int .i64 (wrap64 (n2 : Int)))).setCell ⟨Y, 2, none⟩ (.int .i64 (wrap64 (n3 : Int)))).setCell ⟨Y, 3, none⟩ (.string n4) = w5 at *
  have z0 : w5.cell? ⟨Y, 0, none⟩ = some (.int .i64 (wrap64 (n1 : Int))) := K5.cell 0
  have z1 : w5.cell? ⟨Y, 1, none⟩ = some (.int .i64 (wrap64 (n2 : Int))) := K5.cell 1
  have z2 : w5.cell? ⟨Y, 2, none⟩ = some (.int .i64 (wrap64 (n3 : Int))) := K5.cell 2
  have z3 : w5.cell? ⟨Y, 3, none⟩ = some (.string n4) := K5.cell 3
  refine bodyPost_ret (by simp [results, Tryz.results51, go_sem, z0, z1, z2, z3]; try rfl) rfl ?_
  exact ⟨rfl, F5.out, T5.out⟩
set_option maxHeartbeats 8000000 in
theorem read_snap (s : ByteArray) (hs : s.size ≤ 281474976710656) (w : World) :
    Calls Tryz.prog 50 #[.string s, .func (.func 51) #[] #[], .func (.func 52) #[] #[]] w fun e w' => e = .returned (.tuple #[snapV (rsV s).1 (rsV s).2.1 (rsV s).2.2.1 (rsV s).2.2.2.1, .int .i64 (rsV s).2.2.2.2]) ∧ Below w.heap.size w w' := by
  have A := Lib.hid (fun W => Bt.at_any s W hs)
  have TK := Lib.hid (fun W b (h : Bt.TapeAt W b s 0) => takeSnap_any h hs)
  have EN := Lib.hid (fun W b (h : Bt.TapeAt W b (ts4 s).2.1 (ts4 s).2.2) => Bt.end_any h)
  have MY := Lib.hid (fun W => snapMay_any (rsI s) (rsT s) (rsM s) (rsS s) W)
  rw [show Bt.endE (ts4 s).2.1 (ts4 s).2.2 = rsE s from rfl] at EN
  have R : ∃ a b c d n, rsV s = (a, b, c, d, n) ∧ ((rsE s ≠ 0 ∧ a = 0 ∧ b = 0 ∧ c = 0 ∧ d = ⟨#[]⟩ ∧ n = 3) ∨ (rsE s = 0 ∧ snapB (rsI s) (rsT s) (rsM s) (rsS s) = false ∧ a = 0 ∧ b = 0 ∧ c = 0 ∧ d = ⟨#[]⟩ ∧ n = 3) ∨ (rsE s = 0 ∧ snapB (rsI s) (rsT s) (rsM s) (rsS s) = true ∧ a = rsI s ∧ b = rsT s ∧ c = rsM s ∧ d = rsS s ∧ n = 0)) := by
    unfold rsV
    by_cases h1 : rsE s = 0
    · cases h2 : snapB (rsI s) (rsT s) (rsM s) (rsS s)
      · exact ⟨_, _, _, _, _, by rw [if_neg (by simp)], .inr (.inl ⟨h1, rfl, rfl, rfl, rfl, rfl, rfl⟩)⟩
      · exact ⟨_, _, _, _, _, by rw [if_pos ⟨h1, rfl⟩], .inr (.inr ⟨h1, rfl, rfl, rfl, rfl, rfl, rfl⟩)⟩
    · exact ⟨_, _, _, _, _, by rw [if_neg (fun h => h1 h.1)], .inl ⟨h1, rfl, rfl, rfl, rfl, rfl⟩⟩
  obtain ⟨ra, rb, rc, rd, rn, hR, R⟩ := R
  rw [hR]
  simp only
  clear hR
  generalize ts4 s = y at *
  generalize rsE s = E at *
  generalize rsI s = T0 at *
  generalize rsT s = T1 at *
  generalize rsM s = T2 at *
  generalize rsS s = T3 at *
  generalize hb : snapB T0 T1 T2 T3 = bb at *
  unfold snapV at *
  have K0 := Lib.hid (Blk.new w 40 #[.int .i64 0, .int .i64 0, .int .i64 0, .string ⟨#[]⟩])
  have bA := Lib.hid ((Below.refl _ w).alloc (Nat.le_refl _) (.cells #[.int .i64 0, .int .i64 0, .int .i64 0, .string ⟨#[]⟩] 40))
  generalize hy : w.heap.size = Y at *
  go_enter Tryz.func50, Tryz.ntmps50
  go_wp2_with fail
  refine (A.out _).mono ?_
  rintro e w1 ⟨b, rfl, hbY, t1, b1⟩
  have hbY' : Y < b := by have h := hbY; simp [hy] at h; omega
  have K1 := Lib.hid (K0.out.below b1 (by simp [hy]))
  have B1 := Lib.hid (bA.out.trans (b1.mono (by simp [hy])))
  have TK1 := Lib.hid (TK.out _ _ t1)
  clear t1 b1 K0 bA A TK hbY
  go_wp2_with fail
  refine TK1.out.mono ?_
  rintro e w2 ⟨rfl, f2, t2⟩
  have K2 := K1.out.fr f2 (by omega)
  have B2 := B1.out.trans (f2.below (B := Y) (fun q hq => by omega) (by have := B1.out.size; omega))
  have hY2 : Y < w2.heap.size := K2.lt
  have hb2 : b < w2.heap.size := t2.lt
  have bC := (Below.refl w2.heap.size w2).alloc (Nat.le_refl _) (.cells #[.int .i64 T0, .int .i64 T1, .int .i64 T2, .string T3] 40)
  have EN1 := Lib.hid (EN.out _ _ (t2.below bC hb2))
  have K2h := Lib.hid (K2.below bC hY2)
  have B2h := Lib.hid (B2.trans (bC.mono (by have := B2.size; omega)))
  have N2h := Lib.hid (Blk.new w2 40 #[.int .i64 T0, .int .i64 T1, .int .i64 T2, .string T3])
  clear f2 t2 TK1 K1 B1 K2 B2 bC EN
  go_wp2_with fail
  refine EN1.out.mono ?_
  rintro e w3' ⟨rfl, rfl⟩
  have hZ : Y < w2.heap.size := hY2
  have hs3 : w2.heap.size < (w2.alloc (.cells #[.int .i64 T0, .int .i64 T1, .int .i64 T2, .string T3] 40)).heap.size := N2h.out.lt
  generalize w2.alloc (.cells #[.int .i64 T0, .int .i64 T1, .int .i64 T2, .string T3] 40) = w3 at *
  generalize w2.heap.size = Z at *
  clear EN1 hY2 hb2
  rcases R with ⟨h1, rfl, rfl, rfl, rfl, rfl⟩ | ⟨rfl, rfl, rfl, rfl, rfl, rfl, rfl⟩ | ⟨rfl, rfl, rfl, rfl, rfl, rfl, rfl⟩
  · have hE : (E != 0) = true := by simpa using h1
    clear MY h1 N2h
    have bD := (Below.refl w3.heap.size w3).alloc (Nat.le_refl _) (.cells #[.int .i64 0, .int .i64 0, .int .i64 0, .string ⟨#[]⟩] 40)
    have BD := Lib.hid (B2h.out.trans (bD.mono (by have := B2h.out.size; omega)))
    have KK := Lib.hid (K2h.out.below bD (by omega))
    have c0 : (w3.alloc (.cells #[.int .i64 0, .int .i64 0, .int .i64 0, .string ⟨#[]⟩] 40)).cell? ⟨Y, 0, none⟩ = some (.int .i64 0) := KK.out.cell 0
    have c1 : (w3.alloc (.cells #[.int .i64 0, .int .i64 0, .int .i64 0, .string ⟨#[]⟩] 40)).cell? ⟨Y, 1, none⟩ = some (.int .i64 0) := KK.out.cell 1
    have c2 : (w3.alloc (.cells #[.int .i64 0, .int .i64 0, .int .i64 0, .string ⟨#[]⟩] 40)).cell? ⟨Y, 2, none⟩ = some (.int .i64 0) := KK.out.cell 2
    have c3 : (w3.alloc (.cells #[.int .i64 0, .int .i64 0, .int .i64 0, .string ⟨#[]⟩] 40)).cell? ⟨Y, 3, none⟩ = some (.string ⟨#[]⟩) := KK.out.cell 3
    have f0 : (w3.alloc (.cells #[.int .i64 0, .int .i64 0, .int .i64 0, .string ⟨#[]⟩] 40)).frozen? ⟨Y, 0, none⟩ = false := KK.out.free 0
    have f1 : (w3.alloc (.cells #[.int .i64 0, .int .i64 0, .int .i64 0, .string ⟨#[]⟩] 40)).frozen? ⟨Y, 1, none⟩ = false := KK.out.free 1
    have f2 : (w3.alloc (.cells #[.int .i64 0, .int .i64 0, .int .i64 0, .string ⟨#[]⟩] 40)).frozen? ⟨Y, 2, none⟩ = false := KK.out.free 2
    have f3 : (w3.alloc (.cells #[.int .i64 0, .int .i64 0, .int .i64 0, .string ⟨#[]⟩] 40)).frozen? ⟨Y, 3, none⟩ = false := KK.out.free 3
    clear bD
    go_wp2_with fail
    obtain ⟨K5, _⟩ := set4_all (.int .i64 0) (.int .i64 0) (.int .i64 0) (.string ⟨#[]⟩) KK.out
    have B5 := set4_below (.int .i64 0) (.int .i64 0) (.int .i64 0) (.string ⟨#[]⟩) KK.out BD.out
    unfold set4 at K5 B5
    clear c0 c1 c2 c3 f0 f1 f2 f3
    generalize (World.setCell (World.setCell (World.setCell (World.setCell (w3.alloc (.cells #[.int .i64 0, .int .i64 0, .int .i64 0, .string ⟨#[]⟩] 40)) ⟨Y, 0, none⟩ (.int .i64 0)) ⟨Y, 1, none⟩ (.int .i64 0)) ⟨Y, 2, none⟩ (.int .i64 0)) ⟨Y, 3, none⟩ (.string ⟨#[]⟩)) = w9 at *
    have z0 : w9.cell? ⟨Y, 0, none⟩ = some (.int .i64 0) := K5.cell 0
    have z1 : w9.cell? ⟨Y, 1, none⟩ = some (.int .i64 0) := K5.cell 1
    have z2 : w9.cell? ⟨Y, 2, none⟩ = some (.int .i64 0) := K5.cell 2
    have z3 : w9.cell? ⟨Y, 3, none⟩ = some (.string ⟨#[]⟩) := K5.cell 3
    refine bodyPost_ret (by simp [results, Tryz.results50, go_sem, z0, z1, z2, z3]; try rfl) rfl ?_
    exact ⟨rfl, B5⟩
  · have e0 : w3.cell? ⟨Z, 0, none⟩ = some (.int .i64 T0) := N2h.out.cell 0
    have e1 : w3.cell? ⟨Z, 1, none⟩ = some (.int .i64 T1) := N2h.out.cell 1
    have e2 : w3.cell? ⟨Z, 2, none⟩ = some (.int .i64 T2) := N2h.out.cell 2
    have e3 : w3.cell? ⟨Z, 3, none⟩ = some (.string T3) := N2h.out.cell 3
    go_wp2_with fail
    refine (MY.out _).mono ?_
    rintro e w4 ⟨rfl, b4⟩
    have K4 := Lib.hid (K2h.out.below b4 (by omega))
    have B4 := Lib.hid (B2h.out.trans (b4.mono (by have := B2h.out.size; omega)))
    clear b4 MY N2h K2h B2h e0 e1 e2 e3
    have bD := (Below.refl w4.heap.size w4).alloc (Nat.le_refl _) (.cells #[.int .i64 0, .int .i64 0, .int .i64 0, .string ⟨#[]⟩] 40)
    have BD := Lib.hid (B4.out.trans (bD.mono (by have := B4.out.size; omega)))
    have KK := Lib.hid (K4.out.below bD K4.out.lt)
    have c0 : (w4.alloc (.cells #[.int .i64 0, .int .i64 0, .int .i64 0, .string ⟨#[]⟩] 40)).cell? ⟨Y, 0, none⟩ = some (.int .i64 0) := KK.out.cell 0
    have c1 : (w4.alloc (.cells #[.int .i64 0, .int .i64 0, .int .i64 0, .string ⟨#[]⟩] 40)).cell? ⟨Y, 1, none⟩ = some (.int .i64 0) := KK.out.cell 1
    have c2 : (w4.alloc (.cells #[.int .i64 0, .int .i64 0, .int .i64 0, .string ⟨#[]⟩] 40)).cell? ⟨Y, 2, none⟩ = some (.int .i64 0) := KK.out.cell 2
    have c3 : (w4.alloc (.cells #[.int .i64 0, .int .i64 0, .int .i64 0, .string ⟨#[]⟩] 40)).cell? ⟨Y, 3, none⟩ = some (.string ⟨#[]⟩) := KK.out.cell 3
    have f0 : (w4.alloc (.cells #[.int .i64 0, .int .i64 0, .int .i64 0, .string ⟨#[]⟩] 40)).frozen? ⟨Y, 0, none⟩ = false := KK.out.free 0
    have f1 : (w4.alloc (.cells #[.int .i64 0, .int .i64 0, .int .i64 0, .string ⟨#[]⟩] 40)).frozen? ⟨Y, 1, none⟩ = false := KK.out.free 1
    have f2 : (w4.alloc (.cells #[.int .i64 0, .int .i64 0, .int .i64 0, .string ⟨#[]⟩] 40)).frozen? ⟨Y, 2, none⟩ = false := KK.out.free 2
    have f3 : (w4.alloc (.cells #[.int .i64 0, .int .i64 0, .int .i64 0, .string ⟨#[]⟩] 40)).frozen? ⟨Y, 3, none⟩ = false := KK.out.free 3
    clear bD
    go_wp2_with fail
    obtain ⟨K5, _⟩ := set4_all (.int .i64 0) (.int .i64 0) (.int .i64 0) (.string ⟨#[]⟩) KK.out
    have B5 := set4_below (.int .i64 0) (.int .i64 0) (.int .i64 0) (.string ⟨#[]⟩) KK.out BD.out
    unfold set4 at K5 B5
    clear c0 c1 c2 c3 f0 f1 f2 f3
    generalize (World.setCell (World.setCell (World.setCell (World.setCell (w4.alloc (.cells #[.int .i64 0, .int .i64 0, .int .i64 0, .string ⟨#[]⟩] 40)) ⟨Y, 0, none⟩ (.int .i64 0)) ⟨Y, 1, none⟩ (.int .i64 0)) ⟨Y, 2, none⟩ (.int .i64 0)) ⟨Y, 3, none⟩ (.string ⟨#[]⟩)) = w9 at *
    have z0 : w9.cell? ⟨Y, 0, none⟩ = some (.int .i64 0) := K5.cell 0
    have z1 : w9.cell? ⟨Y, 1, none⟩ = some (.int .i64 0) := K5.cell 1
    have z2 : w9.cell? ⟨Y, 2, none⟩ = some (.int .i64 0) := K5.cell 2
    have z3 : w9.cell? ⟨Y, 3, none⟩ = some (.string ⟨#[]⟩) := K5.cell 3
    refine bodyPost_ret (by simp [results, Tryz.results50, go_sem, z0, z1, z2, z3]; try rfl) rfl ?_
    exact ⟨rfl, B5⟩
  · have e0 : w3.cell? ⟨Z, 0, none⟩ = some (.int .i64 ra) := N2h.out.cell 0
    have e1 : w3.cell? ⟨Z, 1, none⟩ = some (.int .i64 rb) := N2h.out.cell 1
    have e2 : w3.cell? ⟨Z, 2, none⟩ = some (.int .i64 rc) := N2h.out.cell 2
    have e3 : w3.cell? ⟨Z, 3, none⟩ = some (.string rd) := N2h.out.cell 3
    go_wp2_with fail
    refine (MY.out _).mono ?_
    rintro e w4 ⟨rfl, b4⟩
    have KK := Lib.hid (K2h.out.below b4 (by omega))
    have N4 := Lib.hid (N2h.out.below b4 hs3)
    have BD := Lib.hid (B2h.out.trans (b4.mono (by have := B2h.out.size; omega)))
    clear b4 MY N2h K2h B2h e0 e1 e2 e3
    have e0 : w4.cell? ⟨Z, 0, none⟩ = some (.int .i64 ra) := N4.out.cell 0
    have e1 : w4.cell? ⟨Z, 1, none⟩ = some (.int .i64 rb) := N4.out.cell 1
    have e2 : w4.cell? ⟨Z, 2, none⟩ = some (.int .i64 rc) := N4.out.cell 2
    have e3 : w4.cell? ⟨Z, 3, none⟩ = some (.string rd) := N4.out.cell 3
    have c0 : w4.cell? ⟨Y, 0, none⟩ = some (.int .i64 0) := KK.out.cell 0
    have c1 : w4.cell? ⟨Y, 1, none⟩ = some (.int .i64 0) := KK.out.cell 1
    have c2 : w4.cell? ⟨Y, 2, none⟩ = some (.int .i64 0) := KK.out.cell 2
    have c3 : w4.cell? ⟨Y, 3, none⟩ = some (.string ⟨#[]⟩) := KK.out.cell 3
    have f0 : w4.frozen? ⟨Y, 0, none⟩ = false := KK.out.free 0
    have f1 : w4.frozen? ⟨Y, 1, none⟩ = false := KK.out.free 1
    have f2 : w4.frozen? ⟨Y, 2, none⟩ = false := KK.out.free 2
    have f3 : w4.frozen? ⟨Y, 3, none⟩ = false := KK.out.free 3
    go_wp2_with fail
    obtain ⟨K5, _⟩ := set4_all (.int .i64 ra) (.int .i64 rb) (.int .i64 rc) (.string rd) KK.out
    have B5 := set4_below (.int .i64 ra) (.int .i64 rb) (.int .i64 rc) (.string rd) KK.out BD.out
    unfold set4 at K5 B5
    clear c0 c1 c2 c3 f0 f1 f2 f3
    generalize (World.setCell (World.setCell (World.setCell (World.setCell w4 ⟨Y, 0, none⟩ (.int .i64 ra)) ⟨Y, 1, none⟩ (.int .i64 rb)) ⟨Y, 2, none⟩ (.int .i64 rc)) ⟨Y, 3, none⟩ (.string rd)) = w9 at *
    have z0 : w9.cell? ⟨Y, 0, none⟩ = some (.int .i64 ra) := K5.cell 0
    have z1 : w9.cell? ⟨Y, 1, none⟩ = some (.int .i64 rb) := K5.cell 1
    have z2 : w9.cell? ⟨Y, 2, none⟩ = some (.int .i64 rc) := K5.cell 2
    have z3 : w9.cell? ⟨Y, 3, none⟩ = some (.string rd) := K5.cell 3
    refine bodyPost_ret (by simp [results, Tryz.results50, go_sem, z0, z1, z2, z3]; try rfl) rfl ?_
    exact ⟨rfl, B5⟩
set_option maxHeartbeats 2000000 in
theorem readSnap_any (s : ByteArray) (hs : s.size ≤ 281474976710656) (w : World) :
    Calls Tryz.prog 29 #[.string s] w fun e w' => e = .returned (.tuple #[snapV (rsV s).1 (rsV s).2.1 (rsV s).2.2.1 (rsV s).2.2.2.1, .int .i64 (rsV s).2.2.2.2]) ∧ Below w.heap.size w w' := by
  have RD := Lib.hid (fun W => read_snap s hs W)
  generalize rsV s = r at *
  obtain ⟨ra, rb, rc, rd, rn⟩ := r
  simp only at RD ⊢
  unfold snapV at *
  have K0 := Lib.hid (Blk.new w 40 #[.int .i64 0, .int .i64 0, .int .i64 0, .string ⟨#[]⟩])
  have bA := Lib.hid ((Below.refl _ w).alloc (Nat.le_refl _) (.cells #[.int .i64 0, .int .i64 0, .int .i64 0, .string ⟨#[]⟩] 40))
  generalize hy : w.heap.size = Y at *
  go_enter Tryz.func29, Tryz.ntmps29
  go_wp2_with fail
  refine (RD.out _).mono ?_
  rintro e w1 ⟨rfl, b1⟩
  have KK := Lib.hid (K0.out.below b1 (by simp [hy]))
  have BD := Lib.hid (bA.out.trans (b1.mono (by simp [hy])))
  clear b1 K0 bA RD
  have c0 : w1.cell? ⟨Y, 0, none⟩ = some (.int .i64 0) := KK.out.cell 0
  have c1 : w1.cell? ⟨Y, 1, none⟩ = some (.int .i64 0) := KK.out.cell 1
  have c2 : w1.cell? ⟨Y, 2, none⟩ = some (.int .i64 0) := KK.out.cell 2
  have c3 : w1.cell? ⟨Y, 3, none⟩ = some (.string ⟨#[]⟩) := KK.out.cell 3
  have f0 : w1.frozen? ⟨Y, 0, none⟩ = false := KK.out.free 0
  have f1 : w1.frozen? ⟨Y, 1, none⟩ = false := KK.out.free 1
  have f2 : w1.frozen? ⟨Y, 2, none⟩ = false := KK.out.free 2
  have f3 : w1.frozen? ⟨Y, 3, none⟩ = false := KK.out.free 3
  go_wp2_with fail
  obtain ⟨K5, _⟩ := set4_all (.int .i64 ra) (.int .i64 rb) (.int .i64 rc) (.string rd) KK.out
  have B5 := set4_below (.int .i64 ra) (.int .i64 rb) (.int .i64 rc) (.string rd) KK.out BD.out
  unfold set4 at K5 B5
  clear c0 c1 c2 c3 f0 f1 f2 f3
  generalize (World.setCell (World.setCell (World.setCell (World.setCell w1 ⟨Y, 0, none⟩ (.int .i64 ra)) ⟨Y, 1, none⟩ (.int .i64 rb)) ⟨Y, 2, none⟩ (.int .i64 rc)) ⟨Y, 3, none⟩ (.string rd)) = w9 at *
  have z0 : w9.cell? ⟨Y, 0, none⟩ = some (.int .i64 ra) := K5.cell 0
  have z1 : w9.cell? ⟨Y, 1, none⟩ = some (.int .i64 rb) := K5.cell 1
  have z2 : w9.cell? ⟨Y, 2, none⟩ = some (.int .i64 rc) := K5.cell 2
  have z3 : w9.cell? ⟨Y, 3, none⟩ = some (.string rd) := K5.cell 3
  refine bodyPost_ret (by simp [results, Tryz.results29, go_sem, z0, z1, z2, z3]; try rfl) rfl ?_
  exact ⟨rfl, B5⟩
end Go.Proofs.YthnnenhpcceckaaGreat
/-
  THE DOCUMENT'S OWN ReadVote.
-/
namespace Go.Proofs.YthnnenhpcceckaaGreat
open Go.RowKit
theorem rnumber_any (n : Nat) (hn : n < 18446744073709551616) (w : World) : Calls Tryz.prog 47 #[.int .u64 (n : Int)] w fun e w' => e = .returned (.int .i64 (numR n)) ∧ w = w' := by
  unfold numR
  by_cases h : 549755813888 < n
  · rw [if_pos h]
    have h' : (549755813888 : Int) < (n : Int) := by omega
    clear hn
    go_enter Tryz.func47, Tryz.ntmps47
    go_wp2_with fail
    go_ret
    exact ⟨rfl, rfl⟩
  · rw [if_neg h]
    have h' : ¬ (549755813888 : Int) < (n : Int) := by omega
    have ew : IntKind.i64.wrap (n : Int) = (n : Int) := IntWalk.i64_in _ (by omega)
    clear hn
    go_enter Tryz.func47, Tryz.ntmps47
    go_wp2_with fail
    go_ret
    exact ⟨rfl, rfl⟩
theorem rend_any (s : ByteArray) (e : Int) (w : World) :
    Calls Tryz.prog 48 #[.agg #[.string s, .int .i64 e]] w fun r w' => r = .returned (.int .i64 (Bt.endE s e)) ∧ Below w.heap.size w w' := by
  by_cases he : e = 0
  · subst he
    by_cases hs : s.size = 0
    · have e0 : s = ⟨#[]⟩ := by
        apply ByteArray.ext
        exact Array.eq_empty_of_size_eq_zero hs
      subst e0
      go_enter Tryz.func48, Tryz.ntmps48
      go_wp2_with fail
      go_ret
      exact ⟨rfl, (Below.refl _ w).alloc (Nat.le_refl _) _⟩
    · have hne : s.toList.isEmpty = false := by
        rw [Lib.toList_data, Bt.head_drop s (by omega)]; rfl
      have hne2 : (!s.toList.isEmpty) = true := by rw [hne]; rfl
      go_enter Tryz.func48, Tryz.ntmps48
      go_wp2_with fail
      go_ret
      exact ⟨Bt.ret_i64 (by unfold Bt.endE; rw [if_neg (by simp), if_neg hs]), (Below.refl _ w).alloc (Nat.le_refl _) _⟩
  · have hEb : (e == 0) = false := by simp [he]
    go_enter Tryz.func48, Tryz.ntmps48
    go_wp2_with fail
    go_ret
    exact ⟨Bt.ret_i64 (by unfold Bt.endE; rw [if_pos he]), (Below.refl _ w).alloc (Nat.le_refl _) _⟩
def rrV (s : ByteArray) : Int × Int × Int := if rdE s = 0 ∧ voteB (numR (tv1 s).1) (rdF s) = true then (numR (tv1 s).1, rdF s, 0) else (0, 0, 3)
theorem rrV_eq (s : ByteArray) : rrV s = rdV s := by
  have h := voteB_num (n := (tv1 s).1) (f := rdF s) (Bt.tNum_lt s 0)
  unfold rrV rdV
  rw [h.1, show wrap64 ((tv1 s).1 : Int) = rdT s from rfl]
  by_cases hc : rdE s = 0 ∧ voteB (rdT s) (rdF s) = true
  · rw [if_pos hc, if_pos hc, h.2 hc.2]; rfl
  · rw [if_neg hc, if_neg hc]
set_option maxHeartbeats 4000000 in
theorem rreadVote_any (s : ByteArray) (hs : s.size ≤ 281474976710656) (w : World) :
    Calls Tryz.prog 27 #[.string s] w fun e w' => e = .returned (.tuple #[voteV (rdV s).1 (rdV s).2.1, .int .i64 (rdV s).2.2]) ∧ Below w.heap.size w w' := by
  rw [← rrV_eq]
  have N1 := Lib.hid (fun W => Bt.rnumT_any s 0 hs W)
  have N2 := Lib.hid (fun W => Bt.rintT_any (tv1 s).2.1 (tv1 s).2.2 (by have := tv1_le s; omega) W)
  have EN := Lib.hid (fun W => rend_any (tv2 s).2.1 (tv2 s).2.2 W)
  have NU := Lib.hid (fun W => rnumber_any (tv1 s).1 (Bt.tNum_lt s 0) W)
  have VD := Lib.hid (fun W => voted_any (numR (tv1 s).1) (rdF s) W)
  unfold Bt.rv Bt.vNum at N1
  unfold Bt.rv Bt.vInt at N2
  rw [show Bt.tNum s 0 = tv1 s from rfl] at N1
  rw [show Bt.tInt (tv1 s).2.1 (tv1 s).2.2 = tv2 s from rfl] at N2
  rw [show Bt.endE (tv2 s).2.1 (tv2 s).2.2 = rdE s from rfl] at EN
  have R : ∃ a b c, rrV s = (a, b, c) ∧ ((rdE s ≠ 0 ∧ a = 0 ∧ b = 0 ∧ c = 3) ∨ (rdE s = 0 ∧ voteB (numR (tv1 s).1) (rdF s) = false ∧ a = 0 ∧ b = 0 ∧ c = 3) ∨ (rdE s = 0 ∧ voteB (numR (tv1 s).1) (rdF s) = true ∧ a = numR (tv1 s).1 ∧ b = rdF s ∧ c = 0)) := by
    unfold rrV
    by_cases h1 : rdE s = 0
    · cases h2 : voteB (numR (tv1 s).1) (rdF s)
      · exact ⟨_, _, _, by rw [if_neg (by simp)], .inr (.inl ⟨h1, rfl, rfl, rfl, rfl⟩)⟩
      · exact ⟨_, _, _, by rw [if_pos ⟨h1, rfl⟩], .inr (.inr ⟨h1, rfl, rfl, rfl, rfl⟩)⟩
    · exact ⟨_, _, _, by rw [if_neg (fun h => h1 h.1)], .inl ⟨h1, rfl, rfl, rfl⟩⟩
  obtain ⟨ra, rb, rc, hR, R⟩ := R
  rw [hR]
  simp only
  clear hR
  rw [show (tv2 s).1 = rdF s from rfl] at N2
  generalize rdE s = E at *
  generalize rdF s = F at *
  generalize tv2 s = y at *
  generalize tv1 s = x at *
  obtain ⟨xn, xs, xe⟩ := x
  obtain ⟨yn, ys, ye⟩ := y
  simp only at N1 N2 EN NU VD R
  generalize numR xn = T at *
  generalize hb : voteB T F = bb at *
  unfold voteV at *
  have K0 := Lib.hid (Blk.new w 36 #[.int .i64 0, .int .i64 0])
  have bA := Lib.hid ((Below.refl _ w).alloc (Nat.le_refl _) (.cells #[.int .i64 0, .int .i64 0] 36))
  generalize hy : w.heap.size = Y at *
  go_enter Tryz.func27, Tryz.ntmps27
  go_wp2_with fail
  refine (N1.out _).mono ?_
  rintro e w1 ⟨rfl, b1⟩
  have K1 := Lib.hid (K0.out.below b1 (by simp [hy]))
  have B1 := Lib.hid (bA.out.trans (b1.mono (by simp [hy])))
  clear b1 K0 bA N1
  go_wp2_with fail
  refine (N2.out _).mono ?_
  rintro e w2 ⟨rfl, b2⟩
  have bC := (Below.refl w1.heap.size w1).alloc (Nat.le_refl _) (.cells #[.string xs, .int .i64 xe] 105)
  have K2 := Lib.hid ((K1.out.below bC K1.out.lt).below b2 (by have := K1.out.lt; simp; omega))
  have B2 := Lib.hid ((B1.out.trans (bC.mono (by have := B1.out.size; omega))).trans (b2.mono (by have := B1.out.size; simp; omega)))
  clear b2 bC K1 B1 N2
  go_wp2_with fail
  refine (NU.out _).mono ?_
  rintro e w3 ⟨rfl, rfl⟩
  have bC := (Below.refl w2.heap.size w2).alloc (Nat.le_refl _) (.cells #[.string ys, .int .i64 ye] 105)
  have K3 := Lib.hid (K2.out.below bC K2.out.lt)
  have B3 := Lib.hid (B2.out.trans (bC.mono (by have := B2.out.size; omega)))
  have T3 := Lib.hid (Blk.new w2 105 #[.string ys, .int .i64 ye])
  have hT : w2.heap.size < (w2.alloc (.cells #[.string ys, .int .i64 ye] 105)).heap.size := T3.out.lt
  clear bC K2 B2 NU
  generalize w2.alloc (.cells #[.string ys, .int .i64 ye] 105) = w3 at *
  generalize w2.heap.size = Q at *
  have bD := (Below.refl w3.heap.size w3).alloc (Nat.le_refl _) (.cells #[.int .i64 T, .int .i64 F] 36)
  have K4 := Lib.hid (K3.out.below bD K3.out.lt)
  have B4 := Lib.hid (B3.out.trans (bD.mono (by have := B3.out.size; omega)))
  have T4 := Lib.hid (T3.out.below bD hT)
  have N4 := Lib.hid (Blk.new w3 36 #[.int .i64 T, .int .i64 F])
  have u0 : (w3.alloc (.cells #[.int .i64 T, .int .i64 F] 36)).cell? ⟨Q, 0, none⟩ = some (.string ys) := T4.out.cell 0
  have u1 : (w3.alloc (.cells #[.int .i64 T, .int .i64 F] 36)).cell? ⟨Q, 1, none⟩ = some (.int .i64 ye) := T4.out.cell 1
  clear bD K3 B3 T3
  go_wp2_with fail
  refine (EN.out _).mono ?_
  rintro e w5 ⟨rfl, b5⟩
  have K5 := Lib.hid (K4.out.below b5 K4.out.lt)
  have B5 := Lib.hid (B4.out.trans (b5.mono (by have := B4.out.size; omega)))
  have N5 := Lib.hid (N4.out.below b5 N4.out.lt)
  clear b5 K4 B4 T4 N4 u0 u1 EN hT
  generalize w3.heap.size = Z at *
  rcases R with ⟨h1, rfl, rfl, rfl⟩ | ⟨rfl, rfl, rfl, rfl, rfl⟩ | ⟨rfl, rfl, rfl, rfl, rfl⟩
  · have hE : (E != 0) = true := by simpa using h1
    clear h1 VD N5
    have c0 : w5.cell? ⟨Y, 0, none⟩ = some (.int .i64 0) := K5.out.cell 0
    have c1 : w5.cell? ⟨Y, 1, none⟩ = some (.int .i64 0) := K5.out.cell 1
    have f0 : w5.frozen? ⟨Y, 0, none⟩ = false := K5.out.free 0
    have f1 : w5.frozen? ⟨Y, 1, none⟩ = false := K5.out.free 1
    go_wp2_with fail
    obtain ⟨z0, z1, B9, _⟩ := end_cells (.int .i64 0) (.int .i64 0) K5.out B5.out
    clear c0 c1 f0 f1
    generalize (World.setCell (World.setCell w5 ⟨Y, 0, none⟩ (.int .i64 0)) ⟨Y, 1, none⟩ (.int .i64 0)) = w9 at *
    refine bodyPost_ret (by simp [results, Tryz.results27, go_sem, z0, z1]; try rfl) rfl ?_
    exact ⟨rfl, B9⟩
  · have e0 : w5.cell? ⟨Z, 0, none⟩ = some (.int .i64 T) := N5.out.cell 0
    have e1 : w5.cell? ⟨Z, 1, none⟩ = some (.int .i64 F) := N5.out.cell 1
    go_wp2_with fail
    refine (VD.out _).mono ?_
    rintro e w6 ⟨rfl, b6⟩
    have K6 := Lib.hid (K5.out.below b6 K5.out.lt)
    have B6 := Lib.hid (B5.out.trans (b6.mono (by have := B5.out.size; omega)))
    have N6 := Lib.hid (N5.out.below b6 N5.out.lt)
    clear b6 VD N5 K5 B5 e0 e1
    have c0 : w6.cell? ⟨Y, 0, none⟩ = some (.int .i64 0) := K6.out.cell 0
    have c1 : w6.cell? ⟨Y, 1, none⟩ = some (.int .i64 0) := K6.out.cell 1
    have f0 : w6.frozen? ⟨Y, 0, none⟩ = false := K6.out.free 0
    have f1 : w6.frozen? ⟨Y, 1, none⟩ = false := K6.out.free 1
    go_wp2_with fail
    obtain ⟨z0, z1, B9, _⟩ := end_cells (.int .i64 0) (.int .i64 0) K6.out B6.out
    clear c0 c1 f0 f1
    generalize (World.setCell (World.setCell w6 ⟨Y, 0, none⟩ (.int .i64 0)) ⟨Y, 1, none⟩ (.int .i64 0)) = w9 at *
    refine bodyPost_ret (by simp [results, Tryz.results27, go_sem, z0, z1]; try rfl) rfl ?_
    exact ⟨rfl, B9⟩
  · have e0 : w5.cell? ⟨Z, 0, none⟩ = some (.int .i64 ra) := N5.out.cell 0
    have e1 : w5.cell? ⟨Z, 1, none⟩ = some (.int .i64 rb) := N5.out.cell 1
    go_wp2_with fail
    refine (VD.out _).mono ?_
    rintro e w6 ⟨rfl, b6⟩
    have K6 := Lib.hid (K5.out.below b6 K5.out.lt)
    have B6 := Lib.hid (B5.out.trans (b6.mono (by have := B5.out.size; omega)))
    have N6 := Lib.hid (N5.out.below b6 N5.out.lt)
    clear b6 VD N5 K5 B5 e0 e1
    have c0 : w6.cell? ⟨Y, 0, none⟩ = some (.int .i64 0) := K6.out.cell 0
    have c1 : w6.cell? ⟨Y, 1, none⟩ = some (.int .i64 0) := K6.out.cell 1
    have f0 : w6.frozen? ⟨Y, 0, none⟩ = false := K6.out.free 0
    have f1 : w6.frozen? ⟨Y, 1, none⟩ = false := K6.out.free 1
    have e0 : w6.cell? ⟨Z, 0, none⟩ = some (.int .i64 ra) := N6.out.cell 0
    have e1 : w6.cell? ⟨Z, 1, none⟩ = some (.int .i64 rb) := N6.out.cell 1
    go_wp2_with fail
    obtain ⟨z0, z1, B9, _⟩ := end_cells (.int .i64 ra) (.int .i64 rb) K6.out B6.out
    clear e0 e1 c0 c1 f0 f1
    generalize (World.setCell (World.setCell w6 ⟨Y, 0, none⟩ (.int .i64 ra)) ⟨Y, 1, none⟩ (.int .i64 rb)) = w9 at *
    refine bodyPost_ret (by simp [results, Tryz.results27, go_sem, z0, z1]; try rfl) rfl ?_
    exact ⟨rfl, B9⟩
def rrS (s : ByteArray) : Int × Int × Int × ByteArray × Int := if rsE s = 0 ∧ snapB (numR (ts1 s).1) (numR (ts2 s).1) (numR (ts3 s).1) (rsS s) = true then (numR (ts1 s).1, numR (ts2 s).1, numR (ts3 s).1, rsS s, 0) else (0, 0, 0, ⟨#[]⟩, 3)
theorem rrS_eq (s : ByteArray) : rrS s = rsV s := by
  have h := snapB_num (a := (ts1 s).1) (b := (ts2 s).1) (c := (ts3 s).1) (s := rsS s) (Bt.tNum_lt _ _) (Bt.tNum_lt _ _) (Bt.tNum_lt _ _)
  unfold rrS rsV
  rw [h.1, show wrap64 ((ts1 s).1 : Int) = rsI s from rfl, show wrap64 ((ts2 s).1 : Int) = rsT s from rfl, show wrap64 ((ts3 s).1 : Int) = rsM s from rfl]
  by_cases hc : rsE s = 0 ∧ snapB (rsI s) (rsT s) (rsM s) (rsS s) = true
  · obtain ⟨e1, e2, e3⟩ := h.2 hc.2
    rw [if_pos hc, if_pos hc, e1, e2, e3]; rfl
  · rw [if_neg hc, if_neg hc]
set_option maxHeartbeats 8000000 in
theorem rreadSnap_any (s : ByteArray) (hs : s.size ≤ 281474976710656) (w : World) :
    Calls Tryz.prog 30 #[.string s] w fun e w' => e = .returned (.tuple #[snapV (rsV s).1 (rsV s).2.1 (rsV s).2.2.1 (rsV s).2.2.2.1, .int .i64 (rsV s).2.2.2.2]) ∧ Below w.heap.size w w' := by
  rw [← rrS_eq]
  have N1 := Lib.hid (fun W => Bt.rnumT_any s 0 hs W)
  have N2 := Lib.hid (fun W => Bt.rnumT_any (ts1 s).2.1 (ts1 s).2.2 (by have := ts1_le s; omega) W)
  have N3 := Lib.hid (fun W => Bt.rnumT_any (ts2 s).2.1 (ts2 s).2.2 (by have := ts2_le s; omega) W)
  have N4 := Lib.hid (fun W => Bt.rtextT_any (ts3 s).2.1 (ts3 s).2.2 262144 (by have := ts3_le s; omega) (by decide) W)
  have EN := Lib.hid (fun W => rend_any (ts4 s).2.1 (ts4 s).2.2 W)
  have NU1 := Lib.hid (fun W => rnumber_any (ts1 s).1 (Bt.tNum_lt _ _) W)
  have NU2 := Lib.hid (fun W => rnumber_any (ts2 s).1 (Bt.tNum_lt _ _) W)
  have NU3 := Lib.hid (fun W => rnumber_any (ts3 s).1 (Bt.tNum_lt _ _) W)
  have VD := Lib.hid (fun W => smay_any (numR (ts1 s).1) (numR (ts2 s).1) (numR (ts3 s).1) (rsS s) W)
  unfold Bt.rv Bt.vNum at N1 N2 N3
  unfold Bt.rv Bt.vText at N4
  rw [show Bt.tNum s 0 = ts1 s from rfl] at N1
  rw [show Bt.tNum (ts1 s).2.1 (ts1 s).2.2 = ts2 s from rfl] at N2
  rw [show Bt.tNum (ts2 s).2.1 (ts2 s).2.2 = ts3 s from rfl] at N3
  rw [show Bt.tText (ts3 s).2.1 (ts3 s).2.2 262144 = ts4 s from rfl] at N4
  rw [show Bt.endE (ts4 s).2.1 (ts4 s).2.2 = rsE s from rfl] at EN
  have R : ∃ a b c d n, rrS s = (a, b, c, d, n) ∧ ((rsE s ≠ 0 ∧ a = 0 ∧ b = 0 ∧ c = 0 ∧ d = ⟨#[]⟩ ∧ n = 3) ∨ (rsE s = 0 ∧ snapB (numR (ts1 s).1) (numR (ts2 s).1) (numR (ts3 s).1) (rsS s) = false ∧ a = 0 ∧ b = 0 ∧ c = 0 ∧ d = ⟨#[]⟩ ∧ n = 3) ∨ (rsE s = 0 ∧ snapB (numR (ts1 s).1) (numR (ts2 s).1) (numR (ts3 s).1) (rsS s) = true ∧ a = numR (ts1 s).1 ∧ b = numR (ts2 s).1 ∧ c = numR (ts3 s).1 ∧ d = rsS s ∧ n = 0)) := by
    unfold rrS
    by_cases h1 : rsE s = 0
    · cases h2 : snapB (numR (ts1 s).1) (numR (ts2 s).1) (numR (ts3 s).1) (rsS s)
      · exact ⟨_, _, _, _, _, by rw [if_neg (by simp)], .inr (.inl ⟨h1, rfl, rfl, rfl, rfl, rfl, rfl⟩)⟩
      · exact ⟨_, _, _, _, _, by rw [if_pos ⟨h1, rfl⟩], .inr (.inr ⟨h1, rfl, rfl, rfl, rfl, rfl, rfl⟩)⟩
    · exact ⟨_, _, _, _, _, by rw [if_neg (fun h => h1 h.1)], .inl ⟨h1, rfl, rfl, rfl, rfl, rfl⟩⟩
  obtain ⟨ra, rb, rc, rd, rn, hR, R⟩ := R
  rw [hR]
  simp only
  clear hR
  rw [show (ts4 s).1 = rsS s from rfl] at N4
  generalize rsE s = E at *
  generalize rsS s = T4 at *
  generalize ts4 s = x4 at *
  generalize ts3 s = x3 at *
  generalize ts2 s = x2 at *
  generalize ts1 s = x1 at *
  obtain ⟨n1, s1, e1⟩ := x1
  obtain ⟨n2, s2, e2⟩ := x2
  obtain ⟨n3, s3, e3⟩ := x3
  obtain ⟨n4, s4, e4⟩ := x4
  simp only at N1 N2 N3 N4 EN NU1 NU2 NU3 VD R
  generalize numR n1 = T1 at *
  generalize numR n2 = T2 at *
  generalize numR n3 = T3 at *
  generalize hb : snapB T1 T2 T3 T4 = bb at *
  unfold snapV at *
  have K0 := Lib.hid (Blk.new w 43 #[.int .i64 0, .int .i64 0, .int .i64 0, .string ⟨#[]⟩])
  have B0 := Lib.hid ((Below.refl _ w).alloc (Nat.le_refl _) (.cells #[.int .i64 0, .int .i64 0, .int .i64 0, .string ⟨#[]⟩] 43))
  generalize hy : w.heap.size = Y at *
  go_enter Tryz.func30, Tryz.ntmps30
  go_wp2_with fail
  refine (N1.out _).mono ?_
  rintro e w1 ⟨rfl, b1⟩
  have K1 := Lib.hid (K0.out.below b1 K0.out.lt)
  have B1 := Lib.hid (B0.out.trans (b1.mono (by have := B0.out.size; omega)))
  clear b1 K0 B0 N1
  go_wp2_with fail
  refine (N2.out _).mono ?_
  rintro e w2 ⟨rfl, b2⟩
  have bC := (Below.refl w1.heap.size w1).alloc (Nat.le_refl _) (.cells #[.string s1, .int .i64 e1] 105)
  have K2 := Lib.hid ((K1.out.below bC K1.out.lt).below b2 (by have := K1.out.lt; simp; omega))
  have B2 := Lib.hid ((B1.out.trans (bC.mono (by have := B1.out.size; omega))).trans (b2.mono (by have := B1.out.size; simp; omega)))
  clear b2 bC K1 B1 N2
  go_wp2_with fail
  refine (N3.out _).mono ?_
  rintro e w3 ⟨rfl, b3⟩
  have bC := (Below.refl w2.heap.size w2).alloc (Nat.le_refl _) (.cells #[.string s2, .int .i64 e2] 105)
  have K3 := Lib.hid ((K2.out.below bC K2.out.lt).below b3 (by have := K2.out.lt; simp; omega))
  have B3 := Lib.hid ((B2.out.trans (bC.mono (by have := B2.out.size; omega))).trans (b3.mono (by have := B2.out.size; simp; omega)))
  clear b3 bC K2 B2 N3
  go_wp2_with fail
  refine (N4.out _).mono ?_
  rintro e w4 ⟨rfl, b4⟩
  have bC := (Below.refl w3.heap.size w3).alloc (Nat.le_refl _) (.cells #[.string s3, .int .i64 e3] 105)
  have K4 := Lib.hid ((K3.out.below bC K3.out.lt).below b4 (by have := K3.out.lt; simp; omega))
  have B4 := Lib.hid ((B3.out.trans (bC.mono (by have := B3.out.size; omega))).trans (b4.mono (by have := B3.out.size; simp; omega)))
  clear b4 bC K3 B3 N4
  go_wp2_with fail
  refine (NU1.out _).mono ?_
  rintro e w5 ⟨rfl, rfl⟩
  go_wp2_with fail
  refine (NU2.out _).mono ?_
  rintro e w5 ⟨rfl, rfl⟩
  go_wp2_with fail
  refine (NU3.out _).mono ?_
  rintro e w5 ⟨rfl, rfl⟩
  have bC := (Below.refl w4.heap.size w4).alloc (Nat.le_refl _) (.cells #[.string s4, .int .i64 e4] 105)
  have K5 := Lib.hid (K4.out.below bC K4.out.lt)
  have B5 := Lib.hid (B4.out.trans (bC.mono (by have := B4.out.size; omega)))
  have T5 := Lib.hid (Blk.new w4 105 #[.string s4, .int .i64 e4])
  have hT : w4.heap.size < (w4.alloc (.cells #[.string s4, .int .i64 e4] 105)).heap.size := T5.out.lt
  clear bC K4 B4 NU1 NU2 NU3
  generalize w4.alloc (.cells #[.string s4, .int .i64 e4] 105) = w5 at *
  generalize w4.heap.size = Q at *
  have bD := (Below.refl w5.heap.size w5).alloc (Nat.le_refl _) (.cells #[.int .i64 T1, .int .i64 T2, .int .i64 T3, .string T4] 43)
  have K6 := Lib.hid (K5.out.below bD K5.out.lt)
  have B6 := Lib.hid (B5.out.trans (bD.mono (by have := B5.out.size; omega)))
  have T6 := Lib.hid (T5.out.below bD hT)
  have N6 := Lib.hid (Blk.new w5 43 #[.int .i64 T1, .int .i64 T2, .int .i64 T3, .string T4])
  have u0 : (w5.alloc (.cells #[.int .i64 T1, .int .i64 T2, .int .i64 T3, .string T4] 43)).cell? ⟨Q, 0, none⟩ = some (.string s4) := T6.out.cell 0
  have u1 : (w5.alloc (.cells #[.int .i64 T1, .int .i64 T2, .int .i64 T3, .string T4] 43)).cell? ⟨Q, 1, none⟩ = some (.int .i64 e4) := T6.out.cell 1
  clear bD K5 B5 T5
  go_wp2_with fail
  refine (EN.out _).mono ?_
  rintro e w7 ⟨rfl, b7⟩
  have K7 := Lib.hid (K6.out.below b7 K6.out.lt)
  have B7 := Lib.hid (B6.out.trans (b7.mono (by have := B6.out.size; omega)))
  have N7 := Lib.hid (N6.out.below b7 N6.out.lt)
  clear b7 K6 B6 T6 N6 u0 u1 EN hT
  generalize w5.heap.size = Z at *
  rcases R with ⟨h1, rfl, rfl, rfl, rfl, rfl⟩ | ⟨rfl, rfl, rfl, rfl, rfl, rfl, rfl⟩ | ⟨rfl, rfl, rfl, rfl, rfl, rfl, rfl⟩
  · have hE : (E != 0) = true := by simpa using h1
    clear h1 VD N7
    have c0 : w7.cell? ⟨Y, 0, none⟩ = some (.int .i64 0) := K7.out.cell 0
    have c1 : w7.cell? ⟨Y, 1, none⟩ = some (.int .i64 0) := K7.out.cell 1
    have c2 : w7.cell? ⟨Y, 2, none⟩ = some (.int .i64 0) := K7.out.cell 2
    have c3 : w7.cell? ⟨Y, 3, none⟩ = some (.string ⟨#[]⟩) := K7.out.cell 3
    have f0 : w7.frozen? ⟨Y, 0, none⟩ = false := K7.out.free 0
    have f1 : w7.frozen? ⟨Y, 1, none⟩ = false := K7.out.free 1
    have f2 : w7.frozen? ⟨Y, 2, none⟩ = false := K7.out.free 2
    have f3 : w7.frozen? ⟨Y, 3, none⟩ = false := K7.out.free 3
    go_wp2_with fail
    obtain ⟨K9, _⟩ := set4_all (.int .i64 0) (.int .i64 0) (.int .i64 0) (.string ⟨#[]⟩) K7.out
    have B9 := set4_below (.int .i64 0) (.int .i64 0) (.int .i64 0) (.string ⟨#[]⟩) K7.out B7.out
    unfold set4 at K9 B9
    clear c0 c1 c2 c3 f0 f1 f2 f3
    generalize (World.setCell (World.setCell (World.setCell (World.setCell w7 ⟨Y, 0, none⟩ (.int .i64 0)) ⟨Y, 1, none⟩ (.int .i64 0)) ⟨Y, 2, none⟩ (.int .i64 0)) ⟨Y, 3, none⟩ (.string ⟨#[]⟩)) = w9 at *
    have z0 : w9.cell? ⟨Y, 0, none⟩ = some (.int .i64 0) := K9.cell 0
    have z1 : w9.cell? ⟨Y, 1, none⟩ = some (.int .i64 0) := K9.cell 1
    have z2 : w9.cell? ⟨Y, 2, none⟩ = some (.int .i64 0) := K9.cell 2
    have z3 : w9.cell? ⟨Y, 3, none⟩ = some (.string ⟨#[]⟩) := K9.cell 3
    refine bodyPost_ret (by simp [results, Tryz.results30, go_sem, z0, z1, z2, z3]; try rfl) rfl ?_
    exact ⟨rfl, B9⟩
  · have e0 : w7.cell? ⟨Z, 0, none⟩ = some (.int .i64 T1) := N7.out.cell 0
    have e1 : w7.cell? ⟨Z, 1, none⟩ = some (.int .i64 T2) := N7.out.cell 1
    have e2 : w7.cell? ⟨Z, 2, none⟩ = some (.int .i64 T3) := N7.out.cell 2
    have e3 : w7.cell? ⟨Z, 3, none⟩ = some (.string T4) := N7.out.cell 3
    go_wp2_with fail
    refine (VD.out _).mono ?_
    rintro e w8 ⟨rfl, b8⟩
    have K8 := Lib.hid (K7.out.below b8 K7.out.lt)
    have B8 := Lib.hid (B7.out.trans (b8.mono (by have := B7.out.size; omega)))
    have N8 := Lib.hid (N7.out.below b8 N7.out.lt)
    clear b8 VD N7 K7 B7 e0 e1 e2 e3
    have c0 : w8.cell? ⟨Y, 0, none⟩ = some (.int .i64 0) := K8.out.cell 0
    have c1 : w8.cell? ⟨Y, 1, none⟩ = some (.int .i64 0) := K8.out.cell 1
    have c2 : w8.cell? ⟨Y, 2, none⟩ = some (.int .i64 0) := K8.out.cell 2
    have c3 : w8.cell? ⟨Y, 3, none⟩ = some (.string ⟨#[]⟩) := K8.out.cell 3
    have f0 : w8.frozen? ⟨Y, 0, none⟩ = false := K8.out.free 0
    have f1 : w8.frozen? ⟨Y, 1, none⟩ = false := K8.out.free 1
    have f2 : w8.frozen? ⟨Y, 2, none⟩ = false := K8.out.free 2
    have f3 : w8.frozen? ⟨Y, 3, none⟩ = false := K8.out.free 3
    go_wp2_with fail
    obtain ⟨K9, _⟩ := set4_all (.int .i64 0) (.int .i64 0) (.int .i64 0) (.string ⟨#[]⟩) K8.out
    have B9 := set4_below (.int .i64 0) (.int .i64 0) (.int .i64 0) (.string ⟨#[]⟩) K8.out B8.out
    unfold set4 at K9 B9
    clear c0 c1 c2 c3 f0 f1 f2 f3
    generalize (World.setCell (World.setCell (World.setCell (World.setCell w8 ⟨Y, 0, none⟩ (.int .i64 0)) ⟨Y, 1, none⟩ (.int .i64 0)) ⟨Y, 2, none⟩ (.int .i64 0)) ⟨Y, 3, none⟩ (.string ⟨#[]⟩)) = w9 at *
    have z0 : w9.cell? ⟨Y, 0, none⟩ = some (.int .i64 0) := K9.cell 0
    have z1 : w9.cell? ⟨Y, 1, none⟩ = some (.int .i64 0) := K9.cell 1
    have z2 : w9.cell? ⟨Y, 2, none⟩ = some (.int .i64 0) := K9.cell 2
    have z3 : w9.cell? ⟨Y, 3, none⟩ = some (.string ⟨#[]⟩) := K9.cell 3
    refine bodyPost_ret (by simp [results, Tryz.results30, go_sem, z0, z1, z2, z3]; try rfl) rfl ?_
    exact ⟨rfl, B9⟩
  · have e0 : w7.cell? ⟨Z, 0, none⟩ = some (.int .i64 ra) := N7.out.cell 0
    have e1 : w7.cell? ⟨Z, 1, none⟩ = some (.int .i64 rb) := N7.out.cell 1
    have e2 : w7.cell? ⟨Z, 2, none⟩ = some (.int .i64 rc) := N7.out.cell 2
    have e3 : w7.cell? ⟨Z, 3, none⟩ = some (.string rd) := N7.out.cell 3
    go_wp2_with fail
    refine (VD.out _).mono ?_
    rintro e w8 ⟨rfl, b8⟩
    have K8 := Lib.hid (K7.out.below b8 K7.out.lt)
    have B8 := Lib.hid (B7.out.trans (b8.mono (by have := B7.out.size; omega)))
    have N8 := Lib.hid (N7.out.below b8 N7.out.lt)
    clear b8 VD N7 K7 B7 e0 e1 e2 e3
    have c0 : w8.cell? ⟨Y, 0, none⟩ = some (.int .i64 0) := K8.out.cell 0
    have c1 : w8.cell? ⟨Y, 1, none⟩ = some (.int .i64 0) := K8.out.cell 1
    have c2 : w8.cell? ⟨Y, 2, none⟩ = some (.int .i64 0) := K8.out.cell 2
    have c3 : w8.cell? ⟨Y, 3, none⟩ = some (.string ⟨#[]⟩) := K8.out.cell 3
    have f0 : w8.frozen? ⟨Y, 0, none⟩ = false := K8.out.free 0
    have f1 : w8.frozen? ⟨Y, 1, none⟩ = false := K8.out.free 1
    have f2 : w8.frozen? ⟨Y, 2, none⟩ = false := K8.out.free 2
    have f3 : w8.frozen? ⟨Y, 3, none⟩ = false := K8.out.free 3
    have e0 : w8.cell? ⟨Z, 0, none⟩ = some (.int .i64 ra) := N8.out.cell 0
    have e1 : w8.cell? ⟨Z, 1, none⟩ = some (.int .i64 rb) := N8.out.cell 1
    have e2 : w8.cell? ⟨Z, 2, none⟩ = some (.int .i64 rc) := N8.out.cell 2
    have e3 : w8.cell? ⟨Z, 3, none⟩ = some (.string rd) := N8.out.cell 3
    go_wp2_with fail
    obtain ⟨K9, _⟩ := set4_all (.int .i64 ra) (.int .i64 rb) (.int .i64 rc) (.string rd) K8.out
    have B9 := set4_below (.int .i64 ra) (.int .i64 rb) (.int .i64 rc) (.string rd) K8.out B8.out
    unfold set4 at K9 B9
    clear e0 e1 e2 e3 c0 c1 c2 c3 f0 f1 f2 f3
    generalize (World.setCell (World.setCell (World.setCell (World.setCell w8 ⟨Y, 0, none⟩ (.int .i64 ra)) ⟨Y, 1, none⟩ (.int .i64 rb)) ⟨Y, 2, none⟩ (.int .i64 rc)) ⟨Y, 3, none⟩ (.string rd)) = w9 at *
    have z0 : w9.cell? ⟨Y, 0, none⟩ = some (.int .i64 ra) := K9.cell 0
    have z1 : w9.cell? ⟨Y, 1, none⟩ = some (.int .i64 rb) := K9.cell 1
    have z2 : w9.cell? ⟨Y, 2, none⟩ = some (.int .i64 rc) := K9.cell 2
    have z3 : w9.cell? ⟨Y, 3, none⟩ = some (.string rd) := K9.cell 3
    refine bodyPost_ret (by simp [results, Tryz.results30, go_sem, z0, z1, z2, z3]; try rfl) rfl ?_
    exact ⟨rfl, B9⟩
end Go.Proofs.YthnnenhpcceckaaGreat
/-
  A DISK AND ITS STATE, WITH BLOCKS OFF IT THAT STAY AS THEY WERE.
-/
namespace Go.Proofs.YthnnenhpcceckaaGreat
open Go.RowKit
section
variable {w w' : World} {B D m : Nat} {S : St} {L L' : Lie} {Q : Nat → Prop}
def Off (w : World) (D : Nat) (L : Lie) (Q : Nat → Prop) : Prop := ∀ q, Q q → q < w.heap.size ∧ ¬ L.foot D q
def Stay (w w' : World) (Q : Nat → Prop) : Prop := ∀ q, Q q → w'.heap[q]? = w.heap[q]?
def DskQ (w : World) (B D m : Nat) (S : St) (Q : Nat → Prop) : Prop := ∃ L, DkL w B D m S L ∧ Off w D L Q
theorem Off.step (h : Off w D L Q) (F : Fr w w' (L.foot D)) (hN : ∀ q, L'.foot D q → L.foot D q ∨ w.heap.size ≤ q) : Off w' D L' Q ∧ Stay w w' Q := by
  refine ⟨fun q hq => ⟨Nat.lt_of_lt_of_le (h q hq).1 F.size, fun hf => ?_⟩, fun q hq => F.block q (h q hq).1 (h q hq).2⟩
  rcases hN q hf with hh | hh
  · exact (h q hq).2 hh
  · have := (h q hq).1; omega
theorem Stay.trans {a b c : World} (h : Stay a b Q) (k : Stay b c Q) : Stay a c Q := fun q hq => (k q hq).trans (h q hq)
theorem DskQ.below (h : DskQ w B D m S Q) (hb : Below w.heap.size w w') : DskQ w' B D m S Q ∧ Stay w w' Q := by
  obtain ⟨L, h, o⟩ := h
  exact ⟨⟨L, h.below hb, fun q hq => ⟨Nat.lt_of_lt_of_le (o q hq).1 hb.size, (o q hq).2⟩⟩, fun q hq => hb.block q (o q hq).1⟩
theorem DskQ.dsk (h : DskQ w B D m S Q) : Dsk w B D m S := by
  obtain ⟨L, h, _⟩ := h
  exact ⟨L, h⟩
/-- a block that is new is off the disk -/
theorem DskQ.more (h : DskQ w B D m S Q) (v : Obj) : DskQ (w.alloc v) B D m S (fun q => Q q ∨ q = w.heap.size) := by
  obtain ⟨L, h, o⟩ := h
  have hb := (Below.refl w.heap.size w).alloc (Nat.le_refl _) v
  refine ⟨L, h.below hb, fun q hq => ?_⟩
  rcases hq with hq | rfl
  · exact ⟨Nat.lt_of_lt_of_le (o q hq).1 hb.size, (o q hq).2⟩
  · exact ⟨by simp, fun hf => by have := (h.lt hf).2; omega⟩
theorem putq {n : Nat} (f s : Nm) (h : DskQ w B D m S Q) (ok : Ok S) (hm : m + 2 * S.row.length < 99990) (hd : S.down = false) (ht : S.trip = 0) (hr : S.room < 0) (hn : nameB f = true) (hl : n ≤ (gl S.now f).length) (h4 : n + s.size ≤ 4194304) :
    Calls Tryz.prog 5 #[.pointer (some ⟨D, 0, none⟩), .string f, .int .i64 n, .string s] w fun e w' => e = .returned (.int .i64 0) ∧
      DskQ w' B D (m + 2 * S.row.length + 5) { S with row := S.row ++ [.put f n s], now := (Chg.put f n s).doF S.now, calls := S.calls + 1 } Q ∧
      Ok { S with row := S.row ++ [.put f n s], now := (Chg.put f n s).doF S.now, calls := S.calls + 1 } ∧ Below B w w' ∧ Stay w w' Q := by
  obtain ⟨L, h, o⟩ := h
  have h64 := (nameB_size hn).2
  have hc : (Chg.put f n s).may S.now := ⟨h64, hl, h4⟩
  refine (put_yes f s n h hd (by omega) (fun hb => ?_) (fun hb => ?_) (mayAll_append ok.may (ok.now.may hc)) hc (by omega) ok.trip ok.keep).mono fun e w' hh => ?_
  · rcases hb with hb | hb | hb | hb
    · rw [hn] at hb; cases hb
    · omega
    · omega
    · omega
  · have := hb.1; omega
  · obtain ⟨S', L', x, rfl, d, hcnt, F, hN⟩ := hh
    have k := Counted.ok (S := { S with row := S.row ++ [.put f n s], now := (Chg.put f n s).doF S.now }) (mayAll_append ok.may (ok.now.may hc)) (by simp only [doAll_append]; exact ok.now.doF _) ok.trip ok.keep hd hcnt
    rcases hcnt with ⟨_, rfl, e⟩ | ⟨e, _⟩
    · simp only [ht, if_true] at e
      have e' : S' = { S with row := S.row ++ [.put f n s], now := (Chg.put f n s).doF S.now, calls := S.calls + 1 } := by rw [e, ← ht]
      rw [e'] at d k
      exact ⟨rfl, ⟨L', d.mono (by omega) (by omega), (o.step F hN).1⟩, k.1, Fr.foot h F, (o.step F hN).2⟩
    · simp only at e; omega
theorem moveq (f t : Nm) (h : DskQ w B D m S Q) (ok : Ok S) (hm : m + 2 * S.row.length < 99990) (hd : S.down = false) (ht : S.trip = 0) (hn : nameB f = true) (hn2 : nameB t = true) (hE : moveE S f t = 0) (hc : (Chg.move f t).may S.now) :
    Calls Tryz.prog 76 #[.pointer (some ⟨D, 0, none⟩), .string f, .string t] w fun e w' => e = .returned (.int .i64 0) ∧
      DskQ w' B D (m + 2 * S.row.length + 5) { S with row := S.row ++ [.move f t], now := (Chg.move f t).doF S.now, calls := S.calls + 1 } Q ∧
      Ok { S with row := S.row ++ [.move f t], now := (Chg.move f t).doF S.now, calls := S.calls + 1 } ∧ Below B w w' ∧ Stay w w' Q := by
  obtain ⟨L, h, o⟩ := h
  have h64 := (nameB_size hn).2
  have h65 := (nameB_size hn2).2
  refine (move_yes f t h (by omega) (by omega) hE hd (mayAll_append ok.may (ok.now.may hc)) hc (by omega) ok.trip ok.keep).mono fun e w' hh => ?_
  obtain ⟨S', L', x, rfl, d, hcnt, F, hN⟩ := hh
  have k := Counted.ok (S := { S with row := S.row ++ [.move f t], now := (Chg.move f t).doF S.now }) (mayAll_append ok.may (ok.now.may hc)) (by simp only [doAll_append]; exact ok.now.doF _) ok.trip ok.keep hd hcnt
  rcases hcnt with ⟨_, rfl, e⟩ | ⟨e, _⟩
  · simp only [ht, if_true] at e
    have e' : S' = { S with row := S.row ++ [.move f t], now := (Chg.move f t).doF S.now, calls := S.calls + 1 } := by rw [e, ← ht]
    rw [e'] at d k
    exact ⟨rfl, ⟨L', d.mono (by omega) (by omega), (o.step F hN).1⟩, k.1, Fr.foot h F, (o.step F hN).2⟩
  · simp only at e; omega
theorem syncq (h : DskQ w B D m S Q) (ok : Ok S) (hm : m + 2 * S.row.length < 99990) (hd : S.down = false) (ht : S.trip = 0) :
    Calls Tryz.prog 6 #[.pointer (some ⟨D, 0, none⟩)] w fun e w' => e = .returned (.int .i64 0) ∧
      DskQ w' B D (m + 2 * S.row.length + 2) { S with sure := doAll S.sure S.row, row := [], calls := S.calls + 1 } Q ∧ Ok { S with sure := doAll S.sure S.row, row := [], calls := S.calls + 1 } ∧ Below B w w' ∧ Stay w w' Q := by
  obtain ⟨L, h, o⟩ := h
  refine (sync_any h hd ok.may hm ok.trip ok.keep).mono fun e w' hh => ?_
  obtain ⟨S1, S', L', x, rfl, d, hcnt, hS', F, hN⟩ := hh
  rcases hcnt with ⟨_, rfl, e⟩ | ⟨e, _⟩
  · simp only [ht, if_true] at e
    have e' : S' = { S with sure := doAll S.sure S.row, row := [], calls := S.calls + 1 } := by rw [hS', if_pos rfl, e, ← ht]
    rw [e'] at d
    exact ⟨rfl, ⟨L', d, (o.step F hN).1⟩, ⟨trivial, ok.now, ok.trip, ok.keep, fun _ => rfl⟩, Fr.foot h F, (o.step F hN).2⟩
  · omega
end
end Go.Proofs.YthnnenhpcceckaaGreat
/-
  A FIRST VOTE SAVED ON A NEW DISK: what lies off the disk stays.
-/
namespace Go.Proofs.YthnnenhpcceckaaGreat
open Go.RowKit
set_option maxHeartbeats 4000000 in
theorem save_awq {w : World} {B D : Nat} {Q : Nat → Prop} (d : DskQ w B D 0 st0 Q) (hB : B ≤ w.heap.size) : Calls Tryz.prog 56 #[.pointer (some ⟨D, 0, none⟩), .string nV, .string bV] w fun e w' => e = .returned (.int .i64 0) ∧ DskQ w' B D 18 aw3 Q ∧ Ok aw3 ∧ Below B w w' ∧ Stay w w' Q := by
  have PK := Lib.hid (fun W => Ct.pack_any bV (by decide) W)
  rw [show Ct.packS bV = pV from rfl] at PK
  have DR := Lib.hid (fun W (h : DskQ W B D 0 st0 Q) => dropn nN h.dsk (by decide) (by rw [e0]; decide))
  rw [e0] at DR
  have hp := pV_size
  have PT := Lib.hid (fun W (h : DskQ W B D 0 st0 Q) => putq (n := 0) nN pV h ok0 (by decide) rfl rfl (by decide) nameN (Nat.zero_le _) (by omega))
  have MV := Lib.hid (fun W (h : DskQ W B D 5 aw1 Q) (k : Ok aw1) => moveq nN nV h k (by decide) rfl rfl nameN nameV e1 mayM)
  have SY := Lib.hid (fun W (h : DskQ W B D 12 aw2 Q) (k : Ok aw2) => syncq h k (by decide) rfl rfl)
  have d0 := Lib.hid d
  clear d hp
  have sz0 : ¬ (9223372036854775807 < nV.size + 4) := by decide
  rw [show nN = nV ++ ⟨#[46, 110, 101, 119]⟩ from rfl] at DR MV
  have PT2 : Hid (∀ W, DskQ W B D 0 st0 Q → Calls Tryz.prog 5 #[.pointer (some ⟨D, 0, none⟩), .string (nV ++ ⟨#[46, 110, 101, 119]⟩), .int .i64 0, .string pV] W fun e w' => e = .returned (.int .i64 0) ∧ DskQ w' B D 5 aw1 Q ∧ Ok aw1 ∧ Below B W w' ∧ Stay W w' Q) := PT
  have MV2 : Hid (∀ W, DskQ W B D 5 aw1 Q → Ok aw1 → Calls Tryz.prog 76 #[.pointer (some ⟨D, 0, none⟩), .string (nV ++ ⟨#[46, 110, 101, 119]⟩), .string nV] W fun e w' => e = .returned (.int .i64 0) ∧ DskQ w' B D 12 aw2 Q ∧ Ok aw2 ∧ Below B W w' ∧ Stay W w' Q) := MV
  have SY2 : Hid (∀ W, DskQ W B D 12 aw2 Q → Ok aw2 → Calls Tryz.prog 6 #[.pointer (some ⟨D, 0, none⟩)] W fun e w' => e = .returned (.int .i64 0) ∧ DskQ w' B D 18 aw3 Q ∧ Ok aw3 ∧ Below B W w' ∧ Stay W w' Q) := SY
  clear PT MV SY
  generalize nV = nv at *
  generalize bV = bv at *
  generalize pV = pv at *
  go_enter Tryz.func56, Tryz.ntmps56
  go_wp2_with fail
  refine (PK.out _).mono ?_
  rintro e w1 ⟨rfl, b1⟩
  have d1 := Lib.hid (d0.out.below b1)
  have B1 := Lib.hid (b1.mono hB)
  have DR1 := Lib.hid (DR.out _ d1.out.1)
  have PT1 := Lib.hid (PT2.out _ d1.out.1)
  clear b1 d0 PK DR PT2
  go_wp2_with fail
  refine DR1.out.mono ?_
  rintro e w2 ⟨rfl, rfl⟩
  go_wp2_with fail
  refine PT1.out.mono ?_
  rintro e w3 ⟨rfl, d3, k3, b3, s3⟩
  have MV1 := Lib.hid (MV2.out _ d3 k3)
  have B3 := Lib.hid (B1.out.trans b3)
  have S3 := Lib.hid (d1.out.2.trans s3)
  clear d3 k3 b3 s3 DR1 PT1 MV2 B1 d1
  go_wp2_with fail
  refine MV1.out.mono ?_
  rintro e w4 ⟨rfl, d4, k4, b4, s4⟩
  have SY1 := Lib.hid (SY2.out _ d4 k4)
  have B4 := Lib.hid (B3.out.trans b4)
  have S4 := Lib.hid (S3.out.trans s4)
  clear d4 k4 b4 s4 MV1 SY2 B3 S3
  go_wp2_with fail
  refine SY1.out.mono ?_
  rintro e w5 ⟨rfl, d5, k5, b5, s5⟩
  have B5 := Lib.hid (B4.out.trans b5)
  have S5 := Lib.hid (S4.out.trans s5)
  have d5h := Lib.hid d5
  have k5h := Lib.hid k5
  clear d5 k5 b5 s5 B4 S4 SY1
  go_wp2_with fail
  go_ret
  exact ⟨rfl, d5h.out, k5h.out, B5.out, S5.out⟩
set_option maxHeartbeats 4000000 in
theorem saveVote_awq {w : World} {B D : Nat} {Q : Nat → Prop} (d : DskQ w B D 0 st0 Q) (hB : B ≤ w.heap.size) : Calls Tryz.prog 31 #[.pointer (some ⟨D, 0, none⟩), voteV 3 1] w fun e w' => e = .returned (.int .i64 0) ∧ DskQ w' B D 18 aw3 Q ∧ Ok aw3 ∧ Below B w w' ∧ Stay w w' Q := by
  have bA := (Below.refl _ w).alloc (Nat.le_refl _) (.cells #[.int .i64 3, .int .i64 1] 33)
  have V := Lib.hid (vote_ok (t := 3) (f := 1) (by decide) (w.alloc (.cells #[.int .i64 3, .int .i64 1] 33)))
  rw [vV] at V
  have d1 := Lib.hid (d.below bA)
  have BA := Lib.hid (bA.mono hB)
  have hB1 := Nat.le_trans hB bA.size
  have SV := Lib.hid (fun W (h : DskQ W B D 0 st0 Q) (hW : B ≤ W.heap.size) => save_awq h hW)
  unfold nV at SV
  clear d bA
  unfold voteV at *
  generalize bV = bv at *
  generalize hy : w.heap.size = Y at *
  go_enter Tryz.func31, Tryz.ntmps31
  go_wp2_with fail
  refine V.out.mono ?_
  rintro e w1 ⟨rfl, b1⟩
  have dd := d1.out.1.below b1
  have SV1 := Lib.hid (SV.out _ dd.1 (Nat.le_trans hB1 b1.size))
  have S1 := Lib.hid (d1.out.2.trans dd.2)
  have B1 := Lib.hid (BA.out.trans (b1.mono hB1))
  clear b1 BA V d1 SV hB1 dd
  go_wp2_with fail
  refine SV1.out.mono ?_
  rintro e w2 ⟨rfl, d2, k2, b2, s2⟩
  have B2 := Lib.hid (B1.out.trans b2)
  have S2 := Lib.hid (S1.out.trans s2)
  have d2h := Lib.hid d2
  have k2h := Lib.hid k2
  clear d2 k2 b2 s2 B1 S1 SV1
  go_wp2_with fail
  go_ret
  exact ⟨rfl, d2h.out, k2h.out, B2.out, S2.out⟩
end Go.Proofs.YthnnenhpcceckaaGreat
/-
  THE SHELF AWAKE.
-/
namespace Go.Proofs.YthnnenhpcceckaaGreat
open Go.RowKit
def nS : Nm := ⟨#[115, 110, 97, 112]⟩
theorem rd0V : (readV st0 nV).2 = 4 := by decide +kernel
theorem rd0S : (readV st0 nS).2 = 4 := by decide +kernel
theorem rd3V : readV aw3 nV = (pV, 0) := by decide +kernel
/-- LoadVote on a disk that has none -/
theorem lv0 {w : World} {B D m : Nat} {S : St} (d : Dsk w B D m S) (h : (readV S nV).2 = 4) : Calls Tryz.prog 9 #[.pointer (some ⟨D, 0, none⟩)] w fun e w' => e = .returned (.tuple #[voteV 0 (-1), .int .i64 0]) ∧ Below w.heap.size w w' :=
  loadVote_of (t := 0) (f := 0) (n := 0) (b := false) fun W bW => load_err (n := 4) (x := (readV S nV).1) (fun W' bW' => by
    have := readd ((d.below bW).below bW') nV (by decide)
    rw [h] at this
    exact this) (by decide)
theorem ls0 {w : World} {B D m : Nat} {S : St} (d : Dsk w B D m S) (h : (readV S nS).2 = 4) : Calls Tryz.prog 11 #[.pointer (some ⟨D, 0, none⟩)] w fun e w' => e = .returned (.tuple #[snapV 0 0 0 ⟨#[]⟩, .bool false, .int .i64 0]) ∧ Below w.heap.size w w' :=
  loadSnap_of (n := 0) fun W bW => loadS_err (n := 4) (x := (readV S nS).1) (fun W' bW' => by
    have := readd ((d.below bW).below bW') nS (by decide)
    rw [h] at this
    exact this) (by decide)
theorem lv3 {w : World} {B D m : Nat} (d : Dsk w B D m aw3) : Calls Tryz.prog 9 #[.pointer (some ⟨D, 0, none⟩)] w fun e w' => e = .returned (.tuple #[voteV 3 1, .int .i64 0]) ∧ Below w.heap.size w w' :=
  loadVote_of (t := 3) (f := 1) (n := 0) (b := true) fun W bW => load_ok (x := pV) (b := bV) (fun W' bW' => by
    have := readd ((d.below bW).below bW') nV (by decide)
    rw [rd3V] at this
    exact this) (by rw [pV_size]; decide) (by decide) unpV' rdV'
theorem Dsk.q {w : World} {B D m : Nat} {S : St} (d : Dsk w B D m S) : DskQ w B D m S (fun _ => False) := by
  obtain ⟨L, h⟩ := d
  exact ⟨L, h, fun q hq => hq.elim⟩
set_option maxHeartbeats 8000000 in
theorem awake_any (w : World) : Calls Tryz.prog 13 #[] w fun e w' => e = .returned (.bool true) ∧ Below w.heap.size w w' := by
  have L0 := Lib.hid (fun W B D (d : Dsk W B D 0 st0) => lv0 d rd0V)
  have T0 := Lib.hid (fun W B D (d : Dsk W B D 0 st0) => ls0 d rd0S)
  have L3 := Lib.hid (fun W B D (d : Dsk W B D 18 aw3) => lv3 d)
  have SV := Lib.hid (fun W B D Q (d : DskQ W B D 0 st0 Q) (hB : B ≤ W.heap.size) => saveVote_awq d hB)
  unfold voteV snapV at *
  go_enter Tryz.func13, Tryz.ntmps13
  go_wp2_with fail
  refine (newd _).mono ?_
  rintro e w1 ⟨D, rfl, d1, b1⟩
  have q1 := Lib.hid (d1.q)
  have B1 := Lib.hid b1
  have C1 := Lib.hid (L0.out _ _ _ d1)
  clear d1 b1
  go_wp2_with fail
  refine C1.out.mono ?_
  rintro e w2 ⟨rfl, b2⟩
  have q2 := (q1.out.below b2).1
  have B2 := B1.out.trans (b2.mono B1.out.size)
  have N3 := Lib.hid (Blk.new w2 33 #[.int .i64 0, .int .i64 (-1)])
  have q3 := Lib.hid (q2.more (.cells #[.int .i64 0, .int .i64 (-1)] 33))
  have B3 := Lib.hid (B2.alloc B2.size (.cells #[.int .i64 0, .int .i64 (-1)] 33))
  have C3 := Lib.hid (T0.out _ _ _ q3.out.dsk)
  clear b2 q1 B1 q2 B2 C1 L0 T0
  go_wp2_with fail
  refine C3.out.mono ?_
  rintro e w4 ⟨rfl, b4⟩
  have q4 := (q3.out.below b4).1
  have N4 := N3.out.below b4 N3.out.lt
  have B4 := B3.out.trans (b4.mono B3.out.size)
  have bS := (Below.refl w4.heap.size w4).alloc (Nat.le_refl _) (.cells #[.int .i64 0, .int .i64 0, .int .i64 0, .string ⟨#[]⟩] 40)
  have N5 := Lib.hid (N4.below bS N4.lt)
  have M5 := Lib.hid (Blk.new w4 40 #[.int .i64 0, .int .i64 0, .int .i64 0, .string ⟨#[]⟩])
  have q5 := Lib.hid (q4.more (.cells #[.int .i64 0, .int .i64 0, .int .i64 0, .string ⟨#[]⟩] 40))
  have B5 := Lib.hid (B4.alloc B4.size (.cells #[.int .i64 0, .int .i64 0, .int .i64 0, .string ⟨#[]⟩] 40))
  have C5 := Lib.hid (SV.out _ _ _ _ q5.out B5.out.size)
  clear b4 q4 N4 B4 bS N3 q3 B3 C3 SV
  go_wp2_with fail
  refine C5.out.mono ?_
  rintro e w6 ⟨rfl, q6, k6, b6, s6⟩
  have N6 := Lib.hid (show Blk w6 w2.heap.size 33 #[.int .i64 0, .int .i64 (-1)] from (s6 _ (.inl (.inr rfl))).trans N5.out)
  have M6 := Lib.hid (show Blk w6 w4.heap.size 40 #[.int .i64 0, .int .i64 0, .int .i64 0, .string ⟨#[]⟩] from (s6 _ (.inr rfl)).trans M5.out)
  have B6 := Lib.hid (B5.out.trans b6)
  have C6 := Lib.hid (L3.out _ _ _ q6.dsk)
  clear q6 k6 b6 s6 N5 M5 q5 B5 C5 L3
  generalize w2.heap.size = Yv at *
  generalize w4.heap.size = Ys at *
  go_wp2_with fail
  refine C6.out.mono ?_
  rintro e w7 ⟨rfl, b7⟩
  have N7 := N6.out.below b7 N6.out.lt
  have B7 := Lib.hid (B6.out.trans (b7.mono B6.out.size))
  clear b7 N6 M6 B6 C6
  have h7 : Yv < w7.heap.size := N7.lt
  have c0 : w7.cell? ⟨Yv, 0, none⟩ = some (.int .i64 0) := N7.cell 0
  have c1 : w7.cell? ⟨Yv, 1, none⟩ = some (.int .i64 (-1)) := N7.cell 1
  clear N7
  go_wp2_with fail
  go_ret
  exact ⟨rfl, B7.out.alloc B7.out.size _⟩
end Go.Proofs.YthnnenhpcceckaaGreat
