/-
  THE DOCUMENT'S OWN TAPE: its calls.
-/
import Derived.Test.YtgenefamhhncbaaBRef
import Derived.Test.YtgenefamhhncbaaBMeths
namespace Go.Proofs.Ytgenefamhhncbaa.Bt
open Go.RowKit Go.Sort
/-- a tape of the document, and what it answers -/
def tp (s : ByteArray) (e : Int) : Value := .agg #[.string s, .int .i64 e]
def rv {α : Type} (x : α × ByteArray × Int) (v : Value) : Value := .tuple #[.agg #[.string x.2.1, .int .i64 x.2.2], v]
theorem extract_all (s : ByteArray) : s.extract 0 s.size = s := bytes_ext (by rw [Lib.extract_data, List.drop_zero, Nat.sub_zero, List.take_of_length_le (by rw [← Lib.size_eq]; exact Nat.le_refl _)])
/-- a tape of the document in memory -/
def BoxAt (w : World) (b : Nat) (s : ByteArray) (e : Int) : Prop := w.heap[b]? = some (.cells #[.string s, .int .i64 e] 78 (0, 0))
section
variable {w w' : World} {b : Nat} {s s' : ByteArray} {e e' : Int}
theorem BoxAt.lt (h : BoxAt w b s e) : b < w.heap.size := (Array.getElem?_eq_some_iff.1 h).1
theorem BoxAt.c0 (h : BoxAt w b s e) : w.cell? ⟨b, 0, none⟩ = some (.string s) := by unfold BoxAt at h; simp [World.cell?, h]
theorem BoxAt.c1 (h : BoxAt w b s e) : w.cell? ⟨b, 1, none⟩ = some (.int .i64 e) := by unfold BoxAt at h; simp [World.cell?, h]
theorem BoxAt.f (h : BoxAt w b s e) (o : Nat) : w.frozen? ⟨b, o, none⟩ = false := by unfold BoxAt at h; simp [World.frozen?, h]
theorem BoxAt.next (h : BoxAt w b s e) (hb : Below w.heap.size w w') : BoxAt w' b s e := by
  have := h.lt
  unfold BoxAt at *
  rw [hb.block b this]; exact h
theorem BoxAt.set (h : BoxAt w b s e) : BoxAt ((w.setCell ⟨b, 0, none⟩ (.string s')).setCell ⟨b, 1, none⟩ (.int .i64 e')) b s' e' := by
  unfold BoxAt at *; simp [World.setCell, Array.getElem?_modify, h]
theorem BoxAt.alloc (h : BoxAt w b s e) (o : Obj) : BoxAt (w.alloc o) b s e := h.next ((Below.refl _ _).alloc (Nat.le_refl _) o)
theorem box_new (w : World) (s : ByteArray) (e : Int) : BoxAt (w.alloc (.cells #[.string s, .int .i64 e] 78)) w.heap.size s e := by
  unfold BoxAt; simp [World.alloc, -World.alloc_eq]
theorem box_new1 (w : World) (o : Obj) (s : ByteArray) (e : Int) : BoxAt ((w.alloc o).alloc (.cells #[.string s, .int .i64 e] 78)) (w.heap.size + 1) s e := by
  have h := box_new (w.alloc o) s e
  have hz : (w.alloc o).heap.size = w.heap.size + 1 := by simp [World.alloc, -World.alloc_eq]
  rwa [hz] at h
end
theorem end_box {w W : World} {b : Nat} {s0 : ByteArray} {e0 : Int} (hB : BoxAt W b s0 e0) (hb : Below w.heap.size w W) (hge : w.heap.size ≤ b) (s' : ByteArray) (e' : Int) :
    ∃ w2, w2 = (W.setCell ⟨b, 0, none⟩ (.string s')).setCell ⟨b, 1, none⟩ (.int .i64 e') ∧ w2.cell? ⟨b, 0, none⟩ = some (.string s') ∧ w2.cell? ⟨b, 1, none⟩ = some (.int .i64 e') ∧ Below w.heap.size w w2 :=
  ⟨_, rfl, hB.set.c0, hB.set.c1, (hb.setCell (p := ⟨b, 0, none⟩) hge (.string s')).setCell (p := ⟨b, 1, none⟩) hge (.int .i64 e')⟩
theorem rnumT_any (s : ByteArray) (e : Int) (hs : s.size ≤ 281474976710656) (w : World) :
    Calls Try.prog 45 #[.agg #[.string s, .int .i64 e]] w fun r w' => r = .returned (rv (tNum s e) (vNum (tNum s e))) ∧ Below w.heap.size w w' := by
  by_cases he : e = 0
  · subst he
    have HA := Lib.hid (ahead_any s hs)
    have hf := rdNum_facts s.data.toList
    rw [← Lib.size_eq] at hf
    unfold tNum
    rcases hR : rdNum s.data.toList with ⟨N, K, E⟩
    rw [hR] at HA hf
    simp only at hf
    have hk := hf.2.1
    unfold aheadV at HA
    go_enter Try.func45, Try.ntmps45
    go_wp2_with fail
    refine (HA.out _).mono ?_
    rintro r w1 ⟨rfl, b1⟩
    have B1 := ((box_new w s 0).alloc (.cells #[.string ⟨#[]⟩, .int .i64 0] 78)).next b1
    have B2 := (box_new1 w (.cells #[.string s, .int .i64 0] 78) ⟨#[]⟩ 0).next b1
    have x0 := B1.c0
    have x1 := B1.c1
    have y0 := B2.c0
    have y1 := B2.c1
    have yf0 := B2.f 0
    have yf1 := B2.f 1
    have bb : Below w.heap.size w w1 := (((Below.refl _ w).alloc (Nat.le_refl _) _).alloc (by simp) _).trans (b1.mono (by simp; omega))
    clear b1
    go_wp2_with fail
    obtain ⟨w2, hw2, z0, z1, b3⟩ := end_box B2 bb (by omega) (s.extract K s.size) E
    rw [← hw2]
    refine bodyPost_ret (by simp [results, Try.results45, go_sem, z0, z1]; try rfl) rfl ?_
    refine ⟨?_, b3⟩
    rcases hf.2.2 with rfl | ⟨rfl, rfl, rfl⟩ | ⟨rfl, rfl, rfl⟩
    · rw [tk_ok]; rfl
    · rw [tk_bad _ _ _ _ (by decide), extract_all]; rfl
    · rw [tk_bad _ _ _ _ (by decide), extract_all]; rfl
  · have heb : (e != 0) = true := by simp [he]
    have ht := Lib.hid (tk_stays 0 s (rdNum s.data.toList) he)
    go_enter Try.func45, Try.ntmps45
    go_wp2_with fail
    go_returns
    unfold tNum
    rw [ht.out]
    exact ⟨rfl, ((Below.refl _ w).alloc (Nat.le_refl _) _).alloc (by simp) _⟩
theorem tInt_of (s : ByteArray) (e : Int) : tInt s e = (unz (tNum s e).1, (tNum s e).2) := by
  unfold tInt tNum tk rdInt
  split
  · simp [unz]
  · dsimp only
    split
    · simp [unz]
    · rfl
theorem tNum_lt (s : ByteArray) (e : Int) : (tNum s e).1 < 18446744073709551616 := by
  have hf := (rdNum_facts s.data.toList).1
  unfold tNum tk
  split
  · exact (by decide : (0 : Nat) < 18446744073709551616)
  · split
    · exact (by decide : (0 : Nat) < 18446744073709551616)
    · exact hf
set_option maxHeartbeats 1000000 in
theorem rintT_any (s : ByteArray) (e : Int) (hs : s.size ≤ 281474976710656) (w : World) :
    Calls Try.prog 48 #[.agg #[.string s, .int .i64 e]] w fun r w' => r = .returned (rv (tInt s e) (vInt (tInt s e))) ∧ Below w.heap.size w w' := by
  have HA := Lib.hid (rnumT_any s e hs)
  have hl := tNum_lt s e
  rw [tInt_of]
  rcases hT : tNum s e with ⟨N, s', e'⟩
  rw [hT] at HA hl
  clear hT
  unfold rv vNum at HA
  simp only at HA hl
  by_cases hn : N % 2 = 0
  · have hn2 : (N : Int) % 2 = 0 := by omega
    have hu : Hid (unz N = (N : Int) / 2) := by unfold Hid unz; rw [if_pos hn]; omega
    go_enter Try.func48, Try.ntmps48
    go_wp2_with fail
    refine (HA.out _).mono ?_
    rintro r w1 ⟨rfl, b1⟩
    have B1 := ((box_new w s e).alloc (.cells #[.string ⟨#[]⟩, .int .i64 0] 78)).next b1
    have B2 := (box_new1 w (.cells #[.string s, .int .i64 e] 78) ⟨#[]⟩ 0).next b1
    have bb : Below w.heap.size w w1 := (((Below.refl _ w).alloc (Nat.le_refl _) _).alloc (by simp) _).trans (b1.mono (by simp; omega))
    clear b1
    have B4 := B2.alloc (.cells #[.string s', .int .i64 e'] 78)
    have y0 := B4.c0
    have y1 := B4.c1
    have yf0 := B4.f 0
    have yf1 := B4.f 1
    go_wp2_with fail
    obtain ⟨w2, hw2, z0, z1, b3⟩ := end_box B4 (bb.alloc bb.size _) (by omega) s' e'
    rw [← hw2]
    refine bodyPost_ret (by simp [results, Try.results48, go_sem, z0, z1]; try rfl) rfl ?_
    refine ⟨?_, b3⟩
    unfold rv vInt
    simp only [hu.out]
  · have hn2 : ¬ (N : Int) % 2 = 0 := by omega
    have hn3 : (N : Int) % 2 = 1 := by omega
    have hu : Hid (unz N = -((N : Int) / 2) - 1) := by unfold Hid unz; rw [if_neg hn]; omega
    go_enter Try.func48, Try.ntmps48
    go_wp2_with fail
    refine (HA.out _).mono ?_
    rintro r w1 ⟨rfl, b1⟩
    have B1 := ((box_new w s e).alloc (.cells #[.string ⟨#[]⟩, .int .i64 0] 78)).next b1
    have B2 := (box_new1 w (.cells #[.string s, .int .i64 e] 78) ⟨#[]⟩ 0).next b1
    have bb : Below w.heap.size w w1 := (((Below.refl _ w).alloc (Nat.le_refl _) _).alloc (by simp) _).trans (b1.mono (by simp; omega))
    clear b1
    have B4 := B2.alloc (.cells #[.string s', .int .i64 e'] 78)
    have y0 := B4.c0
    have y1 := B4.c1
    have yf0 := B4.f 0
    have yf1 := B4.f 1
    go_wp2_with fail
    obtain ⟨w2, hw2, z0, z1, b3⟩ := end_box B4 (bb.alloc bb.size _) (by omega) s' e'
    rw [← hw2]
    refine bodyPost_ret (by simp [results, Try.results48, go_sem, z0, z1]; try rfl) rfl ?_
    refine ⟨?_, b3⟩
    unfold rv vInt
    simp only [hu.out]
/-- a real number -/
theorem take8_next (s : ByteArray) (j : Nat) (h : j < s.size) : joinN (s.data.toList.take (j + 1)) = joinN (s.data.toList.take j) * 256 + s[j].toNat := by
  have hl : j < s.data.toList.length := by rw [← Lib.size_eq]; exact h
  rw [List.take_succ_eq_append_getElem hl, joinN_snoc]
  rfl
set_option maxHeartbeats 2000000 in
theorem rrealT_any (s : ByteArray) (e : Int) (hs : s.size ≤ 281474976710656) (w : World) :
    Calls Try.prog 49 #[.agg #[.string s, .int .i64 e]] w fun r w' => r = .returned (rv (tReal s e) (vReal (tReal s e))) ∧ Below w.heap.size w w' := by
  have hfb := run_frombits
  by_cases he : e = 0
  · subst he
    unfold tReal
    by_cases h8 : s.size < 8
    · have hR : rdReal s.data.toList = (0, 0, 5) := by unfold rdReal; rw [if_pos (by rw [← Lib.size_eq]; exact h8)]
      rw [hR, tk_bad _ _ _ _ (by decide)]
      go_enter Try.func49, Try.ntmps49
      go_wp2_with fail
      go_returns
      exact ⟨rfl, ((Below.refl _ w).alloc (Nat.le_refl _) _).alloc (by simp) _⟩
    · have hR : rdReal s.data.toList = if codeN (joinN (s.data.toList.take 8)) ≠ joinN (s.data.toList.take 8) then (0, 0, 3) else (joinN (s.data.toList.take 8), 8, 0) := by unfold rdReal; rw [if_neg (by rw [← Lib.size_eq]; exact h8)]
      have HR := Lib.hid hR
      clear hR
      go_enter Try.func49, Try.ntmps49
      go_wp2_with fail
      go_loop [4, 5] (fun n i => ∃ j : Nat, i = .int .i64 (j : Int) ∧ j ≤ 8 ∧ n = .int .u64 (joinN (s.data.toList.take j) : Nat)) (fun _ i => 8 - (intOf i).toNat)
      case atStart => exact ⟨0, rfl, by omega, rfl⟩
      case round =>
        obtain ⟨j, rfl, hj, rfl⟩ := hrel
        by_cases hlt : j < 8
        · have hix : j < s.size := by omega
          have hnx := Lib.hid (take8_next s j hix)
          have hJ2 := joinN_u64 (s.data.toList.take (j + 1)) (by rw [List.length_take]; omega)
          rw [take8_next s j hix] at hJ2
          have hbj := s[j].toNat_lt
          generalize joinN (s.data.toList.take j) = J at *
          have hki : (j : Int) < 8 := by omega
          go_wp2_with fail
          exact ⟨⟨j + 1, by go_num, by omega, by rw [hnx.out]; exact congrArg (Value.int .u64) (by omega)⟩, by simp [intOf]; omega⟩
        · obtain rfl : j = 8 := by omega
          have hJ := joinN_u64 (s.data.toList.take 8) (by rw [List.length_take]; omega)
          generalize joinN (s.data.toList.take 8) = J at *
          by_cases hc : codeN J = J
          · have hcb : (((codeN J : Nat) : Int) != (J : Int)) = false := by rw [hc]; simp
            have HR2 := HR.out
            rw [if_neg (by simpa using hc)] at HR2
            have HR3 := Lib.hid HR2
            clear HR2 HR hc
            go_wp2_with fail
            refine (rbits_any _ _).mono ?_
            rintro r w1 ⟨rfl, rfl⟩
            go_wp2_with fail
            go_returns
            rw [HR3.out, tk_ok]
            exact ⟨rfl, ((Below.refl _ w).alloc (Nat.le_refl _) _).alloc (by simp) _⟩
          · have hcb : (((codeN J : Nat) : Int) != (J : Int)) = true := by simpa using (by omega : ((codeN J : Nat) : Int) ≠ (J : Int))
            have HR2 := HR.out
            rw [if_pos hc] at HR2
            have HR3 := Lib.hid HR2
            clear HR2 HR hc
            go_wp2_with fail
            refine (rbits_any _ _).mono ?_
            rintro r w1 ⟨rfl, rfl⟩
            go_wp2_with fail
            go_returns
            rw [HR3.out, tk_bad _ _ _ _ (by decide)]
            exact ⟨rfl, ((Below.refl _ w).alloc (Nat.le_refl _) _).alloc (by simp) _⟩
  · have heb : (e != 0) = true := by simp [he]
    have ht := Lib.hid (tk_stays 0 s (rdReal s.data.toList) he)
    go_enter Try.func49, Try.ntmps49
    go_wp2_with fail
    go_returns
    unfold tReal
    rw [ht.out]
    exact ⟨rfl, ((Below.refl _ w).alloc (Nat.le_refl _) _).alloc (by simp) _⟩
end Go.Proofs.Ytgenefamhhncbaa.Bt
