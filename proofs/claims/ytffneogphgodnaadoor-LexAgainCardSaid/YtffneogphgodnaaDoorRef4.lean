/-
  THE DOCUMENT's number.
-/
import Derived.Test.YtffneogphgodnaaDoorRef1
import Derived.Test.YtffneogphgodnaaDoorRef3
import Derived.Deep.DeepCutAuto
import Derived.Deep.CutBlock
import Derived.Outline
namespace Go.Proofs.YtffneogphgodnaaDoor
open Go.RowKit
/-- behind the sign -/
def NumBeg (s : ByteArray) (a : Nat) (w0 : World) (i : Value) (wx : World) : Prop := w0 = wx ∧ ∃ (f : Nat) (neg : Bool), i = .int .i64 f ∧ Fr s a f neg ∧ f ≤ s.size ∧ ((neg = true ∧ f = a + 1) ∨ (neg = false ∧ f = a))
/-- behind the loop -/
def NumEnd (s : ByteArray) (f : Nat) (w0 : World) (i q : Value) (wx : World) : Prop := w0 = wx ∧ ∃ (k : Nat), i = .int .i64 (f + k : Nat) ∧ q = .int .i64 (num18 s f k) ∧ f + k ≤ s.size ∧ spanN digB (bl (rst s f)) = k ∧ num18 s f k < 1000000000000000000
set_option maxHeartbeats 16000000 in
set_option maxRecDepth 100000 in
/-- the document's number, from a digit or a minus at a on -/
theorem rnumber_any (s : ByteArray) (a : Nat) (ha : a < s.size) (hs : s.size ≤ 4096) (w : World) : Calls Tryd.prog 34 #[.string s, .int .i64 a] w (Ond w s a (numT (rst s a))) := by
  generalize hy : w.heap.size = Y at *
  obtain ⟨w0, hw0, N0, B0⟩ : ∃ w0, w0 = w.alloc (.cells #[.int .i64 0, .int .i64 0, .string ⟨#[]⟩, .int .i64 0, .string ⟨#[]⟩] 39) ∧ Blk w0 Y 39 #[.int .i64 0, .int .i64 0, .string ⟨#[]⟩, .int .i64 0, .string ⟨#[]⟩] ∧ Below Y w w0 :=
    ⟨_, rfl, by rw [← hy]; exact Blk.new w 39 _, by rw [← hy]; exact (Below.refl _ _).alloc (Nat.le_refl _) _⟩
  have W0 := Lib.hid hw0
  have N0h := Lib.hid N0
  have B0h := Lib.hid B0
  clear hw0 N0 B0
  go_enter Tryd.func34, Tryd.ntmps34
  go_upto_if 13 with fail
  rw [← W0.out]
  go_cut [6] from 14 to 15 (fun i wx => NumBeg s a w0 i wx)
  case first =>
    by_cases h45 : (s[a].toNat : Int) = 45
    · have BE : Hid (NumBeg s a w0 (.int .i64 (a + 1 : Nat)) w0) := Lib.hid ⟨rfl, a + 1, true, rfl, fr_neg ha h45, ha, .inl ⟨rfl, rfl⟩⟩
      have h45' : ((s[a].toNat : Int) == 45) = true := by simpa using h45
      clear h45
      go_wp2_with fail
      go_meet
      exact BE.out
    · have BE : Hid (NumBeg s a w0 (.int .i64 a) w0) := Lib.hid ⟨rfl, a, false, rfl, fr_pos ha h45, Nat.le_of_lt ha, .inr ⟨rfl, rfl⟩⟩
      have h45' : ((s[a].toNat : Int) == 45) = false := by simpa using h45
      clear h45
      go_wp2_with fail
      go_meet
      exact BE.out
  case rest =>
    obtain ⟨rfl, f, neg, rfl, F, hf, hfa⟩ := hcut
    have Fh := Lib.hid F
    have HFA := Lib.hid hfa
    have hfa2 : f ≤ a + 1 ∧ a ≤ f := by omega
    clear F hfa W0
    go_upto_block 0 with fail
    go_cut [7, 8] from 17 to 40 (fun i q wx => NumEnd s f w0 i q wx)
    case first =>
      go_wp2_with fail
      go_loop [7, 8] (fun i q => ∃ (k : Nat), i = .int .i64 (f + k : Nat) ∧ q = .int .i64 (num18 s f k) ∧ f + k ≤ s.size ∧ Hid (∀ j, j < k → ∀ h : f + j < s.size, digB (s[f + j].toNat : Int) = true)) (fun i _ => s.size - (intOf i).toNat)
      case atStart => exact ⟨0, rfl, by rw [num18_0]; rfl, hf, Lib.hid (fun j hj => absurd hj (Nat.not_lt_zero j))⟩
      case round =>
        obtain ⟨k, rfl, rfl, hk, hall⟩ := hrel
        have BE : Hid (spanN digB (bl (rst s f)) = k → NumEnd s f w0 (.int .i64 (f + k : Nat)) (.int .i64 (num18 s f k)) w0) := Lib.hid (fun h => ⟨rfl, k, rfl, rfl, hk, h, num18_18 hk hall.out⟩)
        by_cases hks : f + k < s.size
        · have E0 := Lib.hid (fun h => span_at_stop (p := digB) hks hall.out h)
          have E1 := Lib.hid (fun h => all_next (p := digB) hks hall.out h)
          have N17 := Lib.hid (fun h => num18_17 (s := s) (f := f) hk h hall.out)
          have NLO := Lib.hid (fun h => num18_lo (s := s) (f := f) (k := k) hks h)
          have NHI := Lib.hid (fun h => num18_hi s (f := f) (k := k) h)
          have hD : ∀ c : Int, digB c = (decide (48 ≤ c) && decide (c ≤ 57)) := fun _ => rfl
          have HDc := Lib.hid (hD (s[f + k].toNat : Int))
          clear hD
          obtain ⟨N1, hN1e⟩ : ∃ N1, num18 s f (k + 1) = N1 := ⟨_, rfl⟩
          rw [hN1e] at NLO NHI
          have NE1 := Lib.hid hN1e
          clear hN1e
          generalize num18 s f k = N at *
          have hzf : ((f + k : Nat) : Int) - (f : Int) = (k : Int) := by omega
          generalize hz : f + k = z at *
          have HZ := Lib.hid hz
          clear hz
          obtain ⟨m, hm⟩ : ∃ m, s[z].toNat = m := ⟨_, rfl⟩
          rw [hm] at NLO
          have hc : (s[z].toNat : Int) = (m : Int) := by rw [hm]
          rw [hc] at E0 E1 HDc
          clear hm
          have DGc := Lib.hid (rdigit_any (m : Int))
          generalize hd : digB (m : Int) = dB at *
          cases dB
          · have SP := Lib.hid (BE.out (E0.out rfl))
            clear E0 E1 BE NLO NHI N17 HDc hzf hd
            go_wp2_with fail
            refine (DGc.out _).mono ?_
            rintro e wq ⟨rfl, rfl⟩
            go_wp2_with fail
            go_meet
            exact SP.out
          · have E := Lib.hid (E1.out rfl)
            have hm2 := HDc.out.symm
            rw [Bool.and_eq_true, decide_eq_true_eq, decide_eq_true_eq] at hm2
            by_cases h18 : k < 18
            · have hN := N17.out h18
              have hN1 := NLO.out h18
              have q1 : IntKind.i64.wrap ((z : Int) - (f : Int)) = (k : Int) := by rw [hzf]; exact IntWalk.i64_in _ (by omega)
              have h18' : decide ((k : Int) < 18) = true := by simp; omega
              have q2 : IntKind.i64.wrap (10 * (N : Int)) = 10 * (N : Int) := IntWalk.i64_in _ (by omega)
              have q3 : IntKind.i64.wrap (10 * (N : Int) + (m : Int)) = 10 * (N : Int) + (m : Int) := IntWalk.i64_in _ (by omega)
              have q4 : IntKind.i64.wrap (10 * (N : Int) + (m : Int) - 48) = (N1 : Int) := by rw [show 10 * (N : Int) + (m : Int) - 48 = (N1 : Int) by omega]; exact IntWalk.i64_in _ (by omega)
              have q5 : IntKind.i64.wrap (m : Int) = (m : Int) := IntWalk.i64_in _ (by omega)
              clear E0 E1 BE NLO NHI N17 HDc hzf hd hN hN1 hm2
              have HH := Lib.hid h18
              clear h18
              go_wp2_with fail
              refine (DGc.out _).mono ?_
              rintro e wq ⟨rfl, rfl⟩
              go_wp2_with fail
              go_round
              case rel => exact ⟨k + 1, by rw [← HZ.out]; go_num, by rw [NE1.out], by have := HZ.out; omega, E⟩
              case measure => simp [intOf]; omega
            · have hN1 := NHI.out (by omega)
              have q1 : IntKind.i64.wrap ((z : Int) - (f : Int)) = (k : Int) := by rw [hzf]; exact IntWalk.i64_in _ (by omega)
              have h18' : decide ((k : Int) < 18) = false := by simp; omega
              clear E0 E1 BE NLO NHI N17 HDc hzf hd hm2 h18
              have HN1 := Lib.hid hN1
              clear hN1
              go_wp2_with fail
              refine (DGc.out _).mono ?_
              rintro e wq ⟨rfl, rfl⟩
              go_wp2_with fail
              go_round
              case rel => exact ⟨k + 1, by rw [← HZ.out]; go_num, by rw [NE1.out, HN1.out], by have := HZ.out; omega, E⟩
              case measure => simp [intOf]; omega
        · have SP := Lib.hid (BE.out (span_at_all (p := digB) (by omega) hall.out))
          clear hall BE
          generalize num18 s f k = N at *
          go_wp2_with fail
          go_meet
          exact SP.out
    case rest =>
      obtain ⟨rfl, k, rfl, rfl, hk, hsp, hN⟩ := hcut
      have NO := Lib.hid (fun h => nm_no (k := k) Fh.out hsp h)
      have OKh := Lib.hid (fun h1 h18 hz => nm_ok (k := k) Fh.out hsp h1 h18 hz)
      have hE : k ≤ 18 → decN ((bl (rst s f)).take k) = num18 s f k := fun h => num18_ok h
      have HEh := Lib.hid hE
      clear hE hsp Fh
      generalize num18 s f k = N at *
      have hzf : ((f + k : Nat) : Int) - (f : Int) = (k : Int) := by omega
      have q1 : IntKind.i64.wrap (((f + k : Nat) : Int) - (f : Int)) = (k : Int) := by rw [hzf]; exact IntWalk.i64_in _ (by omega)
      by_cases h0 : k = 0
      · have d1 : (((f + k : Nat) : Int) == (f : Int)) = true := by simp; omega
        generalize hz : f + k = z at *
        clear hzf
        have RES := Lib.hid (NO.out (.inl h0))
        clear NO OKh
        obtain ⟨w5, hw5, N5, B5⟩ : ∃ w5, w5 = ((((w0.setCell ⟨Y, 0, none⟩ (.int .i64 0)).setCell ⟨Y, 1, none⟩ (.int .i64 0)).setCell ⟨Y, 2, none⟩ (.string ⟨#[]⟩)).setCell ⟨Y, 3, none⟩ (.int .i64 0)).setCell ⟨Y, 4, none⟩ (.string ⟨#[]⟩) ∧ Blk w5 Y 39 #[.int .i64 0, .int .i64 0, .string ⟨#[]⟩, .int .i64 0, .string ⟨#[]⟩] ∧ Below Y w w5 :=
          ⟨_, rfl, ((((N0h.out.set 0 _).set 1 _).set 2 _).set 3 _).set 4 _, ((((B0h.out.setCell (p := ⟨Y, 0, none⟩) (Nat.le_refl _) _).setCell (p := ⟨Y, 1, none⟩) (Nat.le_refl _) _).setCell (p := ⟨Y, 2, none⟩) (Nat.le_refl _) _).setCell (p := ⟨Y, 3, none⟩) (Nat.le_refl _) _).setCell (p := ⟨Y, 4, none⟩) (Nat.le_refl _) _⟩
        have W5 := Lib.hid hw5
        have N5h := Lib.hid N5
        have B5h := Lib.hid B5
        clear hw5 N5 B5
        go_upto_region 11 with fail
        have z0 := N0h.out.cell 0
        have f0 := N0h.out.free 0
        have z1 := N0h.out.cell 1
        have f1 := N0h.out.free 1
        have z2 := N0h.out.cell 2
        have f2 := N0h.out.free 2
        have z3 := N0h.out.cell 3
        have f3 := N0h.out.free 3
        have z4 := N0h.out.cell 4
        have f4 := N0h.out.free 4
        go_wp2_with fail
        rw [← W5.out]
        have y0 := N5h.out.cell 0
        have y1 := N5h.out.cell 1
        have y2 := N5h.out.cell 2
        have y3 := N5h.out.cell 3
        have y4 := N5h.out.cell 4
        refine bodyPost_ret (by simp [results, Tryd.results34, go_sem, y0, y1, y2, y3, y4]; try rfl) rfl ?_
        exact ond_no RES.out (by rw [hy]; exact B5h.out)
      by_cases h18 : 18 < k
      · have d1 : (((f + k : Nat) : Int) == (f : Int)) = false := by simp; omega
        have d2 : decide (18 < (k : Int)) = true := by simp; omega
        generalize hz : f + k = z at *
        clear hzf
        have RES := Lib.hid (NO.out (.inr (.inl h18)))
        clear NO OKh
        obtain ⟨w5, hw5, N5, B5⟩ : ∃ w5, w5 = ((((w0.setCell ⟨Y, 0, none⟩ (.int .i64 0)).setCell ⟨Y, 1, none⟩ (.int .i64 0)).setCell ⟨Y, 2, none⟩ (.string ⟨#[]⟩)).setCell ⟨Y, 3, none⟩ (.int .i64 0)).setCell ⟨Y, 4, none⟩ (.string ⟨#[]⟩) ∧ Blk w5 Y 39 #[.int .i64 0, .int .i64 0, .string ⟨#[]⟩, .int .i64 0, .string ⟨#[]⟩] ∧ Below Y w w5 :=
          ⟨_, rfl, ((((N0h.out.set 0 _).set 1 _).set 2 _).set 3 _).set 4 _, ((((B0h.out.setCell (p := ⟨Y, 0, none⟩) (Nat.le_refl _) _).setCell (p := ⟨Y, 1, none⟩) (Nat.le_refl _) _).setCell (p := ⟨Y, 2, none⟩) (Nat.le_refl _) _).setCell (p := ⟨Y, 3, none⟩) (Nat.le_refl _) _).setCell (p := ⟨Y, 4, none⟩) (Nat.le_refl _) _⟩
        have W5 := Lib.hid hw5
        have N5h := Lib.hid N5
        have B5h := Lib.hid B5
        clear hw5 N5 B5
        go_upto_region 11 with fail
        have z0 := N0h.out.cell 0
        have f0 := N0h.out.free 0
        have z1 := N0h.out.cell 1
        have f1 := N0h.out.free 1
        have z2 := N0h.out.cell 2
        have f2 := N0h.out.free 2
        have z3 := N0h.out.cell 3
        have f3 := N0h.out.free 3
        have z4 := N0h.out.cell 4
        have f4 := N0h.out.free 4
        go_wp2_with fail
        rw [← W5.out]
        have y0 := N5h.out.cell 0
        have y1 := N5h.out.cell 1
        have y2 := N5h.out.cell 2
        have y3 := N5h.out.cell 3
        have y4 := N5h.out.cell 4
        refine bodyPost_ret (by simp [results, Tryd.results34, go_sem, y0, y1, y2, y3, y4]; try rfl) rfl ?_
        exact ond_no RES.out (by rw [hy]; exact B5h.out)
      have hfz : f < s.size := by omega
      have d1 : (((f + k : Nat) : Int) == (f : Int)) = false := by simp; omega
      have d2 : decide (18 < (k : Int)) = false := by simp; omega
      by_cases h48 : (s[f].toNat : Int) = 48
      · have d3 : ((s[f].toNat : Int) == 48) = true := by simpa using h48
        by_cases h1 : 1 < k
        · have d4 : decide (1 < (k : Int)) = true := by simp; omega
          generalize hz : f + k = z at *
          clear hzf
          have RES := Lib.hid (NO.out (.inr (.inr ⟨h1, hfz, h48⟩)))
          clear NO OKh h48 HEh
          obtain ⟨w5, hw5, N5, B5⟩ : ∃ w5, w5 = ((((w0.setCell ⟨Y, 0, none⟩ (.int .i64 0)).setCell ⟨Y, 1, none⟩ (.int .i64 0)).setCell ⟨Y, 2, none⟩ (.string ⟨#[]⟩)).setCell ⟨Y, 3, none⟩ (.int .i64 0)).setCell ⟨Y, 4, none⟩ (.string ⟨#[]⟩) ∧ Blk w5 Y 39 #[.int .i64 0, .int .i64 0, .string ⟨#[]⟩, .int .i64 0, .string ⟨#[]⟩] ∧ Below Y w w5 :=
            ⟨_, rfl, ((((N0h.out.set 0 _).set 1 _).set 2 _).set 3 _).set 4 _, ((((B0h.out.setCell (p := ⟨Y, 0, none⟩) (Nat.le_refl _) _).setCell (p := ⟨Y, 1, none⟩) (Nat.le_refl _) _).setCell (p := ⟨Y, 2, none⟩) (Nat.le_refl _) _).setCell (p := ⟨Y, 3, none⟩) (Nat.le_refl _) _).setCell (p := ⟨Y, 4, none⟩) (Nat.le_refl _) _⟩
          have W5 := Lib.hid hw5
          have N5h := Lib.hid N5
          have B5h := Lib.hid B5
          clear hw5 N5 B5
          go_upto_region 11 with fail
          have z0 := N0h.out.cell 0
          have f0 := N0h.out.free 0
          have z1 := N0h.out.cell 1
          have f1 := N0h.out.free 1
          have z2 := N0h.out.cell 2
          have f2 := N0h.out.free 2
          have z3 := N0h.out.cell 3
          have f3 := N0h.out.free 3
          have z4 := N0h.out.cell 4
          have f4 := N0h.out.free 4
          go_wp2_with fail
          rw [← W5.out]
          have y0 := N5h.out.cell 0
          have y1 := N5h.out.cell 1
          have y2 := N5h.out.cell 2
          have y3 := N5h.out.cell 3
          have y4 := N5h.out.cell 4
          refine bodyPost_ret (by simp [results, Tryd.results34, go_sem, y0, y1, y2, y3, y4]; try rfl) rfl ?_
          exact ond_no RES.out (by rw [hy]; exact B5h.out)
        · have d4 : decide (1 < (k : Int)) = false := by simp; omega
          have RES := Lib.hid (OKh.out (by omega) (by omega) (.inl (by omega)))
          rw [HEh.out (by omega)] at RES
          clear NO OKh HEh h48
          generalize hz : f + k = z at *
          have HZ := Lib.hid (And.intro hz (And.intro h0 hk))
          clear hzf hz
          have HNb := Lib.hid hN
          clear hN
          rcases HFA.out with ⟨hn, hf1⟩ | ⟨hn, hf1⟩
          · rw [hn] at RES
            have d5 : decide (a < f) = true := by simp; omega
            have d6 : a < f := by omega
            have hza : a ≤ z := by have := HZ.out; omega
            clear HFA hn hf1
            obtain ⟨w5, hw5, N5, B5⟩ : ∃ w5, w5 = ((((w0.setCell ⟨Y, 0, none⟩ (.int .i64 2)).setCell ⟨Y, 1, none⟩ (.int .i64 a)).setCell ⟨Y, 2, none⟩ (.string (s.extract a z))).setCell ⟨Y, 3, none⟩ (.int .i64 (wrap64 (-(N : Int))))).setCell ⟨Y, 4, none⟩ (.string ⟨#[]⟩) ∧ Blk w5 Y 39 #[.int .i64 2, .int .i64 a, .string (s.extract a z), .int .i64 (wrap64 (-(N : Int))), .string ⟨#[]⟩] ∧ Below Y w w5 :=
              ⟨_, rfl, ((((N0h.out.set 0 _).set 1 _).set 2 _).set 3 _).set 4 _, ((((B0h.out.setCell (p := ⟨Y, 0, none⟩) (Nat.le_refl _) _).setCell (p := ⟨Y, 1, none⟩) (Nat.le_refl _) _).setCell (p := ⟨Y, 2, none⟩) (Nat.le_refl _) _).setCell (p := ⟨Y, 3, none⟩) (Nat.le_refl _) _).setCell (p := ⟨Y, 4, none⟩) (Nat.le_refl _) _⟩
            have W5 := Lib.hid hw5
            have N5h := Lib.hid N5
            have B5h := Lib.hid B5
            clear hw5 N5 B5
            go_upto_region 14 with fail
            have z0 := N0h.out.cell 0
            have f0 := N0h.out.free 0
            have z1 := N0h.out.cell 1
            have f1 := N0h.out.free 1
            have z2 := N0h.out.cell 2
            have f2 := N0h.out.free 2
            have z3 := N0h.out.cell 3
            have f3 := N0h.out.free 3
            have z4 := N0h.out.cell 4
            have f4 := N0h.out.free 4
            go_wp2_with fail
            rw [← W5.out]
            have y0 := N5h.out.cell 0
            have y1 := N5h.out.cell 1
            have y2 := N5h.out.cell 2
            have y3 := N5h.out.cell 3
            have y4 := N5h.out.cell 4
            refine bodyPost_ret (by simp [results, Tryd.results34, go_sem, y0, y1, y2, y3, y4]; try rfl) rfl ?_
            rw [RES.out]
            refine ond_ok (by simp; have := HZ.out; omega) ⟨rfl, rfl, ?_, ?_, rfl⟩ (by rw [hy]; exact B5h.out)
            · rw [rst_sub s a ((f - a) + k) (by have := HZ.out; omega), show a + ((f - a) + k) = z by have := HZ.out; omega]
            · rw [IntWalk.wrap64_in _ (by have := HNb.out; omega)]; rfl
          · rw [hn] at RES
            have d5 : decide (a < f) = false := by simp; omega
            have d6 : ¬ a < f := by omega
            have hza : a ≤ z := by have := HZ.out; omega
            clear HFA hn hf1
            obtain ⟨w5, hw5, N5, B5⟩ : ∃ w5, w5 = ((((w0.setCell ⟨Y, 0, none⟩ (.int .i64 2)).setCell ⟨Y, 1, none⟩ (.int .i64 a)).setCell ⟨Y, 2, none⟩ (.string (s.extract a z))).setCell ⟨Y, 3, none⟩ (.int .i64 N)).setCell ⟨Y, 4, none⟩ (.string ⟨#[]⟩) ∧ Blk w5 Y 39 #[.int .i64 2, .int .i64 a, .string (s.extract a z), .int .i64 N, .string ⟨#[]⟩] ∧ Below Y w w5 :=
              ⟨_, rfl, ((((N0h.out.set 0 _).set 1 _).set 2 _).set 3 _).set 4 _, ((((B0h.out.setCell (p := ⟨Y, 0, none⟩) (Nat.le_refl _) _).setCell (p := ⟨Y, 1, none⟩) (Nat.le_refl _) _).setCell (p := ⟨Y, 2, none⟩) (Nat.le_refl _) _).setCell (p := ⟨Y, 3, none⟩) (Nat.le_refl _) _).setCell (p := ⟨Y, 4, none⟩) (Nat.le_refl _) _⟩
            have W5 := Lib.hid hw5
            have N5h := Lib.hid N5
            have B5h := Lib.hid B5
            clear hw5 N5 B5
            go_upto_region 14 with fail
            have z0 := N0h.out.cell 0
            have f0 := N0h.out.free 0
            have z1 := N0h.out.cell 1
            have f1 := N0h.out.free 1
            have z2 := N0h.out.cell 2
            have f2 := N0h.out.free 2
            have z3 := N0h.out.cell 3
            have f3 := N0h.out.free 3
            have z4 := N0h.out.cell 4
            have f4 := N0h.out.free 4
            go_wp2_with fail
            rw [← W5.out]
            have y0 := N5h.out.cell 0
            have y1 := N5h.out.cell 1
            have y2 := N5h.out.cell 2
            have y3 := N5h.out.cell 3
            have y4 := N5h.out.cell 4
            refine bodyPost_ret (by simp [results, Tryd.results34, go_sem, y0, y1, y2, y3, y4]; try rfl) rfl ?_
            rw [RES.out]
            refine ond_ok (by simp; have := HZ.out; omega) ⟨rfl, rfl, ?_, ?_, rfl⟩ (by rw [hy]; exact B5h.out)
            · rw [rst_sub s a ((f - a) + k) (by have := HZ.out; omega), show a + ((f - a) + k) = z by have := HZ.out; omega]
            · exact rfl
      · have d3 : ((s[f].toNat : Int) == 48) = false := by simpa using h48
        have RES := Lib.hid (OKh.out (by omega) (by omega) (.inr ⟨hfz, h48⟩))
        rw [HEh.out (by omega)] at RES
        clear NO OKh HEh h48
        generalize hz : f + k = z at *
        have HZ := Lib.hid (And.intro hz (And.intro h0 hk))
        clear hzf hz
        have HNb := Lib.hid hN
        clear hN
        rcases HFA.out with ⟨hn, hf1⟩ | ⟨hn, hf1⟩
        · rw [hn] at RES
          have d5 : decide (a < f) = true := by simp; omega
          have d6 : a < f := by omega
          have hza : a ≤ z := by have := HZ.out; omega
          clear HFA hn hf1
          obtain ⟨w5, hw5, N5, B5⟩ : ∃ w5, w5 = ((((w0.setCell ⟨Y, 0, none⟩ (.int .i64 2)).setCell ⟨Y, 1, none⟩ (.int .i64 a)).setCell ⟨Y, 2, none⟩ (.string (s.extract a z))).setCell ⟨Y, 3, none⟩ (.int .i64 (wrap64 (-(N : Int))))).setCell ⟨Y, 4, none⟩ (.string ⟨#[]⟩) ∧ Blk w5 Y 39 #[.int .i64 2, .int .i64 a, .string (s.extract a z), .int .i64 (wrap64 (-(N : Int))), .string ⟨#[]⟩] ∧ Below Y w w5 :=
            ⟨_, rfl, ((((N0h.out.set 0 _).set 1 _).set 2 _).set 3 _).set 4 _, ((((B0h.out.setCell (p := ⟨Y, 0, none⟩) (Nat.le_refl _) _).setCell (p := ⟨Y, 1, none⟩) (Nat.le_refl _) _).setCell (p := ⟨Y, 2, none⟩) (Nat.le_refl _) _).setCell (p := ⟨Y, 3, none⟩) (Nat.le_refl _) _).setCell (p := ⟨Y, 4, none⟩) (Nat.le_refl _) _⟩
          have W5 := Lib.hid hw5
          have N5h := Lib.hid N5
          have B5h := Lib.hid B5
          clear hw5 N5 B5
          go_upto_region 14 with fail
          have z0 := N0h.out.cell 0
          have f0 := N0h.out.free 0
          have z1 := N0h.out.cell 1
          have f1 := N0h.out.free 1
          have z2 := N0h.out.cell 2
          have f2 := N0h.out.free 2
          have z3 := N0h.out.cell 3
          have f3 := N0h.out.free 3
          have z4 := N0h.out.cell 4
          have f4 := N0h.out.free 4
          go_wp2_with fail
          rw [← W5.out]
          have y0 := N5h.out.cell 0
          have y1 := N5h.out.cell 1
          have y2 := N5h.out.cell 2
          have y3 := N5h.out.cell 3
          have y4 := N5h.out.cell 4
          refine bodyPost_ret (by simp [results, Tryd.results34, go_sem, y0, y1, y2, y3, y4]; try rfl) rfl ?_
          rw [RES.out]
          refine ond_ok (by simp; have := HZ.out; omega) ⟨rfl, rfl, ?_, ?_, rfl⟩ (by rw [hy]; exact B5h.out)
          · rw [rst_sub s a ((f - a) + k) (by have := HZ.out; omega), show a + ((f - a) + k) = z by have := HZ.out; omega]
          · rw [IntWalk.wrap64_in _ (by have := HNb.out; omega)]; rfl
        · rw [hn] at RES
          have d5 : decide (a < f) = false := by simp; omega
          have d6 : ¬ a < f := by omega
          have hza : a ≤ z := by have := HZ.out; omega
          clear HFA hn hf1
          obtain ⟨w5, hw5, N5, B5⟩ : ∃ w5, w5 = ((((w0.setCell ⟨Y, 0, none⟩ (.int .i64 2)).setCell ⟨Y, 1, none⟩ (.int .i64 a)).setCell ⟨Y, 2, none⟩ (.string (s.extract a z))).setCell ⟨Y, 3, none⟩ (.int .i64 N)).setCell ⟨Y, 4, none⟩ (.string ⟨#[]⟩) ∧ Blk w5 Y 39 #[.int .i64 2, .int .i64 a, .string (s.extract a z), .int .i64 N, .string ⟨#[]⟩] ∧ Below Y w w5 :=
            ⟨_, rfl, ((((N0h.out.set 0 _).set 1 _).set 2 _).set 3 _).set 4 _, ((((B0h.out.setCell (p := ⟨Y, 0, none⟩) (Nat.le_refl _) _).setCell (p := ⟨Y, 1, none⟩) (Nat.le_refl _) _).setCell (p := ⟨Y, 2, none⟩) (Nat.le_refl _) _).setCell (p := ⟨Y, 3, none⟩) (Nat.le_refl _) _).setCell (p := ⟨Y, 4, none⟩) (Nat.le_refl _) _⟩
          have W5 := Lib.hid hw5
          have N5h := Lib.hid N5
          have B5h := Lib.hid B5
          clear hw5 N5 B5
          go_upto_region 14 with fail
          have z0 := N0h.out.cell 0
          have f0 := N0h.out.free 0
          have z1 := N0h.out.cell 1
          have f1 := N0h.out.free 1
          have z2 := N0h.out.cell 2
          have f2 := N0h.out.free 2
          have z3 := N0h.out.cell 3
          have f3 := N0h.out.free 3
          have z4 := N0h.out.cell 4
          have f4 := N0h.out.free 4
          go_wp2_with fail
          rw [← W5.out]
          have y0 := N5h.out.cell 0
          have y1 := N5h.out.cell 1
          have y2 := N5h.out.cell 2
          have y3 := N5h.out.cell 3
          have y4 := N5h.out.cell 4
          refine bodyPost_ret (by simp [results, Tryd.results34, go_sem, y0, y1, y2, y3, y4]; try rfl) rfl ?_
          rw [RES.out]
          refine ond_ok (by simp; have := HZ.out; omega) ⟨rfl, rfl, ?_, ?_, rfl⟩ (by rw [hy]; exact B5h.out)
          · rw [rst_sub s a ((f - a) + k) (by have := HZ.out; omega), show a + ((f - a) + k) = z by have := HZ.out; omega]
          · exact rfl
end Go.Proofs.YtffneogphgodnaaDoor
