/-
  THE DOCUMENT's bits.
-/
import Derived.Test.YtffneogphgodnaaDoorRef1
import Derived.Test.YtffneogphgodnaaDoorRef3
import Derived.Deep.DeepCutAuto
import Derived.Deep.CutBlock
import Derived.Outline
namespace Go.Proofs.YtffneogphgodnaaDoor
open Go.RowKit
def u64N (x : Nat) : Int := IntKind.u64.wrap (x : Int)
theorem u64N_step (x d : Nat) (v : Int) (hv : v = d) : IntKind.u64.wrap (IntKind.u64.wrap (16 * u64N x) + v) = u64N (x * 16 + d) := by
  subst hv
  unfold u64N
  rw [IntKind.wrap_u64, IntKind.wrap_u64, IntKind.wrap_u64, IntKind.wrap_u64]
  omega
theorem u64N_i64 (x : Nat) : IntKind.i64.wrap (u64N x) = w64 x := by
  unfold u64N w64
  rw [IntKind.wrap_u64, IntKind.wrap_i64, IntKind.wrap_i64]
  omega
theorem hexN_next {s : ByteArray} {a k : Nat} (h : a + k < s.size) : hexN ((bl (rst s a)).take (k + 1)) = hexN ((bl (rst s a)).take k) * 16 + hexD s[a + k] := by
  have hl : k < (bl (rst s a)).length := by rw [bl_len, rst_size]; omega
  have e : (bl (rst s a))[k] = s[a + k] := by
    have := rst_get s a k h
    rw [List.getD_eq_getElem?_getD, List.getElem?_eq_getElem hl, Option.getD_some] at this
    exact this
  unfold hexN
  rw [List.take_add_one, List.getElem?_eq_getElem hl, e, Option.toList_some, List.foldl_append]
  rfl
theorem bt_ok {s : ByteArray} {a k : Nat} (hsp : spanN hexB (bl (rst s (a + 1))) = k) (h : k = 16) : bitsT (rst s a) = ⟨5, 17, w64 (hexN ((bl (rst s (a + 1))).take k)), ⟨#[]⟩⟩ := by
  subst h
  unfold bitsT
  rw [inner_rst, hsp, if_pos rfl]
theorem bt_no {s : ByteArray} {a k : Nat} (hsp : spanN hexB (bl (rst s (a + 1))) = k) (h : k ≠ 16) : bitsT (rst s a) = t0 := by
  unfold bitsT
  rw [inner_rst, hsp, if_neg h]
theorem hexD_lo {b : UInt8} {c : Int} (hc : (b.toNat : Int) = c) (h : digB c = true) : c - 48 = hexD b ∧ 48 ≤ c ∧ c ≤ 57 := by
  unfold digB at h
  simp only [Bool.and_eq_true, decide_eq_true_eq] at h
  unfold hexD
  rw [if_pos (by omega)]
  omega
theorem hexD_hi {b : UInt8} {c : Int} (hc : (b.toNat : Int) = c) (h : 97 ≤ c) : c - 87 = hexD b := by
  unfold hexD
  rw [if_neg (by omega)]
  omega
/-- behind the loop -/
def BitsEnd (s : ByteArray) (a : Nat) (w0 : World) (i q : Value) (wx : World) : Prop := w0 = wx ∧ ∃ (k : Nat) (nn : Int), i = .int .i64 (a + 1 + k : Nat) ∧ q = .int .u64 nn ∧ a + 1 + k ≤ s.size ∧ spanN hexB (bl (rst s (a + 1))) = k ∧ nn = u64N (hexN ((bl (rst s (a + 1))).take k))
set_option maxHeartbeats 4000000 in
set_option maxRecDepth 100000 in
/-- the document's bits, from a # at a on -/
theorem rbits_any (s : ByteArray) (a : Nat) (ha : a < s.size) (hs : s.size ≤ 4096) (w : World) : Calls Tryd.prog 36 #[.string s, .int .i64 a] w (Ond w s a (bitsT (rst s a))) := by
  generalize hy : w.heap.size = Y at *
  obtain ⟨w0, hw0, N0, B0⟩ : ∃ w0, w0 = w.alloc (.cells #[.int .i64 0, .int .i64 0, .string ⟨#[]⟩, .int .i64 0, .string ⟨#[]⟩] 39) ∧ Blk w0 Y 39 #[.int .i64 0, .int .i64 0, .string ⟨#[]⟩, .int .i64 0, .string ⟨#[]⟩] ∧ Below Y w w0 :=
    ⟨_, rfl, by rw [← hy]; exact Blk.new w 39 _, by rw [← hy]; exact (Below.refl _ _).alloc (Nat.le_refl _) _⟩
  have W0 := Lib.hid hw0
  have N0h := Lib.hid N0
  have B0h := Lib.hid B0
  clear hw0 N0 B0
  go_enter Tryd.func36, Tryd.ntmps36
  go_upto_block 0 with fail
  rw [← W0.out]
  go_cut [6, 7] from 8 to 50 (fun i q wx => BitsEnd s a w0 i q wx)
  case first =>
    go_wp2_with fail
    go_loop [6, 7] (fun i q => ∃ (k : Nat) (nn : Int), i = .int .i64 (a + 1 + k : Nat) ∧ q = .int .u64 nn ∧ a + 1 + k ≤ s.size ∧ Hid (∀ j, j < k → ∀ h : a + 1 + j < s.size, hexB (s[a + 1 + j].toNat : Int) = true) ∧ Hid (nn = u64N (hexN ((bl (rst s (a + 1))).take k)))) (fun i _ => s.size - (intOf i).toNat)
    case atStart => exact ⟨0, 0, by go_num, rfl, by omega, Lib.hid (fun j hj => absurd hj (Nat.not_lt_zero j)), Lib.hid rfl⟩
    case round =>
      obtain ⟨k, nn, rfl, rfl, hk, hall, hnn⟩ := hrel
      have BE : Hid (spanN hexB (bl (rst s (a + 1))) = k → BitsEnd s a w0 (.int .i64 (a + 1 + k : Nat)) (.int .u64 nn) w0) := Lib.hid (fun h => ⟨rfl, k, nn, rfl, rfl, hk, h, hnn.out⟩)
      by_cases hks : a + 1 + k < s.size
      · have E0 := Lib.hid (fun h => span_at_stop (p := hexB) hks hall.out h)
        have E1 := Lib.hid (fun h => all_next (p := hexB) hks hall.out h)
        have NX := Lib.hid (fun (v : Int) (hv : v = (hexD (s[a + 1 + k]'hks) : Nat)) => by have := u64N_step (hexN ((bl (rst s (a + 1))).take k)) (hexD s[a + 1 + k]) v hv; rw [← hexN_next hks, ← hnn.out] at this; exact this)
        have HL := Lib.hid (fun (h : digB (s[a + 1 + k].toNat : Int) = true) => hexD_lo (b := s[a + 1 + k]'hks) (c := (s[a + 1 + k].toNat : Int)) rfl h)
        have HH := Lib.hid (fun (h : 97 ≤ (s[a + 1 + k].toNat : Int)) => hexD_hi (b := s[a + 1 + k]'hks) (c := (s[a + 1 + k].toNat : Int)) rfl h)
        have hHX : ∀ c : Int, hexB c = (digB c || (decide (97 ≤ c) && decide (c ≤ 102))) := fun _ => rfl
        rw [hHX] at E0 E1
        clear hHX
        generalize hz : a + 1 + k = z at *
        have HZ := Lib.hid hz
        clear hz hnn
        generalize hc : (s[z].toNat : Int) = c at *
        have hc0 : 0 ≤ c := by omega
        have DGc := Lib.hid (rdigit_any c)
        generalize hd : digB c = dB at *
        have HD := Lib.hid hd
        clear hd
        cases dB
        · by_cases hx : 97 ≤ c ∧ c ≤ 102
          · obtain ⟨h97, h102⟩ := hx
            have E := Lib.hid (E1.out (by rw [decide_eq_true h97, decide_eq_true h102]; rfl))
            obtain ⟨v, hv⟩ : ∃ v, c - 87 = v := ⟨_, rfl⟩
            have hN := NX.out v (by rw [← hv]; exact HH.out h97)
            have hw4 : IntKind.u64.wrap (c - 48) = c - 48 := IntWalk.u64_in _ (by omega)
            have hw5 : IntKind.u64.wrap (c - 87) = v := by rw [hv]; exact IntWalk.u64_in _ (by omega)
            have hw6 : IntKind.u64.wrap c = c := IntWalk.u64_in _ (by omega)
            have h9 : decide (9 < c - 48) = true := by simp; omega
            generalize hm : IntKind.u64.wrap (16 * nn) = m at *
            generalize hq : IntKind.u64.wrap (m + v) = q at *
            clear hv NX HL HH E0 E1 BE
            have HN := Lib.hid hN
            clear hN
            go_wp2_with fail
            refine (DGc.out _).mono ?_
            rintro e wq ⟨rfl, rfl⟩
            go_wp2_with fail
            go_round
            case rel => exact ⟨k + 1, q, by rw [← HZ.out]; go_num, rfl, by have := HZ.out; omega, E, HN⟩
            case measure => simp [intOf]; omega
          · have SP := Lib.hid (BE.out (E0.out (by simp only [Bool.false_or, Bool.and_eq_false_iff, decide_eq_false_iff_not]; omega)))
            have hd2 : (decide (97 ≤ c) = false ∧ True) ∨ (decide (97 ≤ c) = true ∧ decide (c ≤ 102) = false) := by
              by_cases h97 : 97 ≤ c
              · exact .inr ⟨decide_eq_true h97, decide_eq_false (by omega)⟩
              · exact .inl ⟨decide_eq_false h97, trivial⟩
            clear E0 E1 NX HL HH hx BE
            rcases hd2 with ⟨d1, _⟩ | ⟨d1, d2⟩
            all_goals
              go_wp2_with fail
              refine (DGc.out _).mono ?_
              rintro e wq ⟨rfl, rfl⟩
              go_wp2_with fail
              go_meet
              exact SP.out
        · have HE := HL.out rfl
          have E := Lib.hid (E1.out rfl)
          obtain ⟨h48, h1, h2⟩ := HE
          obtain ⟨v, hv⟩ : ∃ v, c - 48 = v := ⟨_, rfl⟩
          have hN := NX.out v (by rw [← hv]; exact h48)
          have hw4 : IntKind.u64.wrap (c - 48) = v := by rw [hv]; exact IntWalk.u64_in _ (by omega)
          have hw6 : IntKind.u64.wrap c = c := IntWalk.u64_in _ (by omega)
          have h9 : decide (9 < v) = false := by simp; omega
          generalize hm : IntKind.u64.wrap (16 * nn) = m at *
          generalize hq : IntKind.u64.wrap (m + v) = q at *
          clear hv NX HL HH E0 E1 h48 BE
          have HN := Lib.hid hN
          clear hN
          go_wp2_with fail
          refine (DGc.out _).mono ?_
          rintro e wq ⟨rfl, rfl⟩
          go_wp2_with fail
          go_round
          case rel => exact ⟨k + 1, q, by rw [← HZ.out]; go_num, rfl, by have := HZ.out; omega, E, HN⟩
          case measure => simp [intOf]; omega
      · have SP := Lib.hid (BE.out (span_at_all (p := hexB) (by omega) hall.out))
        clear hnn hall BE
        go_wp2_with fail
        go_meet
        exact SP.out
  case rest =>
    obtain ⟨rfl, k, nn, rfl, rfl, hk, hsp, hnn⟩ := hcut
    have hW : wrap64 nn = w64 (hexN ((bl (rst s (a + 1))).take k)) := by rw [← IntWalk.i64_left, hnn]; exact u64N_i64 _
    have hw1 : IntKind.i64.wrap ((a + 1 + k : Nat) - (a : Int)) = (k : Int) + 1 := by rw [show ((a + 1 + k : Nat) : Int) - (a : Int) = (k : Int) + 1 by omega]; exact IntWalk.i64_in _ (by omega)
    have BO := Lib.hid (fun h => bt_ok (s := s) (a := a) (k := k) hsp h)
    have BN := Lib.hid (fun h => bt_no (s := s) (a := a) (k := k) hsp h)
    rw [← hW] at BO
    clear hnn hsp hW
    generalize hz : a + 1 + k = z at *
    by_cases h16 : k = 16
    · have RES := Lib.hid (BO.out h16)
      have hw2 : IntKind.i64.wrap ((z : Nat) - (a : Int)) = 17 := by rw [hw1, h16]; rfl
      have HZ17 := Lib.hid (show z = a + 17 by omega)
      clear hw1 BO BN h16 hz
      obtain ⟨w5, hw5, N5, B5⟩ : ∃ w5, w5 = ((((w0.setCell ⟨Y, 0, none⟩ (.int .i64 5)).setCell ⟨Y, 1, none⟩ (.int .i64 a)).setCell ⟨Y, 2, none⟩ (.string (s.extract a z))).setCell ⟨Y, 3, none⟩ (.int .i64 (wrap64 nn))).setCell ⟨Y, 4, none⟩ (.string ⟨#[]⟩) ∧ Blk w5 Y 39 #[.int .i64 5, .int .i64 a, .string (s.extract a z), .int .i64 (wrap64 nn), .string ⟨#[]⟩] ∧ Below Y w w5 :=
        ⟨_, rfl, ((((N0h.out.set 0 _).set 1 _).set 2 _).set 3 _).set 4 _, ((((B0h.out.setCell (p := ⟨Y, 0, none⟩) (Nat.le_refl _) _).setCell (p := ⟨Y, 1, none⟩) (Nat.le_refl _) _).setCell (p := ⟨Y, 2, none⟩) (Nat.le_refl _) _).setCell (p := ⟨Y, 3, none⟩) (Nat.le_refl _) _).setCell (p := ⟨Y, 4, none⟩) (Nat.le_refl _) _⟩
      have W5 := Lib.hid hw5
      have N5h := Lib.hid N5
      have B5h := Lib.hid B5
      clear hw5 N5 B5
      have hza : a ≤ z := by have := HZ17.out; omega
      have z0 := N0h.out.cell 0
      have f0 := N0h.out.free 0
      have z1 := N0h.out.cell 1
      have f1 := N0h.out.free 1
      have z2 := N0h.out.cell 2
      have f2 := N0h.out.free 2
      have z3 := N0h.out.cell 3
      have f3 := N0h.out.free 3
      have z4 := N0h.out.cell 4
      have f4 := N0h.out.free 4
      go_wp2_with fail
      rw [← W5.out]
      have y0 := N5h.out.cell 0
      have y1 := N5h.out.cell 1
      have y2 := N5h.out.cell 2
      have y3 := N5h.out.cell 3
      have y4 := N5h.out.cell 4
      refine bodyPost_ret (by simp [results, Tryd.results36, go_sem, y0, y1, y2, y3, y4]; try rfl) rfl ?_
      rw [RES.out]
      refine ond_ok (by simp) ⟨rfl, rfl, ?_, rfl, rfl⟩ (by rw [hy]; exact B5h.out)
      rw [rst_sub s a 17 (by have := HZ17.out; omega), show a + 17 = z by have := HZ17.out; omega]
    · have RES := Lib.hid (BN.out h16)
      obtain ⟨v, hv⟩ : ∃ v, IntKind.i64.wrap ((z : Nat) - (a : Int)) = v := ⟨_, rfl⟩
      have hv17 : (v != 17) = true := by rw [← hv, hw1]; simp; omega
      clear hw1 BO BN h16 hz hk
      obtain ⟨w5, hw5, N5, B5⟩ : ∃ w5, w5 = ((((w0.setCell ⟨Y, 0, none⟩ (.int .i64 0)).setCell ⟨Y, 1, none⟩ (.int .i64 0)).setCell ⟨Y, 2, none⟩ (.string ⟨#[]⟩)).setCell ⟨Y, 3, none⟩ (.int .i64 0)).setCell ⟨Y, 4, none⟩ (.string ⟨#[]⟩) ∧ Blk w5 Y 39 #[.int .i64 0, .int .i64 0, .string ⟨#[]⟩, .int .i64 0, .string ⟨#[]⟩] ∧ Below Y w w5 :=
        ⟨_, rfl, ((((N0h.out.set 0 _).set 1 _).set 2 _).set 3 _).set 4 _, ((((B0h.out.setCell (p := ⟨Y, 0, none⟩) (Nat.le_refl _) _).setCell (p := ⟨Y, 1, none⟩) (Nat.le_refl _) _).setCell (p := ⟨Y, 2, none⟩) (Nat.le_refl _) _).setCell (p := ⟨Y, 3, none⟩) (Nat.le_refl _) _).setCell (p := ⟨Y, 4, none⟩) (Nat.le_refl _) _⟩
      have W5 := Lib.hid hw5
      have N5h := Lib.hid N5
      have B5h := Lib.hid B5
      clear hw5 N5 B5
      have z0 := N0h.out.cell 0
      have f0 := N0h.out.free 0
      have z1 := N0h.out.cell 1
      have f1 := N0h.out.free 1
      have z2 := N0h.out.cell 2
      have f2 := N0h.out.free 2
      have z3 := N0h.out.cell 3
      have f3 := N0h.out.free 3
      have z4 := N0h.out.cell 4
      have f4 := N0h.out.free 4
      go_wp2_with fail
      rw [← W5.out]
      have y0 := N5h.out.cell 0
      have y1 := N5h.out.cell 1
      have y2 := N5h.out.cell 2
      have y3 := N5h.out.cell 3
      have y4 := N5h.out.cell 4
      refine bodyPost_ret (by simp [results, Tryd.results36, go_sem, y0, y1, y2, y3, y4]; try rfl) rfl ?_
      exact ond_no RES.out (by rw [hy]; exact B5h.out)
end Go.Proofs.YtffneogphgodnaaDoor
