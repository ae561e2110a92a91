/-
  THE FUNCTIONS OF TOKENS: lex.bits, lex.number.
-/
import Derived.Test.YtffneogphgodnaaDoorPu
namespace Go.Proofs.YtffneogphgodnaaDoor
open Go.RowKit
set_option maxHeartbeats 2000000 in
theorem bits_any (r : ByteArray) (h0 : 0 < r.size) (hr : r.size ≤ 4096) (w : World) : Calls Tryd.prog 18 #[.string r] w fun e w' => e = .returned ((bitsT r).val r) ∧ Below w.heap.size w w' := by
  obtain ⟨w1, hw1, K1, B1⟩ : ∃ w1, w1 = w.alloc (.cells #[.int .i64 0, .int .i64 0, .string ⟨#[]⟩, .int .i64 0, .string ⟨#[]⟩] 34) ∧ Blk w1 w.heap.size 34 #[.int .i64 0, .int .i64 0, .string ⟨#[]⟩, .int .i64 0, .string ⟨#[]⟩] ∧ Below w.heap.size w w1 := ⟨_, rfl, Blk.new w 34 _, (Below.refl _ w).alloc (Nat.le_refl _) _⟩
  have W1 := Lib.hid hw1
  have K1h := Lib.hid K1
  have B1h := Lib.hid B1
  clear hw1 K1 B1
  generalize hy : w.heap.size = Y at *
  have h0' : (1 : Int) ≤ (r.size : Int) := by omega
  have hIs := inner_size r
  have hI1 : (inner r).size + 1 = r.size := by omega
  have S := Lib.hid (span_hex (inner r) (by omega))
  have hm := spanN_le hexB (bl (inner r))
  rw [bl_len] at hm
  by_cases h16 : spanN hexB (bl (inner r)) = 16
  · have hR : Hid ((bitsT r).val r = tokV 5 0 (r.extract 0 17) (w64 (hexN ((bl (inner r)).take 16))) ⟨#[]⟩) := Lib.hid (by
      unfold bitsT T1.val
      rw [if_pos h16])
    have hx := span_all_of hexB (bl (inner r))
    rw [h16] at S hm hx
    have hs16 : ((inner r).extract 0 16).size = 16 := by rw [ByteArray.size_extract]; omega
    have hbl : bl ((inner r).extract 0 16) = (bl (inner r)).take 16 := by rw [bl_extract, List.drop_zero]
    have P := Lib.hid (parse16_any ((inner r).extract 0 16) hs16 (by rw [hbl]; exact hx))
    rw [hbl] at P
    have C1 := Lib.hid (token_any 5 (r.extract 0 17) (by rw [ByteArray.size_extract]; omega))
    unfold tokV at C1
    have ew : IntKind.i64.wrap (hexN ((bl (inner r)).take 16) : Int) = w64 (hexN ((bl (inner r)).take 16)) := rfl
    generalize hV : (bitsT r).val r = V at *
    clear hV hx hbl hs16 h16
    have EIh := Lib.hid (show r.extract 1 r.size = inner r from rfl)
    generalize w64 (hexN ((bl (inner r)).take 16)) = q at *
    generalize (hexN ((bl (inner r)).take 16)) = h at *
    generalize inner r = I at *
    have S : Hid (∀ w, Calls Tryd.prog 23 #[.string I, .func (.func 29) #[] #[]] w fun e w' => e = .returned (.int .i64 16) ∧ w = w') := S
    have h17 : (17 : Int) ≤ (r.size : Int) := by omega
    have h16' : (16 : Int) ≤ (I.size : Int) := by omega
    clear hIs
    go_enter Tryd.func18, Tryd.ntmps18
    go_wp2_with fail
    rw [← W1.out]
    rw [EIh.out]
    refine (S.out _).mono ?_
    rintro e w2 ⟨rfl, rfl⟩
    go_wp2_with fail
    refine (P.out _).mono ?_
    rintro e w2 ⟨rfl, b2⟩
    have K2h := Lib.hid (K1h.out.below b2)
    have B2h := Lib.hid (B1h.out.trans (b2.mono (by have := K1h.out.lt; omega)))
    clear b2
    go_wp2_with fail
    refine (C1.out _).mono ?_
    rintro e w3 ⟨rfl, b3⟩
    have K3h := Lib.hid (K2h.out.below b3)
    have B3h := Lib.hid (B2h.out.trans (b3.mono (by have := K2h.out.lt; omega)))
    have hYl : Y < w3.heap.size := K3h.out.lt
    clear b3
    obtain ⟨W6, hW6, R6, B6⟩ : ∃ W6 : World, True ∧ True ∧ True := ⟨w, trivial, trivial, trivial⟩
    clear hW6 R6 B6
    have y0 : w3.cell? ⟨Y, 0, none⟩ = some (.int .i64 0) := K3h.out.cell 0
    have y1 : w3.cell? ⟨Y, 1, none⟩ = some (.int .i64 0) := K3h.out.cell 1
    have y2 : w3.cell? ⟨Y, 2, none⟩ = some (.string ⟨#[]⟩) := K3h.out.cell 2
    have y3 : w3.cell? ⟨Y, 3, none⟩ = some (.int .i64 0) := K3h.out.cell 3
    have y4 : w3.cell? ⟨Y, 4, none⟩ = some (.string ⟨#[]⟩) := K3h.out.cell 4
    have f0 := K3h.out.free 0
    have f1 := K3h.out.free 1
    have f2 := K3h.out.free 2
    have f3 := K3h.out.free 3
    have f4 := K3h.out.free 4
    obtain ⟨W5, hW5, R5, B5, _, _⟩ := tok_put (u := w) (5) (0) (r.extract 0 17) (q) (⟨#[]⟩) K3h.out rfl (by rw [hy]; exact Nat.le_refl _) (by rw [hy]; exact B3h.out)
    have W5h := Lib.hid hW5
    have R5h := Lib.hid R5
    have B5h := Lib.hid B5
    obtain ⟨WX, hWX, RX, BX⟩ : ∃ WX, WX = W5.alloc (.cells #[.int .i64 5, .int .i64 0, .string (r.extract 0 17), .int .i64 q, .string ⟨#[]⟩] 34) ∧ Blk WX Y 34 #[.int .i64 5, .int .i64 0, .string (r.extract 0 17), .int .i64 q, .string ⟨#[]⟩] ∧ Below w.heap.size w WX :=
      ⟨_, rfl, R5.below ((Below.refl _ _).alloc (Nat.le_refl _) _), B5.alloc (by rw [hy]; exact Nat.le_of_lt R5.lt) _⟩
    have WXh := Lib.hid hWX
    have RXh := Lib.hid RX
    have BXh := Lib.hid BX
    clear hW5 R5 B5 hWX RX BX
    go_wp2_with fail
    rw [← W5h.out, ← WXh.out]
    have q0 : WX.cell? ⟨Y, 0, none⟩ = some (.int .i64 (5)) := RXh.out.cell 0
    have q1 : WX.cell? ⟨Y, 1, none⟩ = some (.int .i64 (0)) := RXh.out.cell 1
    have q2 : WX.cell? ⟨Y, 2, none⟩ = some (.string (r.extract 0 17)) := RXh.out.cell 2
    have q3 : WX.cell? ⟨Y, 3, none⟩ = some (.int .i64 (q)) := RXh.out.cell 3
    have q4 : WX.cell? ⟨Y, 4, none⟩ = some (.string (⟨#[]⟩)) := RXh.out.cell 4
    refine bodyPost_ret (v := tokV (5) (0) (r.extract 0 17) (q) (⟨#[]⟩)) (by simp [results, Tryd.results18, go_sem, q0, q1, q2, q3, q4, tokV]; try rfl) rfl ?_
    exact ⟨by rw [hR.out], hy ▸ BXh.out⟩
  · have hR : Hid ((bitsT r).val r = tokV 0 0 ⟨#[]⟩ 0 ⟨#[]⟩) := Lib.hid (by
      unfold bitsT T1.val
      rw [if_neg h16]
      show tokV 0 0 (r.extract 0 0) 0 ⟨#[]⟩ = _
      rw [extract_zero])
    generalize hV : (bitsT r).val r = V at *
    clear hV
    have EIh := Lib.hid (show r.extract 1 r.size = inner r from rfl)
    generalize inner r = I at *
    generalize spanN hexB (bl I) = m at *
    have d16 : ((m : Int) != 16) = true := by rw [bne_iff_ne]; omega
    have d16' : ((m : Int) == 16) = false := by rw [beq_eq_false_iff_ne]; omega
    clear h16 hIs
    go_enter Tryd.func18, Tryd.ntmps18
    go_wp2_with fail
    rw [← W1.out]
    rw [EIh.out]
    refine (S.out _).mono ?_
    rintro e w2 ⟨rfl, rfl⟩
    have y0 : w1.cell? ⟨Y, 0, none⟩ = some (.int .i64 0) := K1h.out.cell 0
    have y1 : w1.cell? ⟨Y, 1, none⟩ = some (.int .i64 0) := K1h.out.cell 1
    have y2 : w1.cell? ⟨Y, 2, none⟩ = some (.string ⟨#[]⟩) := K1h.out.cell 2
    have y3 : w1.cell? ⟨Y, 3, none⟩ = some (.int .i64 0) := K1h.out.cell 3
    have y4 : w1.cell? ⟨Y, 4, none⟩ = some (.string ⟨#[]⟩) := K1h.out.cell 4
    have f0 := K1h.out.free 0
    have f1 := K1h.out.free 1
    have f2 := K1h.out.free 2
    have f3 := K1h.out.free 3
    have f4 := K1h.out.free 4
    obtain ⟨W5, hW5, R5, B5, _, _⟩ := tok_put (u := w) (0) (0) (⟨#[]⟩) (0) (⟨#[]⟩) K1h.out rfl (by rw [hy]; exact Nat.le_refl _) (by rw [hy]; exact B1h.out)
    have W5h := Lib.hid hW5
    have R5h := Lib.hid R5
    have B5h := Lib.hid B5
    clear hW5 R5 B5
    go_wp2_with fail
    rw [← W5h.out]
    have q0 : W5.cell? ⟨Y, 0, none⟩ = some (.int .i64 (0)) := R5h.out.cell 0
    have q1 : W5.cell? ⟨Y, 1, none⟩ = some (.int .i64 (0)) := R5h.out.cell 1
    have q2 : W5.cell? ⟨Y, 2, none⟩ = some (.string (⟨#[]⟩)) := R5h.out.cell 2
    have q3 : W5.cell? ⟨Y, 3, none⟩ = some (.int .i64 (0)) := R5h.out.cell 3
    have q4 : W5.cell? ⟨Y, 4, none⟩ = some (.string (⟨#[]⟩)) := R5h.out.cell 4
    refine bodyPost_ret (v := tokV (0) (0) (⟨#[]⟩) (0) (⟨#[]⟩)) (by simp [results, Tryd.results18, go_sem, q0, q1, q2, q3, q4, tokV]; try rfl) rfl ?_
    exact ⟨by rw [hR.out], hy ▸ B5h.out⟩
end Go.Proofs.YtffneogphgodnaaDoor
