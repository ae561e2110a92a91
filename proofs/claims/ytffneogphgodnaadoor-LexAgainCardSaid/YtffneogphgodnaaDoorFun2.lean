/-
  THE FUNCTIONS OF TOKENS: lex.text.
-/
import Derived.Test.YtffneogphgodnaaDoorFun
namespace Go.Proofs.YtffneogphgodnaaDoor
open Go.RowKit
theorem getD_at (s : ByteArray) (k : Nat) (h : k < s.size) : (bl s).getD k 0 = s[k] := by
  rw [List.getD_eq_getElem?_getD, List.getElem?_eq_getElem (by rw [bl_len]; exact h), Option.getD_some, bl_at s k h]
theorem byte39 (b : UInt8) : decide (b = 39) = decide ((b.toNat : Int) = 39) := by
  apply Bool.eq_iff_iff.2
  simp only [decide_eq_true_eq]
  constructor
  · intro h; rw [h]; rfl
  · intro h; apply UInt8.toNat_inj.1; show b.toNat = 39; omega
set_option maxHeartbeats 2000000 in
theorem text_any (r : ByteArray) (h0 : 0 < r.size) (hr : r.size ≤ 4096) (w : World) : Calls Tryd.prog 17 #[.string r] w fun e w' => e = .returned ((textT r).val r) ∧ Below w.heap.size w w' := by
  obtain ⟨w1, hw1, K1, B1⟩ : ∃ w1, w1 = w.alloc (.cells #[.int .i64 0, .int .i64 0, .string ⟨#[]⟩, .int .i64 0, .string ⟨#[]⟩] 34) ∧ Blk w1 w.heap.size 34 #[.int .i64 0, .int .i64 0, .string ⟨#[]⟩, .int .i64 0, .string ⟨#[]⟩] ∧ Below w.heap.size w w1 := ⟨_, rfl, Blk.new w 34 _, (Below.refl _ w).alloc (Nat.le_refl _) _⟩
  have W1 := Lib.hid hw1
  have K1h := Lib.hid K1
  have B1h := Lib.hid B1
  clear hw1 K1 B1
  generalize hy : w.heap.size = Y at *
  have h0' : (1 : Int) ≤ (r.size : Int) := by omega
  have hIs := inner_size r
  have hI1 : (inner r).size + 1 = r.size := by omega
  have S := Lib.hid (span_text (inner r) (by omega))
  have hm := spanN_le textB (bl (inner r))
  rw [bl_len] at hm
  have hR : Hid ((textT r).val r = if textOk r then tokV 3 0 (r.extract 0 (spanN textB (bl (inner r)) + 2)) 0 ((inner r).extract 0 (spanN textB (bl (inner r)))) else tokV 0 0 ⟨#[]⟩ 0 ⟨#[]⟩) := Lib.hid (by
    unfold textT T1.val
    split
    · rfl
    · show tokV 0 0 (r.extract 0 0) 0 ⟨#[]⟩ = _
      rw [extract_zero])
  have hT : Hid (textOk r = (decide (spanN textB (bl (inner r)) ≤ 64) && (decide (spanN textB (bl (inner r)) < (inner r).size) && decide ((bl (inner r)).getD (spanN textB (bl (inner r))) 0 = 39)))) := Lib.hid rfl
  have C1 := Lib.hid (token_any 3 (r.extract 0 (spanN textB (bl (inner r)) + 2)) (by rw [ByteArray.size_extract]; omega))
  have C2 := Lib.hid (clone_any ((inner r).extract 0 (spanN textB (bl (inner r)))) (by rw [ByteArray.size_extract]; omega))
  have G := Lib.hid (fun (h : spanN textB (bl (inner r)) < (inner r).size) => getD_at (inner r) _ h)
  unfold tokV at C1
  generalize hV : (textT r).val r = V at *
  clear hV
  have EI : r.extract 1 r.size = inner r := rfl
  generalize inner r = I at *
  generalize spanN textB (bl I) = m at *
  have EIh := Lib.hid EI
  clear hIs EI
  by_cases h1 : m ≤ 64
  · by_cases h2 : m < I.size
    · have g := G.out h2
      have h2' : (((m : Int)) == (I.size : Int)) = false := by
        rw [beq_eq_false_iff_ne]; omega
      by_cases h3 : (I[m].toNat : Int) = 39
      · have RES : Hid (V = tokV 3 0 (r.extract 0 (m + 2)) 0 (I.extract 0 m)) := Lib.hid (by
          rw [hR.out, hT.out, g, decide_eq_true h1, decide_eq_true h2, byte39, decide_eq_true h3]; rfl)
        have d3 : ((I[m].toNat : Int) != 39) = false := by simpa using h3
        clear hR hT G g h3
        go_enter Tryd.func17, Tryd.ntmps17
        go_wp2_with fail
        rw [← W1.out]
        rw [EIh.out]
        refine (S.out _).mono ?_
        rintro e w2 ⟨rfl, rfl⟩
        go_wp2_with fail
        refine (C1.out _).mono ?_
        rintro e w2 ⟨rfl, b2⟩
        have K2h := Lib.hid (K1h.out.below b2)
        have B2h := Lib.hid (B1h.out.trans (b2.mono (by have := K1h.out.lt; omega)))
        obtain ⟨w3, hw3, K3, X3, B3⟩ : ∃ w3, w3 = w2.alloc (.cells #[.int .i64 3, .int .i64 0, .string (r.extract 0 (m + 2)), .int .i64 0, .string ⟨#[]⟩] 34) ∧ Blk w3 Y 34 #[.int .i64 0, .int .i64 0, .string ⟨#[]⟩, .int .i64 0, .string ⟨#[]⟩] ∧ Blk w3 w2.heap.size 34 #[.int .i64 3, .int .i64 0, .string (r.extract 0 (m + 2)), .int .i64 0, .string ⟨#[]⟩] ∧ Below Y w w3 :=
          ⟨_, rfl, K2h.out.below ((Below.refl _ _).alloc (Nat.le_refl _) _), Blk.new w2 34 _, B2h.out.alloc (by have := B2h.out.size; omega) _⟩
        have W3 := Lib.hid hw3
        have K3h := Lib.hid K3
        have X3h := Lib.hid X3
        have B3h := Lib.hid B3
        have hXY : Y < w2.heap.size := K2h.out.lt
        clear b2 hw3 K3 X3 B3
        go_wp2_with fail
        rw [← W3.out]
        generalize w2.heap.size = X at *
        refine (C2.out _).mono ?_
        rintro e w4 ⟨rfl, b4⟩
        have K4h := Lib.hid (K3h.out.below b4)
        have X4h := Lib.hid (X3h.out.below b4)
        have B4h := Lib.hid (B3h.out.trans (b4.mono (by have := K3h.out.lt; omega)))
        clear b4
        obtain ⟨w5, hw5, K5, X5, B5⟩ : ∃ w5, w5 = w4.setCell ⟨X, 4, none⟩ (.string (I.extract 0 m)) ∧ Blk w5 Y 34 #[.int .i64 0, .int .i64 0, .string ⟨#[]⟩, .int .i64 0, .string ⟨#[]⟩] ∧ Blk w5 X 34 #[.int .i64 3, .int .i64 0, .string (r.extract 0 (m + 2)), .int .i64 0, .string (I.extract 0 m)] ∧ Below Y w w5 :=
          ⟨_, rfl, K4h.out.set_other (by omega) _ _, X4h.out.set 4 _, B4h.out.setCell (p := ⟨X, 4, none⟩) (by show Y ≤ X; omega) _⟩
        have W6 := Lib.hid hw5
        have K5h := Lib.hid K5
        have B5g := Lib.hid B5
        have x0 : w4.cell? ⟨X, 0, none⟩ = some (.int .i64 3) := X4h.out.cell 0
        have x1 : w4.cell? ⟨X, 1, none⟩ = some (.int .i64 0) := X4h.out.cell 1
        have x2 : w4.cell? ⟨X, 2, none⟩ = some (.string (r.extract 0 (m + 2))) := X4h.out.cell 2
        have x3 : w4.cell? ⟨X, 3, none⟩ = some (.int .i64 0) := X4h.out.cell 3
        have x4 : w4.cell? ⟨X, 4, none⟩ = some (.string ⟨#[]⟩) := X4h.out.cell 4
        have xf := X4h.out.free 4
        have hne : ¬ (X = Y) := by omega
        have hne2 : ¬ (Y = X) := by omega
        clear hw5 K5 X5 B5
        have y0 : w4.cell? ⟨Y, 0, none⟩ = some (.int .i64 0) := K4h.out.cell 0
        have y1 : w4.cell? ⟨Y, 1, none⟩ = some (.int .i64 0) := K4h.out.cell 1
        have y2 : w4.cell? ⟨Y, 2, none⟩ = some (.string ⟨#[]⟩) := K4h.out.cell 2
        have y3 : w4.cell? ⟨Y, 3, none⟩ = some (.int .i64 0) := K4h.out.cell 3
        have y4 : w4.cell? ⟨Y, 4, none⟩ = some (.string ⟨#[]⟩) := K4h.out.cell 4
        have f0 := K4h.out.free 0
        have f1 := K4h.out.free 1
        have f2 := K4h.out.free 2
        have f3 := K4h.out.free 3
        have f4 := K4h.out.free 4
        obtain ⟨W5, hW5, R5, B5, _, _⟩ := tok_put (u := w) (3) (0) (r.extract 0 (m + 2)) (0) (I.extract 0 m) K5h.out rfl (by rw [hy]; exact Nat.le_refl _) (by rw [hy]; exact B5g.out)
        have W5h := Lib.hid hW5
        have R5h := Lib.hid R5
        have B5h := Lib.hid B5
        clear hW5 R5 B5
        go_wp2_with fail
        rw [← W6.out, ← W5h.out]
        have q0 : W5.cell? ⟨Y, 0, none⟩ = some (.int .i64 (3)) := R5h.out.cell 0
        have q1 : W5.cell? ⟨Y, 1, none⟩ = some (.int .i64 (0)) := R5h.out.cell 1
        have q2 : W5.cell? ⟨Y, 2, none⟩ = some (.string (r.extract 0 (m + 2))) := R5h.out.cell 2
        have q3 : W5.cell? ⟨Y, 3, none⟩ = some (.int .i64 (0)) := R5h.out.cell 3
        have q4 : W5.cell? ⟨Y, 4, none⟩ = some (.string (I.extract 0 m)) := R5h.out.cell 4
        refine bodyPost_ret (v := tokV (3) (0) (r.extract 0 (m + 2)) (0) (I.extract 0 m)) (by simp [results, Tryd.results17, go_sem, q0, q1, q2, q3, q4, tokV]; try rfl) rfl ?_
        exact ⟨by rw [RES.out], hy ▸ B5h.out⟩

      · have RES : Hid (V = tokV 0 0 ⟨#[]⟩ 0 ⟨#[]⟩) := Lib.hid (by
          rw [hR.out, hT.out, g, byte39, decide_eq_false h3]; simp)
        have d3 : ((I[m].toNat : Int) != 39) = true := by simpa using h3
        clear hR hT G g h3
        go_enter Tryd.func17, Tryd.ntmps17
        go_wp2_with fail
        rw [← W1.out]
        rw [EIh.out]
        refine (S.out _).mono ?_
        rintro e w2 ⟨rfl, rfl⟩
        have y0 : w1.cell? ⟨Y, 0, none⟩ = some (.int .i64 0) := K1h.out.cell 0
        have y1 : w1.cell? ⟨Y, 1, none⟩ = some (.int .i64 0) := K1h.out.cell 1
        have y2 : w1.cell? ⟨Y, 2, none⟩ = some (.string ⟨#[]⟩) := K1h.out.cell 2
        have y3 : w1.cell? ⟨Y, 3, none⟩ = some (.int .i64 0) := K1h.out.cell 3
        have y4 : w1.cell? ⟨Y, 4, none⟩ = some (.string ⟨#[]⟩) := K1h.out.cell 4
        have f0 := K1h.out.free 0
        have f1 := K1h.out.free 1
        have f2 := K1h.out.free 2
        have f3 := K1h.out.free 3
        have f4 := K1h.out.free 4
        obtain ⟨W5, hW5, R5, B5, _, _⟩ := tok_put (u := w) (0) (0) (⟨#[]⟩) (0) (⟨#[]⟩) K1h.out rfl (by rw [hy]; exact Nat.le_refl _) (by rw [hy]; exact B1h.out)
        have W5h := Lib.hid hW5
        have R5h := Lib.hid R5
        have B5h := Lib.hid B5
        clear hW5 R5 B5
        go_wp2_with fail
        rw [← W5h.out]
        have q0 : W5.cell? ⟨Y, 0, none⟩ = some (.int .i64 (0)) := R5h.out.cell 0
        have q1 : W5.cell? ⟨Y, 1, none⟩ = some (.int .i64 (0)) := R5h.out.cell 1
        have q2 : W5.cell? ⟨Y, 2, none⟩ = some (.string (⟨#[]⟩)) := R5h.out.cell 2
        have q3 : W5.cell? ⟨Y, 3, none⟩ = some (.int .i64 (0)) := R5h.out.cell 3
        have q4 : W5.cell? ⟨Y, 4, none⟩ = some (.string (⟨#[]⟩)) := R5h.out.cell 4
        refine bodyPost_ret (v := tokV (0) (0) (⟨#[]⟩) (0) (⟨#[]⟩)) (by simp [results, Tryd.results17, go_sem, q0, q1, q2, q3, q4, tokV]; try rfl) rfl ?_
        exact ⟨by rw [RES.out], hy ▸ B5h.out⟩
    · have RES : Hid (V = tokV 0 0 ⟨#[]⟩ 0 ⟨#[]⟩) := Lib.hid (by
        rw [hR.out, hT.out, decide_eq_false h2]; simp)
      have h2' : (((m : Int)) == (I.size : Int)) = true := by
        rw [beq_iff_eq]; omega
      clear hR hT G
      go_enter Tryd.func17, Tryd.ntmps17
      go_wp2_with fail
      rw [← W1.out]
      rw [EIh.out]
      refine (S.out _).mono ?_
      rintro e w2 ⟨rfl, rfl⟩
      have y0 : w1.cell? ⟨Y, 0, none⟩ = some (.int .i64 0) := K1h.out.cell 0
      have y1 : w1.cell? ⟨Y, 1, none⟩ = some (.int .i64 0) := K1h.out.cell 1
      have y2 : w1.cell? ⟨Y, 2, none⟩ = some (.string ⟨#[]⟩) := K1h.out.cell 2
      have y3 : w1.cell? ⟨Y, 3, none⟩ = some (.int .i64 0) := K1h.out.cell 3
      have y4 : w1.cell? ⟨Y, 4, none⟩ = some (.string ⟨#[]⟩) := K1h.out.cell 4
      have f0 := K1h.out.free 0
      have f1 := K1h.out.free 1
      have f2 := K1h.out.free 2
      have f3 := K1h.out.free 3
      have f4 := K1h.out.free 4
      obtain ⟨W5, hW5, R5, B5, _, _⟩ := tok_put (u := w) (0) (0) (⟨#[]⟩) (0) (⟨#[]⟩) K1h.out rfl (by rw [hy]; exact Nat.le_refl _) (by rw [hy]; exact B1h.out)
      have W5h := Lib.hid hW5
      have R5h := Lib.hid R5
      have B5h := Lib.hid B5
      clear hW5 R5 B5
      go_wp2_with fail
      rw [← W5h.out]
      have q0 : W5.cell? ⟨Y, 0, none⟩ = some (.int .i64 (0)) := R5h.out.cell 0
      have q1 : W5.cell? ⟨Y, 1, none⟩ = some (.int .i64 (0)) := R5h.out.cell 1
      have q2 : W5.cell? ⟨Y, 2, none⟩ = some (.string (⟨#[]⟩)) := R5h.out.cell 2
      have q3 : W5.cell? ⟨Y, 3, none⟩ = some (.int .i64 (0)) := R5h.out.cell 3
      have q4 : W5.cell? ⟨Y, 4, none⟩ = some (.string (⟨#[]⟩)) := R5h.out.cell 4
      refine bodyPost_ret (v := tokV (0) (0) (⟨#[]⟩) (0) (⟨#[]⟩)) (by simp [results, Tryd.results17, go_sem, q0, q1, q2, q3, q4, tokV]; try rfl) rfl ?_
      exact ⟨by rw [RES.out], hy ▸ B5h.out⟩
  · have RES : Hid (V = tokV 0 0 ⟨#[]⟩ 0 ⟨#[]⟩) := Lib.hid (by
      rw [hR.out, hT.out, decide_eq_false h1]; simp)
    have h1' : (64 : Int) < (m : Int) := by omega
    clear hR hT G
    go_enter Tryd.func17, Tryd.ntmps17
    go_wp2_with fail
    rw [← W1.out]
    rw [EIh.out]
    refine (S.out _).mono ?_
    rintro e w2 ⟨rfl, rfl⟩
    have y0 : w1.cell? ⟨Y, 0, none⟩ = some (.int .i64 0) := K1h.out.cell 0
    have y1 : w1.cell? ⟨Y, 1, none⟩ = some (.int .i64 0) := K1h.out.cell 1
    have y2 : w1.cell? ⟨Y, 2, none⟩ = some (.string ⟨#[]⟩) := K1h.out.cell 2
    have y3 : w1.cell? ⟨Y, 3, none⟩ = some (.int .i64 0) := K1h.out.cell 3
    have y4 : w1.cell? ⟨Y, 4, none⟩ = some (.string ⟨#[]⟩) := K1h.out.cell 4
    have f0 := K1h.out.free 0
    have f1 := K1h.out.free 1
    have f2 := K1h.out.free 2
    have f3 := K1h.out.free 3
    have f4 := K1h.out.free 4
    obtain ⟨W5, hW5, R5, B5, _, _⟩ := tok_put (u := w) (0) (0) (⟨#[]⟩) (0) (⟨#[]⟩) K1h.out rfl (by rw [hy]; exact Nat.le_refl _) (by rw [hy]; exact B1h.out)
    have W5h := Lib.hid hW5
    have R5h := Lib.hid R5
    have B5h := Lib.hid B5
    clear hW5 R5 B5
    go_wp2_with fail
    rw [← W5h.out]
    have q0 : W5.cell? ⟨Y, 0, none⟩ = some (.int .i64 (0)) := R5h.out.cell 0
    have q1 : W5.cell? ⟨Y, 1, none⟩ = some (.int .i64 (0)) := R5h.out.cell 1
    have q2 : W5.cell? ⟨Y, 2, none⟩ = some (.string (⟨#[]⟩)) := R5h.out.cell 2
    have q3 : W5.cell? ⟨Y, 3, none⟩ = some (.int .i64 (0)) := R5h.out.cell 3
    have q4 : W5.cell? ⟨Y, 4, none⟩ = some (.string (⟨#[]⟩)) := R5h.out.cell 4
    refine bodyPost_ret (v := tokV (0) (0) (⟨#[]⟩) (0) (⟨#[]⟩)) (by simp [results, Tryd.results17, go_sem, q0, q1, q2, q3, q4, tokV]; try rfl) rfl ?_
    exact ⟨by rw [RES.out], hy ▸ B5h.out⟩
end Go.Proofs.YtffneogphgodnaaDoor
