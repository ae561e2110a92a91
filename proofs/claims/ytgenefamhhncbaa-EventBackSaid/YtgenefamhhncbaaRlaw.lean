/-
  THE LAW EventReads AS A WALK.
-/
import Derived.Test.YtgenefamhhncbaaDeco
import Derived.Test.YtgenefamhhncbaaRdec1
import Derived.Test.YtgenefamhhncbaaSame
import Derived.Test.YtgenefamhhncbaaClaw
namespace Go.Proofs.Ytgenefamhhncbaa
open Go.RowKit
theorem decC_len (s : ByteArray) : (decC s).L.length ≤ 8 := by
  unfold decC
  split
  · rename_i h
    unfold okC at h
    simp only [Bool.and_eq_true, decide_eq_true_eq] at h
    rw [show (dF s).1.length = (d5 s).1 from dFlds_len _ _ _ _]
    exact h.1
  · exact Nat.zero_le _
theorem SC.of {W : World} {Y : Nat} {t : TypeId} {v0 v1 v2 v3 v4 : Value} (h : Blk W Y t #[v0, v1, v2, v3, v4]) : SC Y v0 v1 v2 v3 v4 W := ⟨h.cell 0, h.cell 1, h.cell 2, h.cell 3, h.cell 4⟩
/-- two events' cells -/
abbrev SD (Y Z : Nat) (v0 v1 v2 v3 v4 u4 : Value) (w : World) : Prop :=
  w.cell? ⟨Y, 0, none⟩ = some v0 ∧ w.cell? ⟨Y, 1, none⟩ = some v1 ∧ w.cell? ⟨Y, 2, none⟩ = some v2 ∧ w.cell? ⟨Y, 3, none⟩ = some v3 ∧ w.cell? ⟨Y, 4, none⟩ = some v4 ∧
  w.cell? ⟨Z, 0, none⟩ = some v0 ∧ w.cell? ⟨Z, 1, none⟩ = some v1 ∧ w.cell? ⟨Z, 2, none⟩ = some v2 ∧ w.cell? ⟨Z, 3, none⟩ = some v3 ∧ w.cell? ⟨Z, 4, none⟩ = some u4
theorem SD.below {Y Z : Nat} {v0 v1 v2 v3 v4 u4 : Value} {w w' : World} (h : SD Y Z v0 v1 v2 v3 v4 u4 w) (hb : Below w.heap.size w w') : SD Y Z v0 v1 v2 v3 v4 u4 w' := by
  obtain ⟨c0, c1, c2, c3, c4, d0, d1, d2, d3, d4⟩ := h
  have e : ∀ {b o : Nat} {v : Value}, w.cell? ⟨b, o, none⟩ = some v → w'.cell? ⟨b, o, none⟩ = some v := fun hc => by rw [hb.cell (p := ⟨_, _, none⟩) (World.block_lt_of_cell? _ _ hc)]; exact hc
  exact ⟨e c0, e c1, e c2, e c3, e c4, e d0, e d1, e d2, e d3, e d4⟩
set_option maxHeartbeats 4000000 in
set_option maxRecDepth 100000 in
theorem reads_law (s : ByteArray) (w : World) (hs : s.size ≤ 9223372036854775807) : Calls Try.prog 5 #[.string s] w fun e w' => e = .returned (.bool true) ∧ Below w.heap.size w w' := by
  by_cases h5 : s.size ≤ 5000
  · have DC := Lib.hid (fun W => show Calls Try.prog 18 #[.string s] W (fun e w' => ∃ p cp, e = .returned (.tuple #[.agg #[.int .i64 (decC s).a, .int .i64 (decC s).b, .int .i64 (decC s).c, .string (decC s).k, .slice p (decC s).L.length cp], .int .i64 (decE s)]) ∧ Flds w' p (decC s).L ∧ Below W.heap.size W w') from decode_any s (by omega) W)
    have DR := Lib.hid (fun W => show Calls Try.prog 19 #[.string s] W (fun e w' => ∃ p cp, e = .returned (.tuple #[.agg #[.int .i64 (decC s).a, .int .i64 (decC s).b, .int .i64 (decC s).c, .string (decC s).k, .slice p (decC s).L.length cp], .int .i64 (decE s)]) ∧ Flds w' p (decC s).L ∧ Below W.heap.size W w') from rdecode_any s (by omega) W)
    have hlen := decC_len s
    generalize decC s = v at *
    obtain ⟨a, b, c, k, L⟩ := v
    simp only at DC DR hlen
    have h5' : ¬ (5000 : Int) < (s.size : Int) := by omega
    have RF := Lib.hid (fun p cp W (hx : Flds W p L) => show Calls Try.prog 15 #[.agg #[.int .i64 a, .int .i64 b, .int .i64 c, .string k, .slice p L.length cp]] W (fun e w' => ∃ p' cp', e = .returned (.agg #[.int .i64 a, .int .i64 b, .int .i64 c, .string k, .slice p' L.length cp']) ∧ Flds w' p' L ∧ Below W.heap.size W w') from ref_any a b c k p cp L W (by omega) hx)
    have SM := Lib.hid (fun p cp q cq W (hx : Flds W p L) (hz : Flds W q L) => same_any a b c k p q cp cq L L W (by omega) hx hz rfl)
    unfold evV at SM
    generalize decE s = er at *
    generalize hn : L.length = n at *
    have HN := Lib.hid hn
    clear hn h5
    generalize hy : w.heap.size = Y at *
    go_enter Try.func5, Try.ntmps5
    go_wp2_with fail
    refine (DC.out _).mono ?_
    rintro e w1 ⟨p1, cp1, rfl, F1, b1⟩
    obtain ⟨w2, hw2, K2, F2, B2⟩ : ∃ w2, w2 = w1.alloc (.cells #[.int .i64 a, .int .i64 b, .int .i64 c, .string k, .slice p1 n cp1] 24) ∧ Blk w2 w1.heap.size 24 #[.int .i64 a, .int .i64 b, .int .i64 c, .string k, .slice p1 n cp1] ∧ Flds w2 p1 L ∧ Below Y w w2 :=
      ⟨_, rfl, heap_alloc_new w1 _, F1.below ((Below.refl _ _).alloc (Nat.le_refl _) _), by rw [← hy]; exact b1.alloc b1.size _⟩
    have W2 := Lib.hid hw2
    have K2h := Lib.hid K2
    have F2h := Lib.hid F2
    have B2h := Lib.hid B2
    clear hw2 K2 F2 B2 F1 b1
    go_wp2_with fail
    rw [← W2.out]
    refine (DR.out _).mono ?_
    rintro e w3 ⟨p3, cp3, rfl, F3, b3⟩
    obtain ⟨w4, hw4, K4, G4, F4, H4, B4⟩ : ∃ w4, w4 = w3.alloc (.cells #[.int .i64 a, .int .i64 b, .int .i64 c, .string k, .slice p3 n cp3] 32) ∧ Blk w4 w1.heap.size 24 #[.int .i64 a, .int .i64 b, .int .i64 c, .string k, .slice p1 n cp1] ∧ Blk w4 w3.heap.size 32 #[.int .i64 a, .int .i64 b, .int .i64 c, .string k, .slice p3 n cp3] ∧ Flds w4 p1 L ∧ Flds w4 p3 L ∧ Below Y w w4 :=
      have ba : Below w3.heap.size w3 (w3.alloc (.cells #[.int .i64 a, .int .i64 b, .int .i64 c, .string k, .slice p3 n cp3] 32)) := (Below.refl _ _).alloc (Nat.le_refl _) _
      ⟨_, rfl, (K2h.out.below b3).below ba, heap_alloc_new w3 _, (F2h.out.below b3).below ba, F3.below ba, (B2h.out.trans (b3.mono (by have := B2h.out.size; omega))).alloc (by have := B2h.out.size; have := b3.size; omega) _⟩
    have W4 := Lib.hid hw4
    have B4h := Lib.hid B4
    have F4h := Lib.hid F4
    have H4h := Lib.hid H4
    have c0 : w4.cell? ⟨w1.heap.size, 0, none⟩ = some (.int .i64 a) := K4.cell 0
    have c1 : w4.cell? ⟨w1.heap.size, 1, none⟩ = some (.int .i64 b) := K4.cell 1
    have c2 : w4.cell? ⟨w1.heap.size, 2, none⟩ = some (.int .i64 c) := K4.cell 2
    have c3 : w4.cell? ⟨w1.heap.size, 3, none⟩ = some (.string k) := K4.cell 3
    have c4 : w4.cell? ⟨w1.heap.size, 4, none⟩ = some (.slice p1 n cp1) := K4.cell 4
    have d0 : w4.cell? ⟨w3.heap.size, 0, none⟩ = some (.int .i64 a) := G4.cell 0
    have d1 : w4.cell? ⟨w3.heap.size, 1, none⟩ = some (.int .i64 b) := G4.cell 1
    have d2 : w4.cell? ⟨w3.heap.size, 2, none⟩ = some (.int .i64 c) := G4.cell 2
    have d3 : w4.cell? ⟨w3.heap.size, 3, none⟩ = some (.string k) := G4.cell 3
    have d4 : w4.cell? ⟨w3.heap.size, 4, none⟩ = some (.slice p3 n cp3) := G4.cell 4
    clear hw4 K4 G4 F4 H4 B4 F3 b3
    go_wp2_with fail
    rw [← W4.out]
    generalize w1.heap.size = P at *
    generalize w3.heap.size = Q at *
    have S1 : SD P Q (.int .i64 a) (.int .i64 b) (.int .i64 c) (.string k) (.slice p1 n cp1) (.slice p3 n cp3) w4.drew := ⟨c0, c1, c2, c3, c4, d0, d1, d2, d3, d4⟩
    have F5h : Hid (Flds w4.drew p1 L) := Lib.hid (F4h.out.below (Below.refl _ _).drew)
    have H5h : Hid (Flds w4.drew p3 L) := Lib.hid (H4h.out.below (Below.refl _ _).drew)
    have B5h : Hid (Below Y w w4.drew) := Lib.hid B4h.out.drew
    clear c0 c1 c2 c3 c4 d0 d1 d2 d3 d4
    go_region_held3 (fun w' => w'.cell? ⟨P, 0, none⟩ = some (.int .i64 a) ∧ w'.cell? ⟨P, 1, none⟩ = some (.int .i64 b) ∧ w'.cell? ⟨P, 2, none⟩ = some (.int .i64 c) ∧ w'.cell? ⟨P, 3, none⟩ = some (.string k) ∧ w'.cell? ⟨P, 4, none⟩ = some (.slice p1 n cp1) ∧ w'.cell? ⟨Q, 0, none⟩ = some (.int .i64 a) ∧ w'.cell? ⟨Q, 1, none⟩ = some (.int .i64 b) ∧ w'.cell? ⟨Q, 2, none⟩ = some (.int .i64 c) ∧ w'.cell? ⟨Q, 3, none⟩ = some (.string k) ∧ w'.cell? ⟨Q, 4, none⟩ = some (.slice p3 n cp3))
        (first | exact S1 | assumption | (refine SD.below ?_ b8; assumption) | (refine SD.below ?_ b7; assumption) | (refine SD.below ?_ b6; assumption))
        (first
          | (go_at_call 10; refine (awake_any _).mono ?_; rintro e w6 ⟨rfl, b6⟩; have B6h : Hid (Below Y w w6) := Lib.hid (B5h.out.trans (b6.mono (by have := B5h.out.size; omega))); have F6h := Lib.hid (F5h.out.below b6); have H6h := Lib.hid (H5h.out.below b6))
          | (go_at_call 15; refine (RF.out _ _ _ F6h.out).mono ?_; rintro e w7 ⟨p7, cp7, rfl, F7, b7⟩; have F7h := Lib.hid F7; have H7h := Lib.hid (H6h.out.below b7); have B7h : Hid (Below Y w w7) := Lib.hid (B6h.out.trans (b7.mono (by have := B6h.out.size; omega))); clear F7)
          | (go_at_call 20; refine (SM.out _ _ _ _ _ F7h.out H7h.out).mono ?_; rintro e w8 ⟨rfl, b8⟩; have B8h : Hid (Below Y w w8) := Lib.hid (B7h.out.trans (b8.mono (by have := B7h.out.size; omega)))))
    all_goals (go_wp2_with fail; go_ret; exact ⟨ret_bool (by simp), B8h.out⟩)
  · have h5' : (5000 : Int) < (s.size : Int) := by omega
    go_enter Try.func5, Try.ntmps5
    go_wp2_with fail
    refine (awake_any _).mono ?_
    rintro e w2 ⟨rfl, b2⟩
    go_wp2_with fail
    go_ret
    exact ⟨rfl, b2⟩
end Go.Proofs.Ytgenefamhhncbaa
