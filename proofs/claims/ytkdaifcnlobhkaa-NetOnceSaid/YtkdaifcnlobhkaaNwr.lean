/-
  raft: AN ASK's TEXT: Write.
-/
import Derived.Test.YtkdaifcnlobhkaaNnm
namespace Go.Proofs.Ytkdaifcnlobhkaa
open Go.RowKit
/-- an ask's text -/
def askS (f t m : Int) : ByteArray := (catN [1, f, t, m, 0, 0, 0] ++ Bt.flagS false ++ catN [0]) ++ catN [0, 0, 0] ++ Bt.textS ⟨#[]⟩
abbrev SA (W : World) (T : Nat) (f t m : Int) (w' : World) : Prop :=
  w'.cell? ⟨T, 0, none⟩ = some (.int .i64 1) ∧ w'.cell? ⟨T, 1, none⟩ = some (.int .i64 f) ∧ w'.cell? ⟨T, 2, none⟩ = some (.int .i64 t) ∧ w'.cell? ⟨T, 3, none⟩ = some (.int .i64 m) ∧ w'.cell? ⟨T, 4, none⟩ = some (.int .i64 0) ∧
  w'.cell? ⟨T, 5, none⟩ = some (.int .i64 0) ∧ w'.cell? ⟨T, 6, none⟩ = some (.int .i64 0) ∧ w'.cell? ⟨T, 7, none⟩ = some (.bool false) ∧ w'.cell? ⟨T, 8, none⟩ = some (.slice none 0 0) ∧ Below W.heap.size W w'
theorem SA.of {W w' : World} {T : Nat} {f t m : Int} (K : Blk W T 35 (askA f t m)) (h : Below W.heap.size W w') : SA W T f t m w' := by
  have K' := K.over h
  exact ⟨K'.cell 0, K'.cell 1, K'.cell 2, K'.cell 3, K'.cell 4, K'.cell 5, K'.cell 6, K'.cell 7, K'.cell 8, h⟩
abbrev SB (W : World) (T : Nat) (w' : World) : Prop :=
  w'.cell? ⟨T, 9, none⟩ = some (.int .i64 0) ∧ w'.cell? ⟨T, 10, none⟩ = some (.int .i64 0) ∧ w'.cell? ⟨T, 11, none⟩ = some (.int .i64 0) ∧ w'.cell? ⟨T, 12, none⟩ = some (.string ⟨#[]⟩) ∧ Below W.heap.size W w'
theorem SB.of {W w' : World} {T : Nat} {f t m : Int} (K : Blk W T 35 (askA f t m)) (h : Below W.heap.size W w') : SB W T w' := by
  have K' := K.over h
  exact ⟨K'.cell 9, K'.cell 10, K'.cell 11, K'.cell 12, h⟩
theorem write_same (f m : Int) (hf : 0 ≤ f ∧ f < 7) (w : World) : Calls Try.prog 28 #[.agg (askA f f m)] w fun e w' => e = .returned (.tuple #[.string ⟨#[]⟩, .int .i64 1]) ∧ Below w.heap.size w w' := by
  have B0 := Lib.hid (BN1 w (.cells (askA f f m) 35))
  have CK := Lib.hid (check_same f m hf)
  unfold askA at *
  go_enter Try.func28, Try.ntmps28
  go_wp2_with fail
  refine (CK.out _).mono ?_
  rintro e w1 ⟨rfl, b1⟩
  have B1 := Lib.hid (B0.out.trans (b1.mono B0.out.size))
  clear b1
  go_wp2_with fail
  go_ret2
  exact ⟨rfl, B1.out⟩
set_option maxHeartbeats 8000000 in
set_option maxRecDepth 100000 in
theorem write_ask (f t m : Int) (hf : 0 ≤ f ∧ f < 7) (ht : 0 ≤ t ∧ t < 7) (hm : 0 ≤ m ∧ m ≤ 549755813888) (hft : f ≠ t) (w : World) : Calls Try.prog 28 #[.agg (askA f t m)] w fun e w' => e = .returned (.tuple #[.string (askS f t m), .int .i64 0]) ∧ Below w.heap.size w w' := by
  have CK := Lib.hid (check_ask f t m hf ht hm hft)
  have N7 := Lib.hid (fun g W (k : Blk W g 3 #[.int .i64 1, .int .i64 f, .int .i64 t, .int .i64 m, .int .i64 0, .int .i64 0, .int .i64 0]) => numsB [1, f, t, m, 0, 0, 0] (g := g) rfl (m := 7) rfl (by
    intro x hx
    unfold Okn
    simp only [List.mem_cons, List.not_mem_nil, or_false] at hx
    rcases hx with rfl | rfl | rfl | rfl | rfl | rfl | rfl <;> omega) (by simp) W k)
  have N1 := Lib.hid (fun g W (k : Blk W g 3 #[.int .i64 0]) => numsB [0] (g := g) rfl (m := 1) rfl (by simp [Okn]) (by simp) W k)
  have N3 := Lib.hid (fun g W (k : Blk W g 3 #[.int .i64 0, .int .i64 0, .int .i64 0]) => numsB [0, 0, 0] (g := g) rfl (m := 3) rfl (by simp [Okn]) (by simp) W k)
  have NF := Lib.hid (fun W => (Bt.flag_any false W).mono fun e w' h => (show e = .returned (.string (Bt.flagS false)) ∧ Below W.heap.size W w' from ⟨h.1, h.2 ▸ Below.refl _ _⟩))
  have NT := Lib.hid (fun W => Bt.text_any ⟨#[]⟩ (by decide) W)
  have z7 := catN_size [1, f, t, m, 0, 0, 0]
  have z1 := catN_size [0]
  have z3 := catN_size [0, 0, 0]
  have zf : (Bt.flagS false).size = 1 := rfl
  have zt : (Bt.textS ⟨#[]⟩).size ≤ 20 := by decide
  simp only [List.length_cons, List.length_nil] at z7 z1 z3
  have HS : Hid (askS f t m = (catN [1, f, t, m, 0, 0, 0] ++ Bt.flagS false ++ catN [0]) ++ catN [0, 0, 0] ++ Bt.textS ⟨#[]⟩) := Lib.hid rfl
  generalize catN [1, f, t, m, 0, 0, 0] = A7 at *
  generalize catN [0, 0, 0] = A3 at *
  generalize catN [0] = A1 at *
  generalize Bt.flagS false = AF at *
  generalize Bt.textS ⟨#[]⟩ = AT at *
  generalize askS f t m = AS at *
  have q1 : ¬ (9223372036854775807 < A7.size + AF.size) := by omega
  have q2 : ¬ (9223372036854775807 < A7.size + AF.size + A1.size) := by omega
  have q3 : ¬ (9223372036854775807 < A7.size + AF.size + A1.size + A3.size) := by omega
  have q4 : ¬ (9223372036854775807 < A7.size + AF.size + A1.size + A3.size + AT.size) := by omega
  have K0 : Blk (w.alloc (.cells (askA f t m) 35)) w.heap.size 35 (askA f t m) := Blk.new _ _ _
  obtain ⟨W, hW⟩ : ∃ W, W = w.alloc (.cells (askA f t m) 35) := ⟨_, rfl⟩
  have B0 := Lib.hid (BN1 w (.cells (askA f t m) 35))
  rw [← hW] at B0 K0
  have K := Lib.hid K0
  have HW := Lib.hid hW
  clear K0 hW hf ht hm hft z7 z1 z3 zf zt
  unfold askA at HW
  have z0 : W.cell? ⟨w.heap.size, 0, none⟩ = some (.int .i64 1) := K.out.cell 0
  have z1 : W.cell? ⟨w.heap.size, 1, none⟩ = some (.int .i64 f) := K.out.cell 1
  have z2 : W.cell? ⟨w.heap.size, 2, none⟩ = some (.int .i64 t) := K.out.cell 2
  have z3 : W.cell? ⟨w.heap.size, 3, none⟩ = some (.int .i64 m) := K.out.cell 3
  have z4 : W.cell? ⟨w.heap.size, 4, none⟩ = some (.int .i64 0) := K.out.cell 4
  have z5 : W.cell? ⟨w.heap.size, 5, none⟩ = some (.int .i64 0) := K.out.cell 5
  have z6 : W.cell? ⟨w.heap.size, 6, none⟩ = some (.int .i64 0) := K.out.cell 6
  have z7 : W.cell? ⟨w.heap.size, 7, none⟩ = some (.bool false) := K.out.cell 7
  have z8 : W.cell? ⟨w.heap.size, 8, none⟩ = some (.slice none 0 0) := K.out.cell 8
  have z9 : W.cell? ⟨w.heap.size, 9, none⟩ = some (.int .i64 0) := K.out.cell 9
  have z10 : W.cell? ⟨w.heap.size, 10, none⟩ = some (.int .i64 0) := K.out.cell 10
  have z11 : W.cell? ⟨w.heap.size, 11, none⟩ = some (.int .i64 0) := K.out.cell 11
  have z12 : W.cell? ⟨w.heap.size, 12, none⟩ = some (.string ⟨#[]⟩) := K.out.cell 12
  unfold askA at CK
  unfold askA
  go_enter Try.func28, Try.ntmps28
  go_wp2_with (rw [← HW.out])
  refine (CK.out _).mono ?_
  rintro e w1 ⟨rfl, b1⟩
  have K1 := Lib.hid (K.out.next b1)
  have B1 := Lib.hid (B0.out.trans (b1.mono B0.out.size))
  clear b1 B0 K CK z0 z1 z2 z3 z4 z5 z6 z7 z8 z9 z10 z11 z12 HW
  have HT := Lib.hid B1.out.size
  generalize hT : w.heap.size = T at *
  have HT0 := Lib.hid hT
  clear hT
  have S1 := SA.of K1.out ((Below.refl w1.heap.size w1).drew)
  go_wp2_with fail
  go_region_held3 (fun w' => w'.cell? ⟨T, 0, none⟩ = some (.int .i64 1) ∧ w'.cell? ⟨T, 1, none⟩ = some (.int .i64 f) ∧ w'.cell? ⟨T, 2, none⟩ = some (.int .i64 t) ∧ w'.cell? ⟨T, 3, none⟩ = some (.int .i64 m) ∧ w'.cell? ⟨T, 4, none⟩ = some (.int .i64 0) ∧ w'.cell? ⟨T, 5, none⟩ = some (.int .i64 0) ∧ w'.cell? ⟨T, 6, none⟩ = some (.int .i64 0) ∧ w'.cell? ⟨T, 7, none⟩ = some (.bool false) ∧ w'.cell? ⟨T, 8, none⟩ = some (.slice none 0 0) ∧ Below w1.heap.size w1 w')
    (first | (with_reducible exact S1) | (refine SA.of K1.out ?_; (repeat (with_reducible first | assumption | exact Below.refl _ _ | refine Below.drew ?_ | refine belowAlloc ?_ _)); done))
    (first
      | (go_at_call 42; with_reducible refine (NF.out _).mono ?_; rintro e w7 ⟨rfl, b7⟩; have c7 : Below w1.heap.size w1 w7 := belowTrans (by (repeat (with_reducible first | assumption | exact Below.refl _ _ | refine Below.drew ?_ | refine belowAlloc ?_ _))) b7)
      | (go_at_call 41; with_reducible refine (N7.out _ _ ?_).mono ?_; rotate_left; (rintro e w8 ⟨rfl, b8⟩; have c8 : Below w1.heap.size w1 w8 := belowTrans (by (repeat (with_reducible first | assumption | exact Below.refl _ _ | refine Below.drew ?_ | refine belowAlloc ?_ _))) b8); rotate_left; (repeat (with_reducible first | assumption | exact Blk.new2 _ _ _ rfl | exact Blk.new2 _ _ _ (by simp; done) | refine Blk.over ?_ b7 | refine Blk.over ?_ b8 | refine Blk.drew ?_ | refine Blk.al ?_ _)))
      | (go_at_call 41; with_reducible refine (N1.out _ _ ?_).mono ?_; rotate_left; (rintro e w9 ⟨rfl, b9⟩; have c9 : Below w1.heap.size w1 w9 := belowTrans (by (repeat (with_reducible first | assumption | exact Below.refl _ _ | refine Below.drew ?_ | refine belowAlloc ?_ _))) b9); rotate_left; (repeat (with_reducible first | assumption | exact Blk.new2 _ _ _ rfl | exact Blk.new2 _ _ _ (by simp; done) | refine Blk.over ?_ b7 | refine Blk.over ?_ b8 | refine Blk.drew ?_ | refine Blk.al ?_ _))))
  all_goals
    have C9 := Lib.hid c9
    clear c7 c8 c9 b7 b8 b9 S1 N7 N1 NF q1 q2
    have K9 := Lib.hid (K1.out.over C9.out)
    have B9 := Lib.hid (B1.out.trans (C9.out.mono HT.out))
    have z8 : w9.cell? ⟨T, 8, none⟩ = some (.slice none 0 0) := K9.out.cell 8
    have S2 := SB.of K9.out ((Below.refl w9.heap.size w9).drew)
    have HT9 := Lib.hid (Nat.le_trans HT.out C9.out.size)
    clear K1 B1 C9
    go_wp2_with fail
    go_rounds 1
    clear z8
    go_region_held3 (fun w' => w'.cell? ⟨T, 9, none⟩ = some (.int .i64 0) ∧ w'.cell? ⟨T, 10, none⟩ = some (.int .i64 0) ∧ w'.cell? ⟨T, 11, none⟩ = some (.int .i64 0) ∧ w'.cell? ⟨T, 12, none⟩ = some (.string ⟨#[]⟩) ∧ Below w9.heap.size w9 w')
      (first | (with_reducible exact S2) | (refine SB.of K9.out ?_; (repeat (with_reducible first | assumption | exact Below.refl _ _ | refine Below.drew ?_ | refine belowAlloc ?_ _)); done))
      (first
        | (go_at_call 43; with_reducible refine (NT.out _).mono ?_; rintro e w4 ⟨rfl, b4⟩; have c4 : Below w9.heap.size w9 w4 := belowTrans (by (repeat (with_reducible first | assumption | exact Below.refl _ _ | refine Below.drew ?_ | refine belowAlloc ?_ _))) b4)
        | (go_at_call 41; with_reducible refine (N3.out _ _ ?_).mono ?_; rotate_left; (rintro e w5 ⟨rfl, b5⟩; have c5 : Below w9.heap.size w9 w5 := belowTrans (by (repeat (with_reducible first | assumption | exact Below.refl _ _ | refine Below.drew ?_ | refine belowAlloc ?_ _))) b5); rotate_left; (repeat (with_reducible first | assumption | exact Blk.new2 _ _ _ rfl | exact Blk.new2 _ _ _ (by simp; done) | refine Blk.over ?_ b4 | refine Blk.drew ?_ | refine Blk.al ?_ _))))
    all_goals
      go_wp2_with fail
      go_ret2
      exact ⟨by rw [HS.out]; rfl, by rw [HT0.out]; exact B9.out.trans (c4.mono HT9.out)⟩
end Go.Proofs.Ytkdaifcnlobhkaa
