/-
  The book: the law's same 20.
-/
import Derived.Test.YtlcgicgdlhnfoaaBsa
import Derived.Test.YtlcgicgdlhnfoaaBtx
namespace Go.Proofs.Ytlcgicgdlhnfoaa
open Go.RowKit
set_option maxHeartbeats 16000000 in
set_option maxRecDepth 100000 in
theorem same20_yes {w : World} {Bk : Nat → Prop} {t : Nat} {base : Int} {LL : List (List Int)} {a : Option Addr} (c : Nat) (h : BookAt w Bk t base LL) (ok : BOk base LL) (sh : Shr LL) (hr : Rws w a LL) :
    Calls Try.prog 20 #[.pointer (some ⟨t, 0, none⟩), .agg #[.int .i64 base, .slice a LL.length c]] w fun e w' => e = .returned (.bool true) ∧ Below w.heap.size w w' := by
  have o0 := ok.b0
  have o1 := ok.b1
  have o2 := ok.n
  obtain ⟨W, hW⟩ : ∃ W, W = w.alloc (.cells #[.int .i64 base, .slice a LL.length c] 27) := ⟨_, rfl⟩
  have kW : Blk W w.heap.size 27 #[.int .i64 base, .slice a LL.length c] := by rw [hW]; exact Blk.new _ _ _
  have bW : Below w.heap.size w W := by rw [hW]; exact (Below.refl _ w).alloc (Nat.le_refl _) _
  have hB := h.next bW
  have rB := hr.next bW
  have A22 := Lib.hid (base_any hB)
  have shn : ∀ xs ∈ LL, xs.length ≤ 16 ∧ ∀ x ∈ xs, 0 ≤ x ∧ x ≤ 549755813888 := fun xs hx => ⟨(mayB_len (sh xs hx)).2, mayB_all (sh xs hx)⟩
  have hsub : sub base LL base 1000 = LL := by
    unfold sub
    rw [Int.sub_self]
    show (LL.drop 0).take 1000 = LL
    rw [List.drop_zero, List.take_of_length_le (by omega)]
  have A13 : Hid (∀ w1, Below W.heap.size W w1 → Calls Try.prog 13 #[.pointer (some ⟨t, 0, none⟩), .int .i64 base, .int .i64 1000] w1 fun e w' => ∃ ag cg, e = .returned (.tuple #[.slice ag LL.length cg, .int .i64 (base + LL.length), .int .i64 0]) ∧ Rws w' ag LL ∧ Below w1.heap.size w1 w') := Lib.hid fun w1 b1 => by
    refine (read_ok (hB.next b1) ok sh.short o0 (by decide) (Int.le_refl _) (by omega)).mono ?_
    intro e w' hrd
    obtain ⟨v, ms, rfl, hms, ho, hb⟩ := rdd_ok hrd o0 (by decide) (Int.le_refl _)
    rw [hsub] at hms ⊢
    obtain ⟨ag, cg, rfl⟩ := ho.form
    have hl : ms.length = LL.length := by rw [← hms, List.length_map]
    rw [hl] at ho ⊢
    exact ⟨ag, cg, rfl, ho.rws hms, hb⟩
  have B22 := Lib.hid (fun V (b : Below W.heap.size W V) => base_any (hB.next b))
  have B23 := Lib.hid (fun V (b : Below W.heap.size W V) => end_any (hB.next b) o0 (by omega) (by omega))
  have B15 := Lib.hid (fun V ag cg (r : Rws V ag LL) => rows_any cg r (by omega))
  have B14 := Lib.hid (fun V a1 c1 a2 c2 (r1 : Rws V a1 LL) (r2 : Rws V a2 LL) => same14_yes c1 c2 r1 r2 (by omega) sh.short)
  have B19 := Lib.hid (fun V (b : Below W.heap.size W V) => text_any (hB.next b) ok sh rfl)
  have B24 := Lib.hid (fun V (b : Below W.heap.size W V) => rtext_any c (rB.next b) o0 (by omega) o2 shn)
  have RN := Lib.hid (fun V (b : Below W.heap.size W V) => rB.next b)
  have SOF : Hid (∀ w', Below W.heap.size W w' → w'.cell? ⟨w.heap.size, 0, none⟩ = some (.int .i64 base) ∧ w'.cell? ⟨w.heap.size, 1, none⟩ = some (.slice a LL.length c) ∧ Below W.heap.size W w') := Lib.hid fun w' b => ⟨(kW.next b).cell 0, (kW.next b).cell 1, b⟩
  have BW := Lib.hid bW
  have HW := Lib.hid hW
  have hWs : W.heap.size = w.heap.size + 1 := by rw [hW]; simp
  have hbl : ¬ (9223372036854775807 < base + (LL.length : Int)) := by omega
  have hwl : IntKind.i64.wrap (base + (LL.length : Int)) = base + (LL.length : Int) := by rw [IntKind.wrap_i64]; omega
  clear kW bW hW hB rB h hr ok sh shn hsub
  generalize txtS base LL = TX at *
  clear o1
  go_enter Try.func20, Try.ntmps20
  go_wp2_with (rw [← HW.out])
  refine A22.out.mono ?_
  rintro e w1 ⟨rfl, rfl⟩
  go_wp2_with fail
  refine (A13.out _ (Below.refl _ _)).mono ?_
  rintro e w1 ⟨ag, cg, rfl, rg, b1⟩
  have C22 := Lib.hid (fun V (g : Below w1.heap.size w1 V) => B22.out V (bel_on b1 g))
  have C23 := Lib.hid (fun V (g : Below w1.heap.size w1 V) => B23.out V (bel_on b1 g))
  have C15 := Lib.hid (fun V (g : Below w1.heap.size w1 V) => B15.out V ag cg (rg.next g))
  have C14 := Lib.hid (fun V ar cr (g : Below w1.heap.size w1 V) (r : Rws V ar LL) => B14.out V ar cr a c r (RN.out V (bel_on b1 g)))
  have C19 := Lib.hid (fun V (g : Below w1.heap.size w1 V) => B19.out V (bel_on b1 g))
  have C24 := Lib.hid (fun V (g : Below w1.heap.size w1 V) => B24.out V (bel_on b1 g))
  have SO1 : Hid (∀ w', Below w1.heap.size w1 w' → w'.cell? ⟨w.heap.size, 0, none⟩ = some (.int .i64 base) ∧ w'.cell? ⟨w.heap.size, 1, none⟩ = some (.slice a LL.length c) ∧ Below w1.heap.size w1 w') := Lib.hid fun w' g => ⟨(SOF.out _ (bel_on b1 g)).1, (SOF.out _ (bel_on b1 g)).2.1, g⟩
  have FIN : Hid (∀ V, Below w1.heap.size w1 V → Below w.heap.size w V) := Lib.hid fun V g => BW.out.trans ((bel_on b1 g).mono BW.out.size)
  have S1 := SO1.out _ (bel_dr (Below.refl _ w1))
  clear rg b1 A22 A13 HW B22 B23 B15 B14 B19 B24 SOF RN BW hWs
  go_wp2_with fail
  go_region_held3 (fun w' => w'.cell? ⟨w.heap.size, 0, none⟩ = some (.int .i64 base) ∧ w'.cell? ⟨w.heap.size, 1, none⟩ = some (.slice a LL.length c) ∧ Below w1.heap.size w1 w')
    (first | (with_reducible exact S1) | (refine SO1.out _ ?_; (repeat (with_reducible first | assumption | exact Below.refl _ _ | refine bel_dr ?_ | refine bel_al ?_ _)); done))
    (first
      | (go_at_call 22; (with_reducible refine (C22.out _ (by (repeat (with_reducible first | assumption | exact Below.refl _ _ | refine bel_dr ?_ | refine bel_al ?_ _)))).mono ?_); rintro e w2 ⟨rfl, rfl⟩)
      | (go_at_call 23; (with_reducible refine (C23.out _ (by (repeat (with_reducible first | assumption | exact Below.refl _ _ | refine bel_dr ?_ | refine bel_al ?_ _)))).mono ?_); rintro e w2 ⟨rfl, b2⟩; have g2 : Below w1.heap.size w1 w2 := bel_on (by (repeat (with_reducible first | assumption | exact Below.refl _ _ | refine bel_dr ?_ | refine bel_al ?_ _))) b2)
      | (go_at_call 15; (with_reducible refine (C15.out _ (by (repeat (with_reducible first | assumption | exact Below.refl _ _ | refine bel_dr ?_ | refine bel_al ?_ _)))).mono ?_); rintro e w4 ⟨ar, cr, rfl, rr, b4⟩; have g4 : Below w1.heap.size w1 w4 := bel_on (by (repeat (with_reducible first | assumption | exact Below.refl _ _ | refine bel_dr ?_ | refine bel_al ?_ _))) b4; have RR := Lib.hid rr)
      | (go_at_call 14; (with_reducible refine (C14.out _ ar cr (by (repeat (with_reducible first | assumption | exact Below.refl _ _ | refine bel_dr ?_ | refine bel_al ?_ _))) RR.out).mono ?_); rintro e w5 ⟨rfl, b5⟩; have g5 : Below w1.heap.size w1 w5 := bel_on (by (repeat (with_reducible first | assumption | exact Below.refl _ _ | refine bel_dr ?_ | refine bel_al ?_ _))) b5)
      | (go_at_call 19; (with_reducible refine (C19.out _ (by (repeat (with_reducible first | assumption | exact Below.refl _ _ | refine bel_dr ?_ | refine bel_al ?_ _)))).mono ?_); rintro e w6 ⟨rfl, b6⟩; have g6 : Below w1.heap.size w1 w6 := bel_on (by (repeat (with_reducible first | assumption | exact Below.refl _ _ | refine bel_dr ?_ | refine bel_al ?_ _))) b6)
      | (go_at_call 24; (with_reducible refine (C24.out _ (by (repeat (with_reducible first | assumption | exact Below.refl _ _ | refine bel_dr ?_ | refine bel_al ?_ _)))).mono ?_); rintro e w7 ⟨rfl, b7⟩; have g7 : Below w1.heap.size w1 w7 := bel_on (by (repeat (with_reducible first | assumption | exact Below.refl _ _ | refine bel_dr ?_ | refine bel_al ?_ _))) b7))
  all_goals go_wp2_with fail
  all_goals go_ret
  all_goals exact ⟨rfl, FIN.out _ (by assumption)⟩
end Go.Proofs.Ytlcgicgdlhnfoaa
