/-
  THE LAW EventChecks AS A WALK.
-/
import Derived.Test.YtgenefamhhncbaaChk5
import Derived.Test.YtgenefamhhncbaaEvr
import Derived.Deep.RegionHeld3
namespace Go.Proofs.Ytgenefamhhncbaa
open Go.RowKit
/-- the event's cells -/
abbrev SC (Y : Nat) (v0 v1 v2 v3 v4 : Value) (w : World) : Prop :=
  w.cell? ⟨Y, 0, none⟩ = some v0 ∧ w.cell? ⟨Y, 1, none⟩ = some v1 ∧ w.cell? ⟨Y, 2, none⟩ = some v2 ∧ w.cell? ⟨Y, 3, none⟩ = some v3 ∧ w.cell? ⟨Y, 4, none⟩ = some v4
theorem SC.below {Y : Nat} {v0 v1 v2 v3 v4 : Value} {w w' : World} (h : SC Y v0 v1 v2 v3 v4 w) (hb : Below w.heap.size w w') : SC Y v0 v1 v2 v3 v4 w' := by
  obtain ⟨c0, c1, c2, c3, c4⟩ := h
  have e : ∀ {b o : Nat} {v : Value}, w.cell? ⟨b, o, none⟩ = some v → w'.cell? ⟨b, o, none⟩ = some v := fun hc => by rw [hb.cell (p := ⟨_, _, none⟩) (World.block_lt_of_cell? _ _ hc)]; exact hc
  exact ⟨e c0, e c1, e c2, e c3, e c4⟩
set_option maxHeartbeats 2000000 in
set_option maxRecDepth 100000 in
theorem checks_law (a b c : Int) (k s : ByteArray) (p : Option Addr) (cp : Nat) (L : List Fld) (w : World) (hl : L.length ≤ 9223372036854775807) (hk : k.size ≤ 9223372036854775807) (hs : s.size ≤ 9223372036854775807) (hx : Flds w p L) (hS : ∀ x ∈ L, x.nm.size ≤ 9223372036854775807 ∧ x.v.s.size ≤ 9223372036854775807) :
    Calls Try.prog 3 #[evV a b c k (.slice p L.length cp), .string s] w fun e w' => e = .returned (.bool true) ∧ Below w.heap.size w w' := by
  obtain ⟨w1, hw1, K1, B1, hs1⟩ : ∃ w1, w1 = w.alloc (.cells #[.int .i64 a, .int .i64 b, .int .i64 c, .string k, .slice p L.length cp] 24) ∧ Blk w1 w.heap.size 24 #[.int .i64 a, .int .i64 b, .int .i64 c, .string k, .slice p L.length cp] ∧ Below w.heap.size w w1 ∧ w1.heap.size = w.heap.size + 1 :=
    ⟨_, rfl, heap_alloc_new w _, (Below.refl _ w).alloc (Nat.le_refl _) _, by simp⟩
  have W1 := Lib.hid hw1
  have B1h := Lib.hid B1
  have HX := Lib.hid hx
  have HS := Lib.hid hS
  have e0 : w1.cell? ⟨w.heap.size, 0, none⟩ = some (.int .i64 a) := K1.cell 0
  have e1 : w1.cell? ⟨w.heap.size, 1, none⟩ = some (.int .i64 b) := K1.cell 1
  have e2 : w1.cell? ⟨w.heap.size, 2, none⟩ = some (.int .i64 c) := K1.cell 2
  have e3 : w1.cell? ⟨w.heap.size, 3, none⟩ = some (.string k) := K1.cell 3
  have e4 : w1.cell? ⟨w.heap.size, 4, none⟩ = some (.slice p L.length cp) := K1.cell 4
  clear hw1 B1 K1 hx hS
  by_cases h100 : L.length ≤ 100
  · have CC := Lib.hid (fun W (hb : Below w.heap.size w W) => check_any a b c k p cp L W h100 hk (HX.out.below hb) HS.out)
    have RF := Lib.hid (fun W (hb : Below w.heap.size w W) => show Calls Try.prog 15 #[.agg #[.int .i64 a, .int .i64 b, .int .i64 c, .string k, .slice p L.length cp]] W (fun e w' => ∃ p' cp', e = .returned (.agg #[.int .i64 a, .int .i64 b, .int .i64 c, .string k, .slice p' L.length cp']) ∧ Flds w' p' L ∧ Below W.heap.size W w') from ref_any a b c k p cp L W h100 (HX.out.below hb))
    have RC := Lib.hid (fun p' cp' W (hx : Flds W p' L) => rcheck_any a b c k p' cp' L W h100 hk hx HS.out)
    have WD := Lib.hid (word_any s hs)
    have RW := Lib.hid (rword_any s hs)
    generalize errI (chkB a b c k L) = r at *
    generalize wordB s = q at *
    unfold evV at CC RC ⊢
    generalize hn : L.length = n at *
    have HN := Lib.hid hn
    clear hn HX HS
    generalize hy : w.heap.size = Y at *
    go_enter Try.func3, Try.ntmps3
    go_wp2_with fail
    rw [← W1.out]
    go_wp2_with fail
    have S1 : SC Y (.int .i64 a) (.int .i64 b) (.int .i64 c) (.string k) (.slice p n cp) w1.drew := ⟨e0, e1, e2, e3, e4⟩
    clear e0 e1 e2 e3 e4
    cases q
    all_goals
      go_region_held3 (fun w' => w'.cell? ⟨Y, 0, none⟩ = some (.int .i64 a) ∧ w'.cell? ⟨Y, 1, none⟩ = some (.int .i64 b) ∧ w'.cell? ⟨Y, 2, none⟩ = some (.int .i64 c) ∧ w'.cell? ⟨Y, 3, none⟩ = some (.string k) ∧ w'.cell? ⟨Y, 4, none⟩ = some (.slice p n cp))
        (first | exact S1 | assumption | (refine SC.below ?_ b7; assumption) | (refine SC.below ?_ b6; assumption) | (refine SC.below ?_ b5; assumption) | (refine SC.below ?_ b2; assumption))
        (first
          | (go_at_call 10; refine (awake_any _).mono ?_; rintro e w2 ⟨rfl, b2⟩; have B2h : Hid (Below Y w w2) := Lib.hid (B1h.out.drew.trans (b2.mono (by have := B1h.out.size; show Y ≤ w1.heap.size; omega))))
          | (go_at_call 11; refine (WD.out _).mono ?_; rintro e w3 ⟨rfl, rfl⟩)
          | (go_at_call 12; refine (RW.out _).mono ?_; rintro e w4 ⟨rfl, rfl⟩)
          | (go_at_call 13; refine (CC.out _ B2h.out).mono ?_; rintro e w5 ⟨rfl, b5⟩; have B5h : Hid (Below Y w w5) := Lib.hid (B2h.out.trans (b5.mono (by have := B2h.out.size; omega))))
          | (go_at_call 15; refine (RF.out _ B5h.out).mono ?_; rintro e w6 ⟨p6, cp6, rfl, F6, b6⟩; have F6h := Lib.hid F6; have B6h : Hid (Below Y w w6) := Lib.hid (B5h.out.trans (b6.mono (by have := B5h.out.size; omega))); clear F6)
          | (go_at_call 14; refine (RC.out _ _ _ F6h.out).mono ?_; rintro e w7 ⟨rfl, b7⟩; have B7h : Hid (Below Y w w7) := Lib.hid (B6h.out.trans (b7.mono (by have := B6h.out.size; omega)))))
    all_goals (go_wp2_with fail; go_ret; exact ⟨ret_bool (by simp), B7h.out⟩)
  · have h100' : ¬ (L.length : Int) ≤ 100 := by omega
    generalize L.length = n at *
    generalize hy : w.heap.size = Y at *
    unfold evV
    go_enter Try.func3, Try.ntmps3
    go_wp2_with fail
    rw [← W1.out]
    go_wp2_with fail
    refine (awake_any _).mono ?_
    rintro e w2 ⟨rfl, b2⟩
    have B2h : Hid (Below Y w w2) := Lib.hid (B1h.out.trans (b2.mono (by omega)))
    clear b2
    go_wp2_with fail
    go_ret
    exact ⟨rfl, B2h.out⟩
end Go.Proofs.Ytgenefamhhncbaa
