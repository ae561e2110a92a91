/-
  THE LAW EventTexts AS A WALK.
-/
import Derived.Test.YtgenefamhhncbaaEnc2
import Derived.Test.YtgenefamhhncbaaEvr
namespace Go.Proofs.Ytgenefamhhncbaa
open Go.RowKit
set_option maxHeartbeats 2000000 in
set_option maxRecDepth 100000 in
theorem texts_law (a b c : Int) (k : ByteArray) (p : Option Addr) (cp : Nat) (L : List Fld) (w : World) (hl : L.length ≤ 9223372036854775807) (hk : k.size ≤ 9223372036854775807) (hx : Flds w p L) (hS : ∀ x ∈ L, x.nm.size ≤ 9223372036854775807 ∧ x.v.s.size ≤ 281474976710656) (hW : ∀ x ∈ L, x.v.Wf) :
    Calls Try.prog 4 #[evV a b c k (.slice p L.length cp)] w fun e w' => e = .returned (.bool true) ∧ Below w.heap.size w w' := by
  obtain ⟨w1, hw1, K1, B1, hs1⟩ : ∃ w1, w1 = w.alloc (.cells #[.int .i64 a, .int .i64 b, .int .i64 c, .string k, .slice p L.length cp] 24) ∧ Blk w1 w.heap.size 24 #[.int .i64 a, .int .i64 b, .int .i64 c, .string k, .slice p L.length cp] ∧ Below w.heap.size w w1 ∧ w1.heap.size = w.heap.size + 1 :=
    ⟨_, rfl, heap_alloc_new w _, (Below.refl _ w).alloc (Nat.le_refl _) _, by simp⟩
  have W1 := Lib.hid hw1
  have B1h := Lib.hid B1
  have K1h := Lib.hid K1
  have HX := Lib.hid hx
  have HS := Lib.hid hS
  have HW := Lib.hid hW
  have e0 : w1.cell? ⟨w.heap.size, 0, none⟩ = some (.int .i64 a) := K1.cell 0
  have e1 : w1.cell? ⟨w.heap.size, 1, none⟩ = some (.int .i64 b) := K1.cell 1
  have e2 : w1.cell? ⟨w.heap.size, 2, none⟩ = some (.int .i64 c) := K1.cell 2
  have e3 : w1.cell? ⟨w.heap.size, 3, none⟩ = some (.string k) := K1.cell 3
  have e4 : w1.cell? ⟨w.heap.size, 4, none⟩ = some (.slice p L.length cp) := K1.cell 4
  clear hw1 B1 K1 hx hS hW
  by_cases h100 : L.length ≤ 100
  · have CC := Lib.hid (encode_any a b c k p cp L w1 h100 hk (HX.out.below B1h.out) HS.out HW.out)
    have RF := Lib.hid (fun W (hb : Below w.heap.size w W) => show Calls Try.prog 15 #[.agg #[.int .i64 a, .int .i64 b, .int .i64 c, .string k, .slice p L.length cp]] W (fun e w' => ∃ p' cp', e = .returned (.agg #[.int .i64 a, .int .i64 b, .int .i64 c, .string k, .slice p' L.length cp']) ∧ Flds w' p' L ∧ Below W.heap.size W w') from ref_any a b c k p cp L W h100 (HX.out.below hb))
    have RC := Lib.hid (fun p' cp' W (hx : Flds W p' L) => rencode_any a b c k p' cp' L W h100 hk hx HS.out HW.out)
    generalize errI (chkB a b c k L) = r at *
    generalize (if chkB a b c k L = true then evS a b c k L else ⟨#[]⟩) = q at *
    unfold evV at CC RC ⊢
    generalize hn : L.length = n at *
    have HN := Lib.hid hn
    clear hn HX HS HW
    generalize hy : w.heap.size = Y at *
    go_enter Try.func4, Try.ntmps4
    go_wp2_with fail
    rw [← W1.out]
    go_wp2_with fail
    refine CC.out.mono ?_
    rintro e w2 ⟨rfl, b2⟩
    have B2h : Hid (Below Y w w2) := Lib.hid (B1h.out.trans (b2.mono (by omega)))
    have K2 := K1h.out.below b2
    have d0 : w2.cell? ⟨Y, 0, none⟩ = some (.int .i64 a) := K2.cell 0
    have d1 : w2.cell? ⟨Y, 1, none⟩ = some (.int .i64 b) := K2.cell 1
    have d2 : w2.cell? ⟨Y, 2, none⟩ = some (.int .i64 c) := K2.cell 2
    have d3 : w2.cell? ⟨Y, 3, none⟩ = some (.string k) := K2.cell 3
    have d4 : w2.cell? ⟨Y, 4, none⟩ = some (.slice p n cp) := K2.cell 4
    clear K2 b2 e0 e1 e2 e3 e4
    go_wp2_with fail
    refine (RF.out _ B2h.out).mono ?_
    rintro e w3 ⟨p3, cp3, rfl, F3, b3⟩
    have F3h := Lib.hid F3
    have B3h : Hid (Below Y w w3) := Lib.hid (B2h.out.trans (b3.mono (by have := B2h.out.size; omega)))
    clear F3 b3 d0 d1 d2 d3 d4
    go_wp2_with fail
    refine (RC.out _ _ _ F3h.out).mono ?_
    rintro e w4 ⟨rfl, b4⟩
    have B4h : Hid (Below Y w w4) := Lib.hid (B3h.out.trans (b4.mono (by have := B3h.out.size; omega)))
    clear b4
    go_wp2_with fail
    refine (awake_any _).mono ?_
    rintro e w5 ⟨rfl, b5⟩
    have B5h : Hid (Below Y w w5) := Lib.hid (B4h.out.trans (b5.mono (by have := B4h.out.size; omega)))
    clear b5
    go_wp2_with fail
    go_ret
    exact ⟨ret_bool (by simp), B5h.out⟩
  · have h100' : ¬ (L.length : Int) ≤ 100 := by omega
    generalize L.length = n at *
    generalize hy : w.heap.size = Y at *
    unfold evV
    go_enter Try.func4, Try.ntmps4
    go_wp2_with fail
    rw [← W1.out]
    go_wp2_with fail
    refine (awake_any _).mono ?_
    rintro e w2 ⟨rfl, b2⟩
    have B2h : Hid (Below Y w w2) := Lib.hid (B1h.out.trans (b2.mono (by omega)))
    clear b2
    go_wp2_with fail
    go_ret
    exact ⟨rfl, B2h.out⟩
end Go.Proofs.Ytgenefamhhncbaa
