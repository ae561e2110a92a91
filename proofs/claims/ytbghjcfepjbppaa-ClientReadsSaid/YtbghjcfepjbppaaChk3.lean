/-
  EVENTS THAT MAY BE: event.Check.
-/
import Derived.Test.YtbghjcfepjbppaaChk2
namespace Go.Proofs.Ytbghjcfepjbppaa
open Go.RowKit
def chkB (a b c : Int) (k : ByteArray) (L : List Fld) : Bool := numB a && (numB b && (numB c && (wordB k && fieldsB L)))
def errI (b : Bool) : Int := if b then 0 else 1
theorem ret_int {x y : Int} (h : x = y) : Ending.returned (.int .i64 x) = .returned (.int .i64 y) := by rw [h]
set_option maxHeartbeats 1000000 in
set_option maxRecDepth 100000 in
theorem check_any (a b c : Int) (k : ByteArray) (p : Option Addr) (cp : Nat) (L : List Fld) (w : World) (hl : L.length ≤ 100) (hk : k.size ≤ 9223372036854775807) (hx : Flds w p L) (hS : ∀ x ∈ L, x.nm.size ≤ 9223372036854775807 ∧ x.v.s.size ≤ 9223372036854775807) :
    Calls Try.prog 41 #[evV a b c k (.slice p L.length cp)] w fun e w' => e = .returned (.int .i64 (errI (chkB a b c k L))) ∧ Below w.heap.size w w' := by
  obtain ⟨w1, hw1, K1, B1, hs1⟩ : ∃ w1, w1 = w.alloc (.cells #[.int .i64 a, .int .i64 b, .int .i64 c, .string k, .slice p L.length cp] 31) ∧ Blk w1 w.heap.size 31 #[.int .i64 a, .int .i64 b, .int .i64 c, .string k, .slice p L.length cp] ∧ Below w.heap.size w w1 ∧ w1.heap.size = w.heap.size + 1 :=
    ⟨_, rfl, heap_alloc_new w _, (Below.refl w.heap.size w).alloc (Nat.le_refl _) _, by simp⟩
  have W1 := Lib.hid hw1
  have B1h := Lib.hid B1
  have NA := number_any a
  have NB := number_any b
  have NC := number_any c
  have WK := word_any k hk
  have FA := fields_any p cp L w1 hl (hx.below B1) hS
  have e0 : w1.cell? ⟨w.heap.size, 0, none⟩ = some (.int .i64 a) := K1.cell 0
  have e1 : w1.cell? ⟨w.heap.size, 1, none⟩ = some (.int .i64 b) := K1.cell 1
  have e2 : w1.cell? ⟨w.heap.size, 2, none⟩ = some (.int .i64 c) := K1.cell 2
  have e3 : w1.cell? ⟨w.heap.size, 3, none⟩ = some (.string k) := K1.cell 3
  have e4 : w1.cell? ⟨w.heap.size, 4, none⟩ = some (.slice p L.length cp) := K1.cell 4
  clear hx hS K1 B1 hw1
  unfold chkB errI
  generalize fieldsB L = bF at *
  generalize L.length = n at *
  generalize numB a = bA at *
  generalize numB b = bB at *
  generalize numB c = bC at *
  generalize wordB k = bK at *
  have NAh := Lib.hid NA
  have NBh := Lib.hid NB
  have NCh := Lib.hid NC
  have WKh := Lib.hid WK
  have FAh := Lib.hid FA
  clear NA NB NC WK FA
  generalize hy : w.heap.size = Y at *
  unfold evV
  cases bA
  · go_enter Try.func41, Try.ntmps41
    go_wp2_with fail
    rw [← W1.out]
    go_wp2_with fail
    refine (NAh.out _).mono ?_
    rintro e w2 ⟨rfl, rfl⟩
    go_wp2_with fail
    go_ret
    exact ⟨rfl, B1h.out⟩
  · skip
    cases bB
    · go_enter Try.func41, Try.ntmps41
      go_wp2_with fail
      rw [← W1.out]
      go_wp2_with fail
      refine (NAh.out _).mono ?_
      rintro e w2 ⟨rfl, rfl⟩
      go_wp2_with fail
      refine (NBh.out _).mono ?_
      rintro e w3 ⟨rfl, rfl⟩
      go_wp2_with fail
      go_ret
      exact ⟨rfl, B1h.out⟩
    · skip
      cases bC
      · go_enter Try.func41, Try.ntmps41
        go_wp2_with fail
        rw [← W1.out]
        go_wp2_with fail
        refine (NAh.out _).mono ?_
        rintro e w2 ⟨rfl, rfl⟩
        go_wp2_with fail
        refine (NBh.out _).mono ?_
        rintro e w3 ⟨rfl, rfl⟩
        go_wp2_with fail
        refine (NCh.out _).mono ?_
        rintro e w4 ⟨rfl, rfl⟩
        go_wp2_with fail
        go_ret
        exact ⟨rfl, B1h.out⟩
      · skip
        cases bK
        · go_enter Try.func41, Try.ntmps41
          go_wp2_with fail
          rw [← W1.out]
          go_wp2_with fail
          refine (NAh.out _).mono ?_
          rintro e w2 ⟨rfl, rfl⟩
          go_wp2_with fail
          refine (NBh.out _).mono ?_
          rintro e w3 ⟨rfl, rfl⟩
          go_wp2_with fail
          refine (NCh.out _).mono ?_
          rintro e w4 ⟨rfl, rfl⟩
          go_wp2_with fail
          refine (WKh.out _).mono ?_
          rintro e w5 ⟨rfl, rfl⟩
          go_wp2_with fail
          go_ret
          exact ⟨rfl, B1h.out⟩
        · skip
          cases bF
          · go_enter Try.func41, Try.ntmps41
            go_wp2_with fail
            rw [← W1.out]
            go_wp2_with fail
            refine (NAh.out _).mono ?_
            rintro e w2 ⟨rfl, rfl⟩
            go_wp2_with fail
            refine (NBh.out _).mono ?_
            rintro e w3 ⟨rfl, rfl⟩
            go_wp2_with fail
            refine (NCh.out _).mono ?_
            rintro e w4 ⟨rfl, rfl⟩
            go_wp2_with fail
            refine (WKh.out _).mono ?_
            rintro e w5 ⟨rfl, rfl⟩
            go_wp2_with fail
            refine (FAh.out).mono ?_
            rintro e w5 ⟨rfl, b5⟩
            have B5h : Hid (Below Y w w5) := Lib.hid (B1h.out.trans (b5.mono (by omega)))
            clear b5
            go_wp2_with fail
            go_ret
            exact ⟨rfl, B5h.out⟩
          · go_enter Try.func41, Try.ntmps41
            go_wp2_with fail
            rw [← W1.out]
            go_wp2_with fail
            refine (NAh.out _).mono ?_
            rintro e w2 ⟨rfl, rfl⟩
            go_wp2_with fail
            refine (NBh.out _).mono ?_
            rintro e w3 ⟨rfl, rfl⟩
            go_wp2_with fail
            refine (NCh.out _).mono ?_
            rintro e w4 ⟨rfl, rfl⟩
            go_wp2_with fail
            refine (WKh.out _).mono ?_
            rintro e w5 ⟨rfl, rfl⟩
            go_wp2_with fail
            refine (FAh.out).mono ?_
            rintro e w5 ⟨rfl, b5⟩
            have B5h : Hid (Below Y w w5) := Lib.hid (B1h.out.trans (b5.mono (by omega)))
            clear b5
            go_wp2_with fail
            go_ret
            exact ⟨rfl, B5h.out⟩
end Go.Proofs.Ytbghjcfepjbppaa
