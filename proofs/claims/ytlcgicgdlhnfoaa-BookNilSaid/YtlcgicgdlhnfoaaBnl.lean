/-
  BookNil as a walk.
-/
import Derived.Test.YtlcgicgdlhnfoaaBtx
namespace Go.Proofs.Ytlcgicgdlhnfoaa
open Go.RowKit
theorem nil_txt : txtS 0 [] = ⟨#[0, 0]⟩ := by decide +kernel
set_option maxHeartbeats 4000000 in
set_option maxRecDepth 100000 in
theorem nil_law (q : Option Addr) (c : Nat) (P : List Int) (n : Int) (w : World) : Calls Try.prog 7 #[.agg #[.slice q P.length c], .int .i64 n] w fun e w' => e = .returned (.bool true) ∧ Below w.heap.size w w' := by
  obtain ⟨W, hW⟩ : ∃ W, W = w.alloc (.cells #[.slice q P.length c] 37) := ⟨_, rfl⟩
  have bW : Below w.heap.size w W := by rw [hW]; exact (Below.refl _ w).alloc (Nat.le_refl _) _
  have kW : Blk W w.heap.size 37 #[.slice q P.length c] := by rw [hW]; exact Blk.new _ _ _
  have T := Lib.hid text_nil
  rw [nil_txt] at T
  have AW := Lib.hid awake_any
  have PN := Lib.hid (fun V => put_nil (.agg #[.slice q P.length c]) (.slice q P.length c) rfl rfl V)
  have BW := Lib.hid bW
  have KW := Lib.hid kW
  have HW := Lib.hid hW
  clear bW kW hW
  generalize P.length = m at *
  go_enter Try.func7, Try.ntmps7
  go_wp2_with (rw [← HW.out])
  refine (read_nil _ _ _).mono ?_
  rintro e w1 ⟨rfl, b1⟩
  have B1 := Lib.hid (BW.out.trans (b1.mono BW.out.size))
  have K1 := Lib.hid (KW.out.next b1)
  clear b1 BW KW HW
  go_wp2_with fail
  refine (AW.out _).mono ?_
  rintro e w2 ⟨rfl, b2⟩
  have B2 := Lib.hid (B1.out.trans (b2.mono B1.out.size))
  have K2 := Lib.hid (K1.out.next b2)
  have c2 : w2.cell? ⟨w.heap.size, 0, none⟩ = some (.slice q m c) := K2.out.cell 0
  clear b2 B1 K1 AW
  go_wp2_with fail
  refine (PN.out _).mono ?_
  rintro e w3 ⟨rfl, b3⟩
  have B3 := Lib.hid (B2.out.trans (b3.mono B2.out.size))
  clear b3 B2 K2 c2 PN
  go_wp2_with fail
  refine (forget_nil _ _).mono ?_
  rintro e w4 ⟨rfl, rfl⟩
  go_wp2_with fail
  refine (base_nil _).mono ?_
  rintro e w4 ⟨rfl, rfl⟩
  go_wp2_with fail
  refine (end_nil _).mono ?_
  rintro e w4 ⟨rfl, rfl⟩
  go_wp2_with fail
  refine (T.out _).mono ?_
  rintro e w5 ⟨rfl, b5⟩
  have B5 := Lib.hid (B3.out.trans (b5.mono B3.out.size))
  clear b5 B3 T
  go_wp2_with fail
  go_ret
  exact ⟨rfl, B5.out⟩
end Go.Proofs.Ytlcgicgdlhnfoaa
