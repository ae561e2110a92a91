/-
  A COMMAND's TEXT: sm.Write of CmdOpen and of CmdEvent.
-/
import Derived.Test.YtbghjcfepjbppaaSmw
namespace Go.Proofs.Ytbghjcfepjbppaa
open Go.RowKit
theorem num_one : Bt.numS 1 = ⟨#[1]⟩ := by decide +kernel
theorem num_two : Bt.numS 2 = ⟨#[2]⟩ := by decide +kernel
set_option maxHeartbeats 1000000 in
set_option maxRecDepth 100000 in
theorem write_open (w : World) : Calls Try.prog 67 #[cmdV 1 0 0 0 ⟨#[]⟩ (.slice none 0 0)] w fun e w' => e = .returned (.tuple #[.string ⟨#[1]⟩, .int .i64 0]) ∧ Below w.heap.size w w' := by
  obtain ⟨w1, hw1, K1, B1⟩ : ∃ w1, w1 = w.alloc (.cells #[.int .i64 1, .int .i64 0, .int .i64 0, .int .i64 0, .string ⟨#[]⟩, .slice none 0 0, .int .i64 0, .string ⟨#[]⟩, .string ⟨#[]⟩, .int .i64 0] 138) ∧ Blk w1 w.heap.size 138 #[.int .i64 1, .int .i64 0, .int .i64 0, .int .i64 0, .string ⟨#[]⟩, .slice none 0 0, .int .i64 0, .string ⟨#[]⟩, .string ⟨#[]⟩, .int .i64 0] ∧ Below w.heap.size w w1 :=
    ⟨_, rfl, heap_alloc_new w _, (Below.refl w.heap.size w).alloc (Nat.le_refl _) _⟩
  have MO := Lib.hid may_open
  have NM := Lib.hid (Bt.num_any 1 (by decide) (by decide))
  rw [num_one] at NM
  unfold cmdV at MO ⊢
  have K1h := Lib.hid K1
  have B1h := Lib.hid B1
  have W1 := Lib.hid hw1
  have hz := B1.size
  clear K1 B1 hw1
  generalize hy : w.heap.size = Y at *
  go_enter Try.func67, Try.ntmps67
  go_wp2_with fail
  rw [← W1.out]
  have e0 : w1.cell? ⟨Y, 0, none⟩ = some (.int .i64 1) := K1h.out.cell 0
  have e1 : w1.cell? ⟨Y, 1, none⟩ = some (.int .i64 0) := K1h.out.cell 1
  have e2 : w1.cell? ⟨Y, 2, none⟩ = some (.int .i64 0) := K1h.out.cell 2
  have e3 : w1.cell? ⟨Y, 3, none⟩ = some (.int .i64 0) := K1h.out.cell 3
  have e4 : w1.cell? ⟨Y, 4, none⟩ = some (.string ⟨#[]⟩) := K1h.out.cell 4
  have e5 : w1.cell? ⟨Y, 5, none⟩ = some (.slice none 0 0) := K1h.out.cell 5
  have e6 : w1.cell? ⟨Y, 6, none⟩ = some (.int .i64 0) := K1h.out.cell 6
  have e7 : w1.cell? ⟨Y, 7, none⟩ = some (.string ⟨#[]⟩) := K1h.out.cell 7
  have e8 : w1.cell? ⟨Y, 8, none⟩ = some (.string ⟨#[]⟩) := K1h.out.cell 8
  have e9 : w1.cell? ⟨Y, 9, none⟩ = some (.int .i64 0) := K1h.out.cell 9
  go_wp2_with fail
  refine (MO.out _).mono ?_
  rintro e w2 ⟨rfl, b2⟩
  have c0 : w2.cell? ⟨Y, 0, none⟩ = some (.int .i64 1) := (K1h.out.below b2).cell 0
  have B2 := Lib.hid (B1h.out.trans (b2.mono hz))
  have hz2 := Nat.le_trans hz b2.size
  have K2h := Lib.hid (K1h.out.below b2)
  clear b2 e0 e1 e2 e3 e4 e5 e6 e7 e8 e9 K1h B1h W1
  go_wp2_with fail
  refine (NM.out _).mono ?_
  rintro e w3 ⟨rfl, b3⟩
  have B3 := Lib.hid (B2.out.trans (b3.mono hz2))
  have d0 : w3.cell? ⟨Y, 0, none⟩ = some (.int .i64 1) := (K2h.out.below b3).cell 0
  clear b3 B2 c0 K2h
  go_wp2_with fail
  go_ret2
  exact ⟨rfl, B3.out⟩
/-- the text of a command that tells an event -/
def askS (a b c : Int) (k : ByteArray) (L : List Fld) : ByteArray := ⟨#[2]⟩ ++ evS a b c k L
set_option maxHeartbeats 1000000 in
set_option maxRecDepth 100000 in
theorem write_event (a b c : Int) (k : ByteArray) (p : Option Addr) (cp : Nat) (L : List Fld) (w : World) (hl : L.length ≤ 100) (hk : k.size ≤ 9223372036854775807) (hx : Flds w p L) (hS : ∀ x ∈ L, x.nm.size ≤ 9223372036854775807 ∧ x.v.s.size ≤ 281474976710656)
    (hW : ∀ x ∈ L, x.v.Wf) (ha : 1 ≤ a) (hb : 1 ≤ b) (hC : chkB a b c k L = true) (hB : (evS a b c k L).size ≤ 100000) :
    Calls Try.prog 67 #[cmdV 2 a b c k (.slice p L.length cp)] w fun e w' => e = .returned (.tuple #[.string (askS a b c k L), .int .i64 0]) ∧ Below w.heap.size w w' := by
  obtain ⟨w1, hw1, K1, B1⟩ : ∃ w1, w1 = w.alloc (.cells #[.int .i64 2, .int .i64 a, .int .i64 b, .int .i64 c, .string k, .slice p L.length cp, .int .i64 0, .string ⟨#[]⟩, .string ⟨#[]⟩, .int .i64 0] 138) ∧ Blk w1 w.heap.size 138 #[.int .i64 2, .int .i64 a, .int .i64 b, .int .i64 c, .string k, .slice p L.length cp, .int .i64 0, .string ⟨#[]⟩, .string ⟨#[]⟩, .int .i64 0] ∧ Below w.heap.size w w1 :=
    ⟨_, rfl, heap_alloc_new w _, (Below.refl w.heap.size w).alloc (Nat.le_refl _) _⟩
  have MO := Lib.hid (may_event a b c k p cp L w1 hl hk (hx.below B1) (fun x hx => by have := hS x hx; omega) ha hb hC)
  have EN : Hid (∀ w2, Below w1.heap.size w1 w2 → Calls Try.prog 86 #[evV a b c k (.slice p L.length cp)] w2 fun e w' => e = .returned (.tuple #[.string (evS a b c k L), .int .i64 0]) ∧ Below w2.heap.size w2 w') := Lib.hid (by
    intro w2 b2
    have h := encode_any a b c k p cp L w2 hl hk ((hx.below B1).below b2) hS hW
    rw [hC] at h
    exact h)
  have NM := Lib.hid (Bt.num_any 2 (by decide) (by decide))
  rw [num_two] at NM
  unfold cmdV at MO ⊢
  unfold evV at EN
  unfold askS
  have K1h := Lib.hid K1
  have B1h := Lib.hid B1
  have W1 := Lib.hid hw1
  have hz := B1.size
  clear K1 B1 hw1 hx hS hW hl hk ha hb hC
  generalize evS a b c k L = E at *
  generalize L.length = n at *
  generalize hy : w.heap.size = Y at *
  go_enter Try.func67, Try.ntmps67
  go_wp2_with fail
  rw [← W1.out]
  have e0 : w1.cell? ⟨Y, 0, none⟩ = some (.int .i64 2) := K1h.out.cell 0
  have e1 : w1.cell? ⟨Y, 1, none⟩ = some (.int .i64 a) := K1h.out.cell 1
  have e2 : w1.cell? ⟨Y, 2, none⟩ = some (.int .i64 b) := K1h.out.cell 2
  have e3 : w1.cell? ⟨Y, 3, none⟩ = some (.int .i64 c) := K1h.out.cell 3
  have e4 : w1.cell? ⟨Y, 4, none⟩ = some (.string k) := K1h.out.cell 4
  have e5 : w1.cell? ⟨Y, 5, none⟩ = some (.slice p n cp) := K1h.out.cell 5
  have e6 : w1.cell? ⟨Y, 6, none⟩ = some (.int .i64 0) := K1h.out.cell 6
  have e7 : w1.cell? ⟨Y, 7, none⟩ = some (.string ⟨#[]⟩) := K1h.out.cell 7
  have e8 : w1.cell? ⟨Y, 8, none⟩ = some (.string ⟨#[]⟩) := K1h.out.cell 8
  have e9 : w1.cell? ⟨Y, 9, none⟩ = some (.int .i64 0) := K1h.out.cell 9
  go_wp2_with fail
  refine (MO.out).mono ?_
  rintro e w2 ⟨rfl, b2⟩
  have c0 : w2.cell? ⟨Y, 0, none⟩ = some (.int .i64 2) := (K1h.out.below b2).cell 0
  have B2 := Lib.hid (B1h.out.trans (b2.mono hz))
  have hz2 := Nat.le_trans hz b2.size
  have B2' := Lib.hid b2
  clear b2 e0 e1 e2 e3 e4 e5 e6 e7 e8 e9 W1
  go_wp2_with fail
  refine (NM.out _).mono ?_
  rintro e w3 ⟨rfl, b3⟩
  have b13 : Below w1.heap.size w1 w3 := B2'.out.trans (b3.mono B2'.out.size)
  have K3 := K1h.out.below b13
  have e0 : w3.cell? ⟨Y, 0, none⟩ = some (.int .i64 2) := K3.cell 0
  have e1 : w3.cell? ⟨Y, 1, none⟩ = some (.int .i64 a) := K3.cell 1
  have e2 : w3.cell? ⟨Y, 2, none⟩ = some (.int .i64 b) := K3.cell 2
  have e3 : w3.cell? ⟨Y, 3, none⟩ = some (.int .i64 c) := K3.cell 3
  have e4 : w3.cell? ⟨Y, 4, none⟩ = some (.string k) := K3.cell 4
  have e5 : w3.cell? ⟨Y, 5, none⟩ = some (.slice p n cp) := K3.cell 5
  have EN3 := Lib.hid (EN.out w3 b13)
  have B3 := Lib.hid (B2.out.trans (b3.mono hz2))
  have hz3 := Nat.le_trans hz2 b3.size
  clear b3 B2 c0 b13 K3 K1h EN B2'
  go_wp2_with fail
  refine (EN3.out).mono ?_
  rintro e w4 ⟨rfl, b4⟩
  have B4 := Lib.hid (B3.out.trans (b4.mono hz3))
  clear b4 B3 e0 e1 e2 e3 e4 e5 EN3
  go_wp2_with fail
  all_goals (go_ret2; exact ⟨rfl, B4.out⟩)
end Go.Proofs.Ytbghjcfepjbppaa
