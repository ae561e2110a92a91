/-
  A COMMAND's TEXT: sm.nothing, may, Write, of CmdOpen and CmdEvent.
-/
import Derived.Test.YtbghjcfepjbppaaTel
import Derived.Test.YtbghjcfepjbppaaEnc1
namespace Go.Proofs.Ytbghjcfepjbppaa
open Go.RowKit
/-- a command of whose parts those of its event alone are not zero -/
def cmdV (k a b c : Int) (s : ByteArray) (f : Value) : Value := .agg #[.int .i64 k, .int .i64 a, .int .i64 b, .int .i64 c, .string s, f, .int .i64 0, .string ⟨#[]⟩, .string ⟨#[]⟩, .int .i64 0]
set_option maxRecDepth 100000 in
theorem nothing_zero (k : Int) (w : World) : Calls Try.prog 98 #[cmdV k 0 0 0 ⟨#[]⟩ (.slice none 0 0)] w fun e w' => e = .returned (.bool true) ∧ Below w.heap.size w w' := by
  have FIN := Lib.hid (fun o1 o2 => ((Below.refl w.heap.size w).alloc (Nat.le_refl _) o1).alloc (by simp) o2)
  unfold cmdV
  go_enter Try.func98, Try.ntmps98
  go_wp2_with fail
  go_ret
  exact ⟨rfl, FIN.out _ _⟩
set_option maxRecDepth 100000 in
theorem may_open (w : World) : Calls Try.prog 85 #[cmdV 1 0 0 0 ⟨#[]⟩ (.slice none 0 0)] w fun e w' => e = .returned (.bool true) ∧ Below w.heap.size w w' := by
  have NO := nothing_zero 1
  unfold cmdV at NO ⊢
  have NOh := Lib.hid NO
  have FIN := Lib.hid (fun o1 => (Below.refl w.heap.size w).alloc (Nat.le_refl _) o1)
  clear NO
  go_enter Try.func85, Try.ntmps85
  go_wp2_with fail
  refine (NOh.out _).mono ?_
  rintro e w1 ⟨rfl, b1⟩
  have B1 := Lib.hid b1
  clear b1
  go_wp2_with fail
  go_ret
  exact ⟨rfl, (FIN.out _).trans (B1.out.mono (by simp))⟩
set_option maxHeartbeats 1000000 in
set_option maxRecDepth 100000 in
theorem may_event (a b c : Int) (k : ByteArray) (p : Option Addr) (cp : Nat) (L : List Fld) (w : World) (hl : L.length ≤ 100) (hk : k.size ≤ 9223372036854775807) (hx : Flds w p L) (hS : ∀ x ∈ L, x.nm.size ≤ 9223372036854775807 ∧ x.v.s.size ≤ 9223372036854775807)
    (ha : 1 ≤ a) (hb : 1 ≤ b) (hC : chkB a b c k L = true) :
    Calls Try.prog 85 #[cmdV 2 a b c k (.slice p L.length cp)] w fun e w' => e = .returned (.bool true) ∧ Below w.heap.size w w' := by
  obtain ⟨w1, hw1, K1, B1, hs1⟩ : ∃ w1, w1 = w.alloc (.cells #[.int .i64 2, .int .i64 a, .int .i64 b, .int .i64 c, .string k, .slice p L.length cp, .int .i64 0, .string ⟨#[]⟩, .string ⟨#[]⟩, .int .i64 0] 138) ∧ Blk w1 w.heap.size 138 #[.int .i64 2, .int .i64 a, .int .i64 b, .int .i64 c, .string k, .slice p L.length cp, .int .i64 0, .string ⟨#[]⟩, .string ⟨#[]⟩, .int .i64 0] ∧ Below w.heap.size w w1 ∧ w1.heap.size = w.heap.size + 1 :=
    ⟨_, rfl, heap_alloc_new w _, (Below.refl w.heap.size w).alloc (Nat.le_refl _) _, by simp⟩
  have CH := check_any a b c k p cp L w1 hl hk (hx.below B1) hS
  rw [hC] at CH
  have CHh := Lib.hid CH
  have NO := nothing_zero 2
  unfold cmdV at NO ⊢
  unfold evV at CHh
  have NOh := Lib.hid NO
  have W1 := Lib.hid hw1
  have K1h := Lib.hid K1
  have FIN : Hid (∀ (w2 w3 : World), Below w1.heap.size w1 w2 → Below w2.heap.size (((((w2.setCell ⟨w.heap.size, 1, none⟩ (.int .i64 0)).setCell ⟨w.heap.size, 2, none⟩ (.int .i64 0)).setCell ⟨w.heap.size, 3, none⟩ (.int .i64 0)).setCell ⟨w.heap.size, 4, none⟩ (.string ⟨#[]⟩)).setCell ⟨w.heap.size, 5, none⟩ (.slice none 0 0)) w3 → Below w.heap.size w w3) := Lib.hid (by
    intro w2 w3 b2 b3
    have b : Below w.heap.size w w2 := B1.trans (b2.mono (by omega))
    have hz := b2.size
    exact (((((b.setCell (p := ⟨w.heap.size, 1, none⟩) (Nat.le_refl _) _).setCell (p := ⟨w.heap.size, 2, none⟩) (Nat.le_refl _) _).setCell (p := ⟨w.heap.size, 3, none⟩) (Nat.le_refl _) _).setCell (p := ⟨w.heap.size, 4, none⟩) (Nat.le_refl _) _).setCell (p := ⟨w.heap.size, 5, none⟩) (Nat.le_refl _) _).trans (b3.mono (by omega)))
  have e1 : w1.cell? ⟨w.heap.size, 1, none⟩ = some (.int .i64 a) := K1.cell 1
  have e2 : w1.cell? ⟨w.heap.size, 2, none⟩ = some (.int .i64 b) := K1.cell 2
  have e3 : w1.cell? ⟨w.heap.size, 3, none⟩ = some (.int .i64 c) := K1.cell 3
  have e4 : w1.cell? ⟨w.heap.size, 4, none⟩ = some (.string k) := K1.cell 4
  have e5 : w1.cell? ⟨w.heap.size, 5, none⟩ = some (.slice p L.length cp) := K1.cell 5
  have e0 : w1.cell? ⟨w.heap.size, 0, none⟩ = some (.int .i64 2) := K1.cell 0
  clear NO CH hw1 K1 hx hS hl hk B1 hC
  generalize L.length = n at *
  generalize hy : w.heap.size = Y at *
  go_enter Try.func85, Try.ntmps85
  go_wp2_with fail
  rw [← W1.out]
  go_wp2_with fail
  refine (CHh.out).mono ?_
  rintro e w2 ⟨rfl, b2⟩
  have K2 := K1h.out.below b2
  have c0 : w2.cell? ⟨Y, 0, none⟩ = some (.int .i64 2) := K2.cell 0
  have c1 : w2.cell? ⟨Y, 1, none⟩ = some (.int .i64 a) := K2.cell 1
  have c2 : w2.cell? ⟨Y, 2, none⟩ = some (.int .i64 b) := K2.cell 2
  have c3 : w2.cell? ⟨Y, 3, none⟩ = some (.int .i64 c) := K2.cell 3
  have c4 : w2.cell? ⟨Y, 4, none⟩ = some (.string k) := K2.cell 4
  have c5 : w2.cell? ⟨Y, 5, none⟩ = some (.slice p n cp) := K2.cell 5
  have c6 : w2.cell? ⟨Y, 6, none⟩ = some (.int .i64 0) := K2.cell 6
  have c7 : w2.cell? ⟨Y, 7, none⟩ = some (.string ⟨#[]⟩) := K2.cell 7
  have c8 : w2.cell? ⟨Y, 8, none⟩ = some (.string ⟨#[]⟩) := K2.cell 8
  have c9 : w2.cell? ⟨Y, 9, none⟩ = some (.int .i64 0) := K2.cell 9
  have fz : ∀ i, w2.frozen? ⟨Y, i, none⟩ = false := fun i => K2.free i
  have hE : errI true = 0 := rfl
  have B2 := Lib.hid b2
  clear K2 b2 e0 e1 e2 e3 e4 e5 W1 K1h CHh
  rw [hE]
  go_wp2_with fail
  refine (NOh.out _).mono ?_
  rintro e w3 ⟨rfl, b3⟩
  have B3 := FIN.out _ _ B2.out (b3.mono (by simp))
  clear b3 c0 c1 c2 c3 c4 c5 c6 c7 c8 c9 fz
  go_wp2_with fail
  go_ret
  exact ⟨rfl, B3⟩
end Go.Proofs.Ytbghjcfepjbppaa
