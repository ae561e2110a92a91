/-
  WHAT THE ROWS REST ON, part 8: Smw Smv Tas.
-/
import Derived.Test.YtggjpallbapcmaaPart7
/-
  A COMMAND's TEXT: sm.nothing, may, Write, of CmdOpen and CmdEvent.
-/
namespace Go.Proofs.Ytggjpallbapcmaa
open Go.RowKit
/-- a command of whose parts those of its event alone are not zero -/
def cmdV (k a b c : Int) (s : ByteArray) (f : Value) : Value := .agg #[.int .i64 k, .int .i64 a, .int .i64 b, .int .i64 c, .string s, f, .int .i64 0, .string ⟨#[]⟩, .string ⟨#[]⟩, .int .i64 0]
set_option maxRecDepth 100000 in
theorem nothing_zero (k : Int) (w : World) : Calls Try.prog 98 #[cmdV k 0 0 0 ⟨#[]⟩ (.slice none 0 0)] w fun e w' => e = .returned (.bool true) ∧ Below w.heap.size w w' := by
  have FIN := Lib.hid (fun o1 o2 => ((Below.refl w.heap.size w).alloc (Nat.le_refl _) o1).alloc (by simp) o2)
  unfold cmdV
  go_enter Try.func98, Try.ntmps98
  go_wp2_with fail
  go_ret
  exact ⟨rfl, FIN.out _ _⟩
set_option maxRecDepth 100000 in
theorem may_open (w : World) : Calls Try.prog 85 #[cmdV 1 0 0 0 ⟨#[]⟩ (.slice none 0 0)] w fun e w' => e = .returned (.bool true) ∧ Below w.heap.size w w' := by
  have NO := nothing_zero 1
  unfold cmdV at NO ⊢
  have NOh := Lib.hid NO
  have FIN := Lib.hid (fun o1 => (Below.refl w.heap.size w).alloc (Nat.le_refl _) o1)
  clear NO
  go_enter Try.func85, Try.ntmps85
  go_wp2_with fail
  refine (NOh.out _).mono ?_
  rintro e w1 ⟨rfl, b1⟩
  have B1 := Lib.hid b1
  clear b1
  go_wp2_with fail
  go_ret
  exact ⟨rfl, (FIN.out _).trans (B1.out.mono (by simp))⟩
set_option maxHeartbeats 1000000 in
set_option maxRecDepth 100000 in
theorem may_event (a b c : Int) (k : ByteArray) (p : Option Addr) (cp : Nat) (L : List Fld) (w : World) (hl : L.length ≤ 100) (hk : k.size ≤ 9223372036854775807) (hx : Flds w p L) (hS : ∀ x ∈ L, x.nm.size ≤ 9223372036854775807 ∧ x.v.s.size ≤ 9223372036854775807)
    (ha : 1 ≤ a) (hb : 1 ≤ b) (hC : chkB a b c k L = true) :
    Calls Try.prog 85 #[cmdV 2 a b c k (.slice p L.length cp)] w fun e w' => e = .returned (.bool true) ∧ Below w.heap.size w w' := by
  obtain ⟨w1, hw1, K1, B1, hs1⟩ : ∃ w1, w1 = w.alloc (.cells #[.int .i64 2, .int .i64 a, .int .i64 b, .int .i64 c, .string k, .slice p L.length cp, .int .i64 0, .string ⟨#[]⟩, .string ⟨#[]⟩, .int .i64 0] 138) ∧ Blk w1 w.heap.size 138 #[.int .i64 2, .int .i64 a, .int .i64 b, .int .i64 c, .string k, .slice p L.length cp, .int .i64 0, .string ⟨#[]⟩, .string ⟨#[]⟩, .int .i64 0] ∧ Below w.heap.size w w1 ∧ w1.heap.size = w.heap.size + 1 :=
    ⟨_, rfl, heap_alloc_new w _, (Below.refl w.heap.size w).alloc (Nat.le_refl _) _, by simp⟩
  have CH := check_any a b c k p cp L w1 hl hk (hx.below B1) hS
  rw [hC] at CH
  have CHh := Lib.hid CH
  have NO := nothing_zero 2
  unfold cmdV at NO ⊢
  unfold evV at CHh
  have NOh := Lib.hid NO
  have W1 := Lib.hid hw1
  have K1h := Lib.hid K1
  have FIN : Hid (∀ (w2 w3 : World), Below w1.heap.size w1 w2 → Below w2.heap.size (((((w2.setCell ⟨w.heap.size, 1, none⟩ (.int .i64 0)).setCell ⟨w.heap.size, 2, none⟩ (.int .i64 0)).setCell ⟨w.heap.size, 3, none⟩ (.int .i64 0)).setCell ⟨w.heap.size, 4, none⟩ (.string ⟨#[]⟩)).setCell ⟨w.heap.size, 5, none⟩ (.slice none 0 0)) w3 → Below w.heap.size w w3) := Lib.hid (by
    intro w2 w3 b2 b3
    have b : Below w.heap.size w w2 := B1.trans (b2.mono (by omega))
    have hz := b2.size
    exact (((((b.setCell (p := ⟨w.heap.size, 1, none⟩) (Nat.le_refl _) _).setCell (p := ⟨w.heap.size, 2, none⟩) (Nat.le_refl _) _).setCell (p := ⟨w.heap.size, 3, none⟩) (Nat.le_refl _) _).setCell (p := ⟨w.heap.size, 4, none⟩) (Nat.le_refl _) _).setCell (p := ⟨w.heap.size, 5, none⟩) (Nat.le_refl _) _).trans (b3.mono (by omega)))
  have e1 : w1.cell? ⟨w.heap.size, 1, none⟩ = some (.int .i64 a) := K1.cell 1
  have e2 : w1.cell? ⟨w.heap.size, 2, none⟩ = some (.int .i64 b) := K1.cell 2
  have e3 : w1.cell? ⟨w.heap.size, 3, none⟩ = some (.int .i64 c) := K1.cell 3
  have e4 : w1.cell? ⟨w.heap.size, 4, none⟩ = some (.string k) := K1.cell 4
  have e5 : w1.cell? ⟨w.heap.size, 5, none⟩ = some (.slice p L.length cp) := K1.cell 5
  have e0 : w1.cell? ⟨w.heap.size, 0, none⟩ = some (.int .i64 2) := K1.cell 0
  clear NO CH hw1 K1 hx hS hl hk B1 hC
  generalize L.length = n at *
  generalize hy : w.heap.size = Y at *
  go_enter Try.func85, Try.ntmps85
  go_wp2_with fail
  rw [← W1.out]
  go_wp2_with fail
  refine (CHh.out).mono ?_
  rintro e w2 ⟨rfl, b2⟩
  have K2 := K1h.out.below b2
  have c0 : w2.cell? ⟨Y, 0, none⟩ = some (.int .i64 2) := K2.cell 0
  have c1 : w2.cell? ⟨Y, 1, none⟩ = some (.int .i64 a) := K2.cell 1
  have c2 : w2.cell? ⟨Y, 2, none⟩ = some (.int .i64 b) := K2.cell 2
  have c3 : w2.cell? ⟨Y, 3, none⟩ = some (.int .i64 c) := K2.cell 3
  have c4 : w2.cell? ⟨Y, 4, none⟩ = some (.string k) := K2.cell 4
  have c5 : w2.cell? ⟨Y, 5, none⟩ = some (.slice p n cp) := K2.cell 5
  have c6 : w2.cell? ⟨Y, 6, none⟩ = some (.int .i64 0) := K2.cell 6
  have c7 : w2.cell? ⟨Y, 7, none⟩ = some (.string ⟨#[]⟩) := K2.cell 7
  have c8 : w2.cell? ⟨Y, 8, none⟩ = some (.string ⟨#[]⟩) := K2.cell 8
  have c9 : w2.cell? ⟨Y, 9, none⟩ = some (.int .i64 0) := K2.cell 9
  have fz : ∀ i, w2.frozen? ⟨Y, i, none⟩ = false := fun i => K2.free i
  have hE : errI true = 0 := rfl
  have B2 := Lib.hid b2
  clear K2 b2 e0 e1 e2 e3 e4 e5 W1 K1h CHh
  rw [hE]
  go_wp2_with fail
  refine (NOh.out _).mono ?_
  rintro e w3 ⟨rfl, b3⟩
  have B3 := FIN.out _ _ B2.out (b3.mono (by simp))
  clear b3 c0 c1 c2 c3 c4 c5 c6 c7 c8 c9 fz
  go_wp2_with fail
  go_ret
  exact ⟨rfl, B3⟩
end Go.Proofs.Ytggjpallbapcmaa
/-
  A COMMAND's TEXT: sm.Write of CmdOpen and of CmdEvent.
-/
namespace Go.Proofs.Ytggjpallbapcmaa
open Go.RowKit
theorem num_one : Bt.numS 1 = ⟨#[1]⟩ := by decide +kernel
theorem num_two : Bt.numS 2 = ⟨#[2]⟩ := by decide +kernel
set_option maxHeartbeats 1000000 in
set_option maxRecDepth 100000 in
theorem write_open (w : World) : Calls Try.prog 67 #[cmdV 1 0 0 0 ⟨#[]⟩ (.slice none 0 0)] w fun e w' => e = .returned (.tuple #[.string ⟨#[1]⟩, .int .i64 0]) ∧ Below w.heap.size w w' := by
  obtain ⟨w1, hw1, K1, B1⟩ : ∃ w1, w1 = w.alloc (.cells #[.int .i64 1, .int .i64 0, .int .i64 0, .int .i64 0, .string ⟨#[]⟩, .slice none 0 0, .int .i64 0, .string ⟨#[]⟩, .string ⟨#[]⟩, .int .i64 0] 138) ∧ Blk w1 w.heap.size 138 #[.int .i64 1, .int .i64 0, .int .i64 0, .int .i64 0, .string ⟨#[]⟩, .slice none 0 0, .int .i64 0, .string ⟨#[]⟩, .string ⟨#[]⟩, .int .i64 0] ∧ Below w.heap.size w w1 :=
    ⟨_, rfl, heap_alloc_new w _, (Below.refl w.heap.size w).alloc (Nat.le_refl _) _⟩
  have MO := Lib.hid may_open
  have NM := Lib.hid (Bt.num_any 1 (by decide) (by decide))
  rw [num_one] at NM
  unfold cmdV at MO ⊢
  have K1h := Lib.hid K1
  have B1h := Lib.hid B1
  have W1 := Lib.hid hw1
  have hz := B1.size
  clear K1 B1 hw1
  generalize hy : w.heap.size = Y at *
  go_enter Try.func67, Try.ntmps67
  go_wp2_with fail
  rw [← W1.out]
  have e0 : w1.cell? ⟨Y, 0, none⟩ = some (.int .i64 1) := K1h.out.cell 0
  have e1 : w1.cell? ⟨Y, 1, none⟩ = some (.int .i64 0) := K1h.out.cell 1
  have e2 : w1.cell? ⟨Y, 2, none⟩ = some (.int .i64 0) := K1h.out.cell 2
  have e3 : w1.cell? ⟨Y, 3, none⟩ = some (.int .i64 0) := K1h.out.cell 3
  have e4 : w1.cell? ⟨Y, 4, none⟩ = some (.string ⟨#[]⟩) := K1h.out.cell 4
  have e5 : w1.cell? ⟨Y, 5, none⟩ = some (.slice none 0 0) := K1h.out.cell 5
  have e6 : w1.cell? ⟨Y, 6, none⟩ = some (.int .i64 0) := K1h.out.cell 6
  have e7 : w1.cell? ⟨Y, 7, none⟩ = some (.string ⟨#[]⟩) := K1h.out.cell 7
  have e8 : w1.cell? ⟨Y, 8, none⟩ = some (.string ⟨#[]⟩) := K1h.out.cell 8
  have e9 : w1.cell? ⟨Y, 9, none⟩ = some (.int .i64 0) := K1h.out.cell 9
  go_wp2_with fail
  refine (MO.out _).mono ?_
  rintro e w2 ⟨rfl, b2⟩
  have c0 : w2.cell? ⟨Y, 0, none⟩ = some (.int .i64 1) := (K1h.out.below b2).cell 0
  have B2 := Lib.hid (B1h.out.trans (b2.mono hz))
  have hz2 := Nat.le_trans hz b2.size
  have K2h := Lib.hid (K1h.out.below b2)
  clear b2 e0 e1 e2 e3 e4 e5 e6 e7 e8 e9 K1h B1h W1
  go_wp2_with fail
  refine (NM.out _).mono ?_
  rintro e w3 ⟨rfl, b3⟩
  have B3 := Lib.hid (B2.out.trans (b3.mono hz2))
  have d0 : w3.cell? ⟨Y, 0, none⟩ = some (.int .i64 1) := (K2h.out.below b3).cell 0
  clear b3 B2 c0 K2h
  go_wp2_with fail
  go_ret2
  exact ⟨rfl, B3.out⟩
/-- the text of a command that tells an event -/
def askS (a b c : Int) (k : ByteArray) (L : List Fld) : ByteArray := ⟨#[2]⟩ ++ evS a b c k L
set_option maxHeartbeats 1000000 in
set_option maxRecDepth 100000 in
theorem write_event (a b c : Int) (k : ByteArray) (p : Option Addr) (cp : Nat) (L : List Fld) (w : World) (hl : L.length ≤ 100) (hk : k.size ≤ 9223372036854775807) (hx : Flds w p L) (hS : ∀ x ∈ L, x.nm.size ≤ 9223372036854775807 ∧ x.v.s.size ≤ 281474976710656)
    (hW : ∀ x ∈ L, x.v.Wf) (ha : 1 ≤ a) (hb : 1 ≤ b) (hC : chkB a b c k L = true) (hB : (evS a b c k L).size ≤ 100000) :
    Calls Try.prog 67 #[cmdV 2 a b c k (.slice p L.length cp)] w fun e w' => e = .returned (.tuple #[.string (askS a b c k L), .int .i64 0]) ∧ Below w.heap.size w w' := by
  obtain ⟨w1, hw1, K1, B1⟩ : ∃ w1, w1 = w.alloc (.cells #[.int .i64 2, .int .i64 a, .int .i64 b, .int .i64 c, .string k, .slice p L.length cp, .int .i64 0, .string ⟨#[]⟩, .string ⟨#[]⟩, .int .i64 0] 138) ∧ Blk w1 w.heap.size 138 #[.int .i64 2, .int .i64 a, .int .i64 b, .int .i64 c, .string k, .slice p L.length cp, .int .i64 0, .string ⟨#[]⟩, .string ⟨#[]⟩, .int .i64 0] ∧ Below w.heap.size w w1 :=
    ⟨_, rfl, heap_alloc_new w _, (Below.refl w.heap.size w).alloc (Nat.le_refl _) _⟩
  have MO := Lib.hid (may_event a b c k p cp L w1 hl hk (hx.below B1) (fun x hx => by have := hS x hx; omega) ha hb hC)
  have EN : Hid (∀ w2, Below w1.heap.size w1 w2 → Calls Try.prog 86 #[evV a b c k (.slice p L.length cp)] w2 fun e w' => e = .returned (.tuple #[.string (evS a b c k L), .int .i64 0]) ∧ Below w2.heap.size w2 w') := Lib.hid (by
    intro w2 b2
    have h := encode_any a b c k p cp L w2 hl hk ((hx.below B1).below b2) hS hW
    rw [hC] at h
    exact h)
  have NM := Lib.hid (Bt.num_any 2 (by decide) (by decide))
  rw [num_two] at NM
  unfold cmdV at MO ⊢
  unfold evV at EN
  unfold askS
  have K1h := Lib.hid K1
  have B1h := Lib.hid B1
  have W1 := Lib.hid hw1
  have hz := B1.size
  clear K1 B1 hw1 hx hS hW hl hk ha hb hC
  generalize evS a b c k L = E at *
  generalize L.length = n at *
  generalize hy : w.heap.size = Y at *
  go_enter Try.func67, Try.ntmps67
  go_wp2_with fail
  rw [← W1.out]
  have e0 : w1.cell? ⟨Y, 0, none⟩ = some (.int .i64 2) := K1h.out.cell 0
  have e1 : w1.cell? ⟨Y, 1, none⟩ = some (.int .i64 a) := K1h.out.cell 1
  have e2 : w1.cell? ⟨Y, 2, none⟩ = some (.int .i64 b) := K1h.out.cell 2
  have e3 : w1.cell? ⟨Y, 3, none⟩ = some (.int .i64 c) := K1h.out.cell 3
  have e4 : w1.cell? ⟨Y, 4, none⟩ = some (.string k) := K1h.out.cell 4
  have e5 : w1.cell? ⟨Y, 5, none⟩ = some (.slice p n cp) := K1h.out.cell 5
  have e6 : w1.cell? ⟨Y, 6, none⟩ = some (.int .i64 0) := K1h.out.cell 6
  have e7 : w1.cell? ⟨Y, 7, none⟩ = some (.string ⟨#[]⟩) := K1h.out.cell 7
  have e8 : w1.cell? ⟨Y, 8, none⟩ = some (.string ⟨#[]⟩) := K1h.out.cell 8
  have e9 : w1.cell? ⟨Y, 9, none⟩ = some (.int .i64 0) := K1h.out.cell 9
  go_wp2_with fail
  refine (MO.out).mono ?_
  rintro e w2 ⟨rfl, b2⟩
  have c0 : w2.cell? ⟨Y, 0, none⟩ = some (.int .i64 2) := (K1h.out.below b2).cell 0
  have B2 := Lib.hid (B1h.out.trans (b2.mono hz))
  have hz2 := Nat.le_trans hz b2.size
  have B2' := Lib.hid b2
  clear b2 e0 e1 e2 e3 e4 e5 e6 e7 e8 e9 W1
  go_wp2_with fail
  refine (NM.out _).mono ?_
  rintro e w3 ⟨rfl, b3⟩
  have b13 : Below w1.heap.size w1 w3 := B2'.out.trans (b3.mono B2'.out.size)
  have K3 := K1h.out.below b13
  have e0 : w3.cell? ⟨Y, 0, none⟩ = some (.int .i64 2) := K3.cell 0
  have e1 : w3.cell? ⟨Y, 1, none⟩ = some (.int .i64 a) := K3.cell 1
  have e2 : w3.cell? ⟨Y, 2, none⟩ = some (.int .i64 b) := K3.cell 2
  have e3 : w3.cell? ⟨Y, 3, none⟩ = some (.int .i64 c) := K3.cell 3
  have e4 : w3.cell? ⟨Y, 4, none⟩ = some (.string k) := K3.cell 4
  have e5 : w3.cell? ⟨Y, 5, none⟩ = some (.slice p n cp) := K3.cell 5
  have EN3 := Lib.hid (EN.out w3 b13)
  have B3 := Lib.hid (B2.out.trans (b3.mono hz2))
  have hz3 := Nat.le_trans hz2 b3.size
  clear b3 B2 c0 b13 K3 K1h EN B2'
  go_wp2_with fail
  refine (EN3.out).mono ?_
  rintro e w4 ⟨rfl, b4⟩
  have B4 := Lib.hid (B3.out.trans (b4.mono hz3))
  clear b4 B3 e0 e1 e2 e3 e4 e5 EN3
  go_wp2_with fail
  all_goals (go_ret2; exact ⟨rfl, B4.out⟩)
end Go.Proofs.Ytggjpallbapcmaa
/-
  A TELLER's Ask.
-/
namespace Go.Proofs.Ytggjpallbapcmaa
open Go.RowKit
def askV (to : Int) (s nm : ByteArray) (fr mo : Int) : Value := .agg #[.int .i64 to, .string s, .string nm, .int .i64 fr, .int .i64 mo]
theorem below5 {B Y : Nat} {w w3 : World} (h : Below B w w3) (hB : B ≤ Y) (a b c d e : Value) : Below B w (((((w3.setCell ⟨Y, 0, none⟩ a).setCell ⟨Y, 1, none⟩ b).setCell ⟨Y, 2, none⟩ c).setCell ⟨Y, 3, none⟩ d).setCell ⟨Y, 4, none⟩ e) :=
  ((((h.setCell (p := ⟨Y, 0, none⟩) hB _).setCell (p := ⟨Y, 1, none⟩) hB _).setCell (p := ⟨Y, 2, none⟩) hB _).setCell (p := ⟨Y, 3, none⟩) hB _).setCell (p := ⟨Y, 4, none⟩) hB _
theorem ask_nil (w : World) : Calls Try.prog 34 #[.pointer none] w fun e w' => e = .returned (.tuple #[askV 0 ⟨#[]⟩ ⟨#[]⟩ 0 0, .bool false]) ∧ Below w.heap.size w w' := by
  have FIN := Lib.hid (fun o => (Below.refl w.heap.size w).alloc (Nat.le_refl _) o)
  unfold askV
  go_enter Try.func34, Try.ntmps34
  go_wp2_with fail
  refine (left_nil _).mono ?_
  rintro e w1 ⟨rfl, rfl⟩
  go_wp2_with fail
  refine bodyPost_ret (by simp [results, Try.results34, go_sem]; try rfl) rfl ?_
  exact ⟨rfl, FIN.out _⟩
section
variable {w : World} {t : Nat} {nodes to id sq : Int} {wv rv : Value}
set_option maxHeartbeats 1000000 in
set_option maxRecDepth 100000 in
theorem ask_none {a : Option Addr} {c : Nat} (T : Blk w t 98 (tel nodes to id sq (.slice a 0 c) rv)) : Calls Try.prog 34 #[.pointer (some ⟨t, 0, none⟩)] w fun e w' => e = .returned (.tuple #[askV 0 ⟨#[]⟩ ⟨#[]⟩ 0 0, .bool false]) ∧ Below w.heap.size w w' := by
  have FIN := Lib.hid (fun o => (Below.refl w.heap.size w).alloc (Nat.le_refl _) o)
  have LF := Lib.hid (fun o => left_any (T.below ((Below.refl w.heap.size w).alloc (Nat.le_refl _) o)))
  clear T
  unfold askV
  go_enter Try.func34, Try.ntmps34
  go_wp2_with fail
  refine (LF.out _).mono ?_
  rintro e w1 ⟨rfl, rfl⟩
  go_wp2_with fail
  refine bodyPost_ret (by simp [results, Try.results34, go_sem]; try rfl) rfl ?_
  exact ⟨rfl, FIN.out _⟩
set_option maxHeartbeats 2000000 in
set_option maxRecDepth 100000 in
theorem ask_open {a : Option Addr} {n c : Nat} (T : Blk w t 98 (tel nodes to 0 sq (.slice a n c) rv)) (hn : 0 < n) : Calls Try.prog 34 #[.pointer (some ⟨t, 0, none⟩)] w fun e w' => e = .returned (.tuple #[askV to ⟨#[1]⟩ ⟨#[]⟩ 0 0, .bool true]) ∧ Below w.heap.size w w' := by
  obtain ⟨w1, hw1, K1, B1, hs1⟩ : ∃ w1, w1 = w.alloc (.cells #[.int .i64 0, .string ⟨#[]⟩, .string ⟨#[]⟩, .int .i64 0, .int .i64 0] 63) ∧ Blk w1 w.heap.size 63 #[.int .i64 0, .string ⟨#[]⟩, .string ⟨#[]⟩, .int .i64 0, .int .i64 0] ∧ Below w.heap.size w w1 ∧ w1.heap.size = w.heap.size + 1 :=
    ⟨_, rfl, heap_alloc_new w _, (Below.refl w.heap.size w).alloc (Nat.le_refl _) _, by simp⟩
  obtain ⟨w2, hw2, K2, B2, hs2⟩ : ∃ w2, w2 = w1.alloc (.cells #[.int .i64 1, .int .i64 0, .int .i64 0, .int .i64 0, .string ⟨#[]⟩, .slice none 0 0, .int .i64 0, .string ⟨#[]⟩, .string ⟨#[]⟩, .int .i64 0] 138) ∧ Blk w2 w1.heap.size 138 #[.int .i64 1, .int .i64 0, .int .i64 0, .int .i64 0, .string ⟨#[]⟩, .slice none 0 0, .int .i64 0, .string ⟨#[]⟩, .string ⟨#[]⟩, .int .i64 0] ∧ Below w1.heap.size w1 w2 ∧ w2.heap.size = w1.heap.size + 1 :=
    ⟨_, rfl, heap_alloc_new w1 _, (Below.refl w1.heap.size w1).alloc (Nat.le_refl _) _, by simp⟩
  have LF := Lib.hid (left_any (T.below B1))
  have OP := Lib.hid (open_any ((T.below B1).below B2))
  have WR := Lib.hid (write_open w2)
  have T2 := Lib.hid ((T.below B1).below B2)
  have K12 := Lib.hid (K1.below B2)
  have K2h := Lib.hid K2
  have BB := Lib.hid (B1.trans (B2.mono (by omega)))
  have hn1 : ((n : Int) == 0) = false := by rw [beq_eq_false_iff_ne]; omega
  have W1 := Lib.hid hw1
  have W2 := Lib.hid hw2
  have hlt := T.lt
  clear T K1 K2 B1 B2 hw1 hw2
  unfold askV
  unfold cmdV at WR
  generalize hy : w.heap.size = Y at *
  have e0 : w2.cell? ⟨Y + 1, 0, none⟩ = some (.int .i64 1) := by have := K2h.out.cell 0; rw [hs1] at this; exact this
  have e1 : w2.cell? ⟨Y + 1, 1, none⟩ = some (.int .i64 0) := by have := K2h.out.cell 1; rw [hs1] at this; exact this
  have e2 : w2.cell? ⟨Y + 1, 2, none⟩ = some (.int .i64 0) := by have := K2h.out.cell 2; rw [hs1] at this; exact this
  have e3 : w2.cell? ⟨Y + 1, 3, none⟩ = some (.int .i64 0) := by have := K2h.out.cell 3; rw [hs1] at this; exact this
  have e4 : w2.cell? ⟨Y + 1, 4, none⟩ = some (.string ⟨#[]⟩) := by have := K2h.out.cell 4; rw [hs1] at this; exact this
  have e5 : w2.cell? ⟨Y + 1, 5, none⟩ = some (.slice none 0 0) := by have := K2h.out.cell 5; rw [hs1] at this; exact this
  have e6 : w2.cell? ⟨Y + 1, 6, none⟩ = some (.int .i64 0) := by have := K2h.out.cell 6; rw [hs1] at this; exact this
  have e7 : w2.cell? ⟨Y + 1, 7, none⟩ = some (.string ⟨#[]⟩) := by have := K2h.out.cell 7; rw [hs1] at this; exact this
  have e8 : w2.cell? ⟨Y + 1, 8, none⟩ = some (.string ⟨#[]⟩) := by have := K2h.out.cell 8; rw [hs1] at this; exact this
  have e9 : w2.cell? ⟨Y + 1, 9, none⟩ = some (.int .i64 0) := by have := K2h.out.cell 9; rw [hs1] at this; exact this
  go_enter Try.func34, Try.ntmps34
  go_wp2_with fail
  rw [← W1.out]
  refine LF.out.mono ?_
  rintro e w1' ⟨rfl, rfl⟩
  go_wp2_with fail
  rw [← W2.out]
  refine OP.out.mono ?_
  rintro e w2' ⟨rfl, rfl⟩
  go_wp2_with fail
  refine WR.out.mono ?_
  rintro e w3 ⟨rfl, b3⟩
  have c1 : w3.cell? ⟨t, 1, none⟩ = some (.int .i64 to) := (T2.out.below b3).cell 1
  have z0 : w3.cell? ⟨Y, 0, none⟩ = some (.int .i64 0) := (K12.out.below b3).cell 0
  have z1 : w3.cell? ⟨Y, 1, none⟩ = some (.string ⟨#[]⟩) := (K12.out.below b3).cell 1
  have z2 : w3.cell? ⟨Y, 2, none⟩ = some (.string ⟨#[]⟩) := (K12.out.below b3).cell 2
  have z3 : w3.cell? ⟨Y, 3, none⟩ = some (.int .i64 0) := (K12.out.below b3).cell 3
  have z4 : w3.cell? ⟨Y, 4, none⟩ = some (.int .i64 0) := (K12.out.below b3).cell 4
  have fz : ∀ i, w3.frozen? ⟨Y, i, none⟩ = false := (K12.out.below b3).free
  have B3 := Lib.hid (BB.out.trans (b3.mono (by omega)))
  clear b3 e0 e1 e2 e3 e4 e5 e6 e7 e8 e9 W1 W2 T2 K12 K2h BB
  go_wp2_with fail
  refine bodyPost_ret (by simp [results, Try.results34, go_sem, z0, z1, z2, z3, z4]; try rfl) rfl ?_
  refine ⟨rfl, ?_⟩
  exact below5 B3.out (Nat.le_refl _) _ _ _ _ _
theorem set10 {v : World} {Y : Nat} {x0 x1 x2 x3 x4 x5 x6 x7 x8 x9 : Value} (h : Blk v Y 138 #[x0, x1, x2, x3, x4, x5, x6, x7, x8, x9]) (y0 y1 y2 y3 y4 y5 y6 y7 y8 y9 : Value) :
    ∃ W5, W5 = ((((((((((v.setCell ⟨Y, 0, none⟩ y0).setCell ⟨Y, 1, none⟩ y1).setCell ⟨Y, 2, none⟩ y2).setCell ⟨Y, 3, none⟩ y3).setCell ⟨Y, 4, none⟩ y4).setCell ⟨Y, 5, none⟩ y5).setCell ⟨Y, 6, none⟩ y6).setCell ⟨Y, 7, none⟩ y7).setCell ⟨Y, 8, none⟩ y8).setCell ⟨Y, 9, none⟩ y9) ∧
      Blk W5 Y 138 #[y0, y1, y2, y3, y4, y5, y6, y7, y8, y9] ∧ Below Y v W5 := by
  have l := Nat.le_refl Y
  have h0 : Blk (v.setCell ⟨Y, 0, none⟩ y0) Y 138 #[y0, x1, x2, x3, x4, x5, x6, x7, x8, x9] := (show #[x0, x1, x2, x3, x4, x5, x6, x7, x8, x9].setIfInBounds 0 y0 = #[y0, x1, x2, x3, x4, x5, x6, x7, x8, x9] from rfl) ▸ h.set 0 y0
  have h1 : Blk ((v.setCell ⟨Y, 0, none⟩ y0).setCell ⟨Y, 1, none⟩ y1) Y 138 #[y0, y1, x2, x3, x4, x5, x6, x7, x8, x9] := (show #[y0, x1, x2, x3, x4, x5, x6, x7, x8, x9].setIfInBounds 1 y1 = #[y0, y1, x2, x3, x4, x5, x6, x7, x8, x9] from rfl) ▸ h0.set 1 y1
  have h2 : Blk (((v.setCell ⟨Y, 0, none⟩ y0).setCell ⟨Y, 1, none⟩ y1).setCell ⟨Y, 2, none⟩ y2) Y 138 #[y0, y1, y2, x3, x4, x5, x6, x7, x8, x9] := (show #[y0, y1, x2, x3, x4, x5, x6, x7, x8, x9].setIfInBounds 2 y2 = #[y0, y1, y2, x3, x4, x5, x6, x7, x8, x9] from rfl) ▸ h1.set 2 y2
  have h3 : Blk ((((v.setCell ⟨Y, 0, none⟩ y0).setCell ⟨Y, 1, none⟩ y1).setCell ⟨Y, 2, none⟩ y2).setCell ⟨Y, 3, none⟩ y3) Y 138 #[y0, y1, y2, y3, x4, x5, x6, x7, x8, x9] := (show #[y0, y1, y2, x3, x4, x5, x6, x7, x8, x9].setIfInBounds 3 y3 = #[y0, y1, y2, y3, x4, x5, x6, x7, x8, x9] from rfl) ▸ h2.set 3 y3
  have h4 : Blk (((((v.setCell ⟨Y, 0, none⟩ y0).setCell ⟨Y, 1, none⟩ y1).setCell ⟨Y, 2, none⟩ y2).setCell ⟨Y, 3, none⟩ y3).setCell ⟨Y, 4, none⟩ y4) Y 138 #[y0, y1, y2, y3, y4, x5, x6, x7, x8, x9] := (show #[y0, y1, y2, y3, x4, x5, x6, x7, x8, x9].setIfInBounds 4 y4 = #[y0, y1, y2, y3, y4, x5, x6, x7, x8, x9] from rfl) ▸ h3.set 4 y4
  have h5 : Blk ((((((v.setCell ⟨Y, 0, none⟩ y0).setCell ⟨Y, 1, none⟩ y1).setCell ⟨Y, 2, none⟩ y2).setCell ⟨Y, 3, none⟩ y3).setCell ⟨Y, 4, none⟩ y4).setCell ⟨Y, 5, none⟩ y5) Y 138 #[y0, y1, y2, y3, y4, y5, x6, x7, x8, x9] := (show #[y0, y1, y2, y3, y4, x5, x6, x7, x8, x9].setIfInBounds 5 y5 = #[y0, y1, y2, y3, y4, y5, x6, x7, x8, x9] from rfl) ▸ h4.set 5 y5
  have h6 : Blk (((((((v.setCell ⟨Y, 0, none⟩ y0).setCell ⟨Y, 1, none⟩ y1).setCell ⟨Y, 2, none⟩ y2).setCell ⟨Y, 3, none⟩ y3).setCell ⟨Y, 4, none⟩ y4).setCell ⟨Y, 5, none⟩ y5).setCell ⟨Y, 6, none⟩ y6) Y 138 #[y0, y1, y2, y3, y4, y5, y6, x7, x8, x9] := (show #[y0, y1, y2, y3, y4, y5, x6, x7, x8, x9].setIfInBounds 6 y6 = #[y0, y1, y2, y3, y4, y5, y6, x7, x8, x9] from rfl) ▸ h5.set 6 y6
  have h7 : Blk ((((((((v.setCell ⟨Y, 0, none⟩ y0).setCell ⟨Y, 1, none⟩ y1).setCell ⟨Y, 2, none⟩ y2).setCell ⟨Y, 3, none⟩ y3).setCell ⟨Y, 4, none⟩ y4).setCell ⟨Y, 5, none⟩ y5).setCell ⟨Y, 6, none⟩ y6).setCell ⟨Y, 7, none⟩ y7) Y 138 #[y0, y1, y2, y3, y4, y5, y6, y7, x8, x9] := (show #[y0, y1, y2, y3, y4, y5, y6, x7, x8, x9].setIfInBounds 7 y7 = #[y0, y1, y2, y3, y4, y5, y6, y7, x8, x9] from rfl) ▸ h6.set 7 y7
  have h8 : Blk (((((((((v.setCell ⟨Y, 0, none⟩ y0).setCell ⟨Y, 1, none⟩ y1).setCell ⟨Y, 2, none⟩ y2).setCell ⟨Y, 3, none⟩ y3).setCell ⟨Y, 4, none⟩ y4).setCell ⟨Y, 5, none⟩ y5).setCell ⟨Y, 6, none⟩ y6).setCell ⟨Y, 7, none⟩ y7).setCell ⟨Y, 8, none⟩ y8) Y 138 #[y0, y1, y2, y3, y4, y5, y6, y7, y8, x9] := (show #[y0, y1, y2, y3, y4, y5, y6, y7, x8, x9].setIfInBounds 8 y8 = #[y0, y1, y2, y3, y4, y5, y6, y7, y8, x9] from rfl) ▸ h7.set 8 y8
  have h9 : Blk ((((((((((v.setCell ⟨Y, 0, none⟩ y0).setCell ⟨Y, 1, none⟩ y1).setCell ⟨Y, 2, none⟩ y2).setCell ⟨Y, 3, none⟩ y3).setCell ⟨Y, 4, none⟩ y4).setCell ⟨Y, 5, none⟩ y5).setCell ⟨Y, 6, none⟩ y6).setCell ⟨Y, 7, none⟩ y7).setCell ⟨Y, 8, none⟩ y8).setCell ⟨Y, 9, none⟩ y9) Y 138 #[y0, y1, y2, y3, y4, y5, y6, y7, y8, y9] := (show #[y0, y1, y2, y3, y4, y5, y6, y7, y8, x9].setIfInBounds 9 y9 = #[y0, y1, y2, y3, y4, y5, y6, y7, y8, y9] from rfl) ▸ h8.set 9 y9
  refine ⟨_, rfl, h9, ?_⟩
  exact (((((((((((Below.refl Y v).setCell (p := ⟨Y, 0, none⟩) l _).setCell (p := ⟨Y, 1, none⟩) l _).setCell (p := ⟨Y, 2, none⟩) l _).setCell (p := ⟨Y, 3, none⟩) l _).setCell (p := ⟨Y, 4, none⟩) l _).setCell (p := ⟨Y, 5, none⟩) l _).setCell (p := ⟨Y, 6, none⟩) l _).setCell (p := ⟨Y, 7, none⟩) l _).setCell (p := ⟨Y, 8, none⟩) l _).setCell (p := ⟨Y, 9, none⟩) l _)
set_option maxHeartbeats 4000000 in
set_option maxRecDepth 100000 in
theorem ask_event {g n cap : Nat} {a b c : Int} {k : ByteArray} {p : Option Addr} {cp : Nat} {L : List Fld} (T : Blk w t 98 (tel nodes to id sq (.slice (some ⟨g, 0, none⟩) n cap) rv)) (hn : 0 < n) (hid : 1 ≤ id) (hsq : 0 ≤ sq ∧ sq ≤ 549755813888)
    (c0 : w.cell? ⟨g, 0, none⟩ = some (.int .i64 a)) (c1 : w.cell? ⟨g, 1, none⟩ = some (.int .i64 b)) (c2 : w.cell? ⟨g, 2, none⟩ = some (.int .i64 c)) (c3 : w.cell? ⟨g, 3, none⟩ = some (.string k)) (c4 : w.cell? ⟨g, 4, none⟩ = some (.slice p L.length cp)) (hg : g < w.heap.size)
    (WR : ∀ W, Below w.heap.size w W → Calls Try.prog 67 #[cmdV 2 id (sq + 1) c k (.slice p L.length cp)] W fun e w' => e = .returned (.tuple #[.string (askS id (sq + 1) c k L), .int .i64 0]) ∧ Below W.heap.size W w') :
    Calls Try.prog 34 #[.pointer (some ⟨t, 0, none⟩)] w fun e w' => e = .returned (.tuple #[askV to (askS id (sq + 1) c k L) ⟨#[]⟩ 0 0, .bool true]) ∧ Below w.heap.size w w' := by
  obtain ⟨w1, hw1, K1, B1, hs1⟩ : ∃ w1, w1 = w.alloc (.cells #[.int .i64 0, .string ⟨#[]⟩, .string ⟨#[]⟩, .int .i64 0, .int .i64 0] 63) ∧ Blk w1 w.heap.size 63 #[.int .i64 0, .string ⟨#[]⟩, .string ⟨#[]⟩, .int .i64 0, .int .i64 0] ∧ Below w.heap.size w w1 ∧ w1.heap.size = w.heap.size + 1 :=
    ⟨_, rfl, heap_alloc_new w _, (Below.refl w.heap.size w).alloc (Nat.le_refl _) _, by simp⟩
  obtain ⟨w2, hw2, K2, B2, hs2⟩ : ∃ w2, w2 = w1.alloc (.cells #[.int .i64 1, .int .i64 0, .int .i64 0, .int .i64 0, .string ⟨#[]⟩, .slice none 0 0, .int .i64 0, .string ⟨#[]⟩, .string ⟨#[]⟩, .int .i64 0] 138) ∧ Blk w2 w1.heap.size 138 #[.int .i64 1, .int .i64 0, .int .i64 0, .int .i64 0, .string ⟨#[]⟩, .slice none 0 0, .int .i64 0, .string ⟨#[]⟩, .string ⟨#[]⟩, .int .i64 0] ∧ Below w1.heap.size w1 w2 ∧ w2.heap.size = w1.heap.size + 1 :=
    ⟨_, rfl, heap_alloc_new w1 _, (Below.refl w1.heap.size w1).alloc (Nat.le_refl _) _, by simp⟩
  have BB0 : Below w.heap.size w w2 := B1.trans (B2.mono (by omega))
  have LF := Lib.hid (left_any (T.below B1))
  have OP := Lib.hid (open_any ((T.below B1).below B2))
  rw [show (id != 0) = true by rw [bne_iff_ne]; omega] at OP
  have T2 := Lib.hid ((T.below B1).below B2)
  have K12 := Lib.hid (K1.below B2)
  have K2h := Lib.hid (show Blk w2 (w.heap.size + 1) 138 _ from hs1 ▸ K2)
  have BB := Lib.hid BB0
  have q : ∀ {i : Nat} {v : Value}, w.cell? ⟨g, i, none⟩ = some v → w2.drew.cell? ⟨g, i, none⟩ = some v := fun {i v} hc => by
    show w2.cell? ⟨g, i, none⟩ = some v
    rw [BB0.cell (p := ⟨g, i, none⟩) hg]; exact hc
  have d0 := q c0
  have d1 := q c1
  have d2 := q c2
  have d3 := q c3
  have d4 := q c4
  have WRh := Lib.hid WR
  have NU := Lib.hid (fun W => numbered_any a b c id sq k p L.length cp W (by omega))
  have hn1 : ((n : Int) == 0) = false := by rw [beq_eq_false_iff_ne]; omega
  have hn2 : (0 : Int) < (n : Int) := by omega
  have hn3 : (n : Int) ≤ 9223372036854775807 ∨ True := .inr trivial
  have W1 := Lib.hid hw1
  have W2 := Lib.hid hw2
  have hlt := T.lt
  clear T K1 K2 B1 B2 hw1 hw2 q c0 c1 c2 c3 c4 WR BB0 hn3
  unfold askV
  unfold cmdV at WRh
  unfold evV at NU
  generalize askS id (sq + 1) c k L = S at *
  generalize L.length = m at *
  generalize hy : w.heap.size = Y at *
  have t4 : w2.drew.cell? ⟨t, 4, none⟩ = some (.slice (some ⟨g, 0, none⟩) n cap) := T2.out.cell 4
  have t2 : w2.drew.cell? ⟨t, 2, none⟩ = some (.int .i64 id) := T2.out.cell 2
  have t3 : w2.drew.cell? ⟨t, 3, none⟩ = some (.int .i64 sq) := T2.out.cell 3
  go_enter Try.func34, Try.ntmps34
  go_wp2_with fail
  rw [← W1.out]
  refine LF.out.mono ?_
  rintro e w1' ⟨rfl, rfl⟩
  go_wp2_with fail
  rw [← W2.out]
  refine OP.out.mono ?_
  rintro e w2' ⟨rfl, rfl⟩
  go_wp2_with fail
  go_region_law (go_simp; go_at_call 42; refine (NU.out _).mono ?_; rintro r9 v2 ⟨rfl, b2⟩; have B4 := Lib.hid (show Below w2.heap.size w2 v2 from (Below.refl w2.heap.size w2).drew.trans b2); have K4 := B4.out; have KV := K2h.out.below K4; have z0 : v2.cell? ⟨Y + 1, 0, none⟩ = some (.int .i64 1) := KV.cell 0; have z1 : v2.cell? ⟨Y + 1, 1, none⟩ = some (.int .i64 0) := KV.cell 1; have z2 : v2.cell? ⟨Y + 1, 2, none⟩ = some (.int .i64 0) := KV.cell 2; have z3 : v2.cell? ⟨Y + 1, 3, none⟩ = some (.int .i64 0) := KV.cell 3; have z4 : v2.cell? ⟨Y + 1, 4, none⟩ = some (.string ⟨#[]⟩) := KV.cell 4; have z5 : v2.cell? ⟨Y + 1, 5, none⟩ = some (.slice none 0 0) := KV.cell 5; have z6 : v2.cell? ⟨Y + 1, 6, none⟩ = some (.int .i64 0) := KV.cell 6; have z7 : v2.cell? ⟨Y + 1, 7, none⟩ = some (.string ⟨#[]⟩) := KV.cell 7; have z8 : v2.cell? ⟨Y + 1, 8, none⟩ = some (.string ⟨#[]⟩) := KV.cell 8; have z9 : v2.cell? ⟨Y + 1, 9, none⟩ = some (.int .i64 0) := KV.cell 9; have fz : ∀ i, v2.frozen? ⟨Y + 1, i, none⟩ = false := KV.free; have KVh := Lib.hid KV; clear b2 K4 KV)
  all_goals (
    obtain ⟨W5, hW5, K5, b5⟩ := set10 KVh.out (.int .i64 2) (.int .i64 id) (.int .i64 (sq + 1)) (.int .i64 c) (.string k) (.slice p m cp) (.int .i64 0) (.string ⟨#[]⟩) (.string ⟨#[]⟩) (.int .i64 0)
    rw [← hW5]
    have hs3 := B4.out.size
    have BW : Below Y w W5 := (BB.out.trans (B4.out.mono (by omega))).trans (b5.mono (by omega))
    have T5 := Lib.hid ((T2.out.below B4.out).at_ b5 (by omega))
    have K15 := Lib.hid ((K12.out.below B4.out).at_ b5 (by omega))
    have WR5 := Lib.hid (WRh.out W5 BW)
    have BWh := Lib.hid BW
    have e0 : W5.cell? ⟨Y + 1, 0, none⟩ = some (.int .i64 2) := K5.cell 0
    have e1 : W5.cell? ⟨Y + 1, 1, none⟩ = some (.int .i64 id) := K5.cell 1
    have e2 : W5.cell? ⟨Y + 1, 2, none⟩ = some (.int .i64 (sq + 1)) := K5.cell 2
    have e3 : W5.cell? ⟨Y + 1, 3, none⟩ = some (.int .i64 c) := K5.cell 3
    have e4 : W5.cell? ⟨Y + 1, 4, none⟩ = some (.string k) := K5.cell 4
    have e5 : W5.cell? ⟨Y + 1, 5, none⟩ = some (.slice p m cp) := K5.cell 5
    have e6 : W5.cell? ⟨Y + 1, 6, none⟩ = some (.int .i64 0) := K5.cell 6
    have e7 : W5.cell? ⟨Y + 1, 7, none⟩ = some (.string ⟨#[]⟩) := K5.cell 7
    have e8 : W5.cell? ⟨Y + 1, 8, none⟩ = some (.string ⟨#[]⟩) := K5.cell 8
    have e9 : W5.cell? ⟨Y + 1, 9, none⟩ = some (.int .i64 0) := K5.cell 9
    have hs5 := BW.size
    clear z0 z1 z2 z3 z4 z5 z6 z7 z8 z9 fz KVh B4 d0 d1 d2 d3 d4 t2 t3 t4 K5 b5 hW5 BW W1 W2 T2 K12 K2h BB
    go_wp2_with fail
    refine WR5.out.mono ?_
    rintro e w3 ⟨rfl, b3⟩
    have c1 : w3.cell? ⟨t, 1, none⟩ = some (.int .i64 to) := (T5.out.below b3).cell 1
    have z0 : w3.cell? ⟨Y, 0, none⟩ = some (.int .i64 0) := (K15.out.below b3).cell 0
    have z1 : w3.cell? ⟨Y, 1, none⟩ = some (.string ⟨#[]⟩) := (K15.out.below b3).cell 1
    have z2 : w3.cell? ⟨Y, 2, none⟩ = some (.string ⟨#[]⟩) := (K15.out.below b3).cell 2
    have z3 : w3.cell? ⟨Y, 3, none⟩ = some (.int .i64 0) := (K15.out.below b3).cell 3
    have z4 : w3.cell? ⟨Y, 4, none⟩ = some (.int .i64 0) := (K15.out.below b3).cell 4
    have fz : ∀ i, w3.frozen? ⟨Y, i, none⟩ = false := (K15.out.below b3).free
    have B3 := Lib.hid (BWh.out.trans (b3.mono (by omega)))
    clear b3 e0 e1 e2 e3 e4 e5 e6 e7 e8 e9 T5 K15 BWh WR5
    go_wp2_with fail
    refine bodyPost_ret (by simp [results, Try.results34, go_sem, z0, z1, z2, z3, z4]; try rfl) rfl ?_
    exact ⟨rfl, below5 B3.out (Nat.le_refl _) _ _ _ _ _⟩)
end
end Go.Proofs.Ytggjpallbapcmaa
