/-
  WHAT THE ROWS REST ON, part 4: Smw Smv Tas Awk Rd0 Fcp Fca Frame Bma Bcl.
-/
import Derived.Deep.RegionHeld3
import Derived.Test.YtbghjcfepjbppaaRows
import Derived.WalkKit
import Derived.ProofKit
import Derived.OpenShut
import Derived.ShutString
import Derived.SizedLaws
import Derived.Laws.Cover2
import Derived.WalkSmall
import Derived.SliceStrings
import Derived.Lib.Hide
import Derived.Lib.QuietBelow
import Derived.Test.YtbghjcfepjbppaaPart3
/-
  A COMMAND's TEXT: sm.nothing, may, Write, of CmdOpen and CmdEvent.
-/
namespace Go.Proofs.Ytbghjcfepjbppaa
open Go.RowKit
/-- a command of whose parts those of its event alone are not zero -/
def cmdV (k a b c : Int) (s : ByteArray) (f : Value) : Value := .agg #[.int .i64 k, .int .i64 a, .int .i64 b, .int .i64 c, .string s, f, .int .i64 0, .string ⟨#[]⟩, .string ⟨#[]⟩, .int .i64 0]
set_option maxRecDepth 100000 in
theorem nothing_zero (k : Int) (w : World) : Calls Try.prog 98 #[cmdV k 0 0 0 ⟨#[]⟩ (.slice none 0 0)] w fun e w' => e = .returned (.bool true) ∧ Below w.heap.size w w' := by
  have FIN := Lib.hid (fun o1 o2 => ((Below.refl w.heap.size w).alloc (Nat.le_refl _) o1).alloc (by simp) o2)
  unfold cmdV
  go_enter Try.func98, Try.ntmps98
  go_wp2_with fail
  go_ret
  exact ⟨rfl, FIN.out _ _⟩
set_option maxRecDepth 100000 in
theorem may_open (w : World) : Calls Try.prog 85 #[cmdV 1 0 0 0 ⟨#[]⟩ (.slice none 0 0)] w fun e w' => e = .returned (.bool true) ∧ Below w.heap.size w w' := by
  have NO := nothing_zero 1
  unfold cmdV at NO ⊢
  have NOh := Lib.hid NO
  have FIN := Lib.hid (fun o1 => (Below.refl w.heap.size w).alloc (Nat.le_refl _) o1)
  clear NO
  go_enter Try.func85, Try.ntmps85
  go_wp2_with fail
  refine (NOh.out _).mono ?_
  rintro e w1 ⟨rfl, b1⟩
  have B1 := Lib.hid b1
  clear b1
  go_wp2_with fail
  go_ret
  exact ⟨rfl, (FIN.out _).trans (B1.out.mono (by simp))⟩
set_option maxHeartbeats 1000000 in
set_option maxRecDepth 100000 in
theorem may_event (a b c : Int) (k : ByteArray) (p : Option Addr) (cp : Nat) (L : List Fld) (w : World) (hl : L.length ≤ 100) (hk : k.size ≤ 9223372036854775807) (hx : Flds w p L) (hS : ∀ x ∈ L, x.nm.size ≤ 9223372036854775807 ∧ x.v.s.size ≤ 9223372036854775807)
    (ha : 1 ≤ a) (hb : 1 ≤ b) (hC : chkB a b c k L = true) :
    Calls Try.prog 85 #[cmdV 2 a b c k (.slice p L.length cp)] w fun e w' => e = .returned (.bool true) ∧ Below w.heap.size w w' := by
  obtain ⟨w1, hw1, K1, B1, hs1⟩ : ∃ w1, w1 = w.alloc (.cells #[.int .i64 2, .int .i64 a, .int .i64 b, .int .i64 c, .string k, .slice p L.length cp, .int .i64 0, .string ⟨#[]⟩, .string ⟨#[]⟩, .int .i64 0] 138) ∧ Blk w1 w.heap.size 138 #[.int .i64 2, .int .i64 a, .int .i64 b, .int .i64 c, .string k, .slice p L.length cp, .int .i64 0, .string ⟨#[]⟩, .string ⟨#[]⟩, .int .i64 0] ∧ Below w.heap.size w w1 ∧ w1.heap.size = w.heap.size + 1 :=
    ⟨_, rfl, heap_alloc_new w _, (Below.refl w.heap.size w).alloc (Nat.le_refl _) _, by simp⟩
  have CH := check_any a b c k p cp L w1 hl hk (hx.below B1) hS
  rw [hC] at CH
  have CHh := Lib.hid CH
  have NO := nothing_zero 2
  unfold cmdV at NO ⊢
  unfold evV at CHh
  have NOh := Lib.hid NO
  have W1 := Lib.hid hw1
  have K1h := Lib.hid K1
  have FIN : Hid (∀ (w2 w3 : World), Below w1.heap.size w1 w2 → Below w2.heap.size (((((w2.setCell ⟨w.heap.size, 1, none⟩ (.int .i64 0)).setCell ⟨w.heap.size, 2, none⟩ (.int .i64 0)).setCell ⟨w.heap.size, 3, none⟩ (.int .i64 0)).setCell ⟨w.heap.size, 4, none⟩ (.string ⟨#[]⟩)).setCell ⟨w.heap.size, 5, none⟩ (.slice none 0 0)) w3 → Below w.heap.size w w3) := Lib.hid (by
    intro w2 w3 b2 b3
    have b : Below w.heap.size w w2 := B1.trans (b2.mono (by omega))
    have hz := b2.size
    exact (((((b.setCell (p := ⟨w.heap.size, 1, none⟩) (Nat.le_refl _) _).setCell (p := ⟨w.heap.size, 2, none⟩) (Nat.le_refl _) _).setCell (p := ⟨w.heap.size, 3, none⟩) (Nat.le_refl _) _).setCell (p := ⟨w.heap.size, 4, none⟩) (Nat.le_refl _) _).setCell (p := ⟨w.heap.size, 5, none⟩) (Nat.le_refl _) _).trans (b3.mono (by omega)))
  have e1 : w1.cell? ⟨w.heap.size, 1, none⟩ = some (.int .i64 a) := K1.cell 1
  have e2 : w1.cell? ⟨w.heap.size, 2, none⟩ = some (.int .i64 b) := K1.cell 2
  have e3 : w1.cell? ⟨w.heap.size, 3, none⟩ = some (.int .i64 c) := K1.cell 3
  have e4 : w1.cell? ⟨w.heap.size, 4, none⟩ = some (.string k) := K1.cell 4
  have e5 : w1.cell? ⟨w.heap.size, 5, none⟩ = some (.slice p L.length cp) := K1.cell 5
  have e0 : w1.cell? ⟨w.heap.size, 0, none⟩ = some (.int .i64 2) := K1.cell 0
  clear NO CH hw1 K1 hx hS hl hk B1 hC
  generalize L.length = n at *
  generalize hy : w.heap.size = Y at *
  go_enter Try.func85, Try.ntmps85
  go_wp2_with fail
  rw [← W1.out]
  go_wp2_with fail
  refine (CHh.out).mono ?_
  rintro e w2 ⟨rfl, b2⟩
  have K2 := K1h.out.below b2
  have c0 : w2.cell? ⟨Y, 0, none⟩ = some (.int .i64 2) := K2.cell 0
  have c1 : w2.cell? ⟨Y, 1, none⟩ = some (.int .i64 a) := K2.cell 1
  have c2 : w2.cell? ⟨Y, 2, none⟩ = some (.int .i64 b) := K2.cell 2
  have c3 : w2.cell? ⟨Y, 3, none⟩ = some (.int .i64 c) := K2.cell 3
  have c4 : w2.cell? ⟨Y, 4, none⟩ = some (.string k) := K2.cell 4
  have c5 : w2.cell? ⟨Y, 5, none⟩ = some (.slice p n cp) := K2.cell 5
  have c6 : w2.cell? ⟨Y, 6, none⟩ = some (.int .i64 0) := K2.cell 6
  have c7 : w2.cell? ⟨Y, 7, none⟩ = some (.string ⟨#[]⟩) := K2.cell 7
  have c8 : w2.cell? ⟨Y, 8, none⟩ = some (.string ⟨#[]⟩) := K2.cell 8
  have c9 : w2.cell? ⟨Y, 9, none⟩ = some (.int .i64 0) := K2.cell 9
  have fz : ∀ i, w2.frozen? ⟨Y, i, none⟩ = false := fun i => K2.free i
  have hE : errI true = 0 := rfl
  have B2 := Lib.hid b2
  clear K2 b2 e0 e1 e2 e3 e4 e5 W1 K1h CHh
  rw [hE]
  go_wp2_with fail
  refine (NOh.out _).mono ?_
  rintro e w3 ⟨rfl, b3⟩
  have B3 := FIN.out _ _ B2.out (b3.mono (by simp))
  clear b3 c0 c1 c2 c3 c4 c5 c6 c7 c8 c9 fz
  go_wp2_with fail
  go_ret
  exact ⟨rfl, B3⟩
end Go.Proofs.Ytbghjcfepjbppaa
/-
  A COMMAND's TEXT: sm.Write of CmdOpen and of CmdEvent.
-/
namespace Go.Proofs.Ytbghjcfepjbppaa
open Go.RowKit
theorem num_one : Bt.numS 1 = ⟨#[1]⟩ := by decide +kernel
theorem num_two : Bt.numS 2 = ⟨#[2]⟩ := by decide +kernel
set_option maxHeartbeats 1000000 in
set_option maxRecDepth 100000 in
theorem write_open (w : World) : Calls Try.prog 67 #[cmdV 1 0 0 0 ⟨#[]⟩ (.slice none 0 0)] w fun e w' => e = .returned (.tuple #[.string ⟨#[1]⟩, .int .i64 0]) ∧ Below w.heap.size w w' := by
  obtain ⟨w1, hw1, K1, B1⟩ : ∃ w1, w1 = w.alloc (.cells #[.int .i64 1, .int .i64 0, .int .i64 0, .int .i64 0, .string ⟨#[]⟩, .slice none 0 0, .int .i64 0, .string ⟨#[]⟩, .string ⟨#[]⟩, .int .i64 0] 138) ∧ Blk w1 w.heap.size 138 #[.int .i64 1, .int .i64 0, .int .i64 0, .int .i64 0, .string ⟨#[]⟩, .slice none 0 0, .int .i64 0, .string ⟨#[]⟩, .string ⟨#[]⟩, .int .i64 0] ∧ Below w.heap.size w w1 :=
    ⟨_, rfl, heap_alloc_new w _, (Below.refl w.heap.size w).alloc (Nat.le_refl _) _⟩
  have MO := Lib.hid may_open
  have NM := Lib.hid (Bt.num_any 1 (by decide) (by decide))
  rw [num_one] at NM
  unfold cmdV at MO ⊢
  have K1h := Lib.hid K1
  have B1h := Lib.hid B1
  have W1 := Lib.hid hw1
  have hz := B1.size
  clear K1 B1 hw1
  generalize hy : w.heap.size = Y at *
  go_enter Try.func67, Try.ntmps67
  go_wp2_with fail
  rw [← W1.out]
  have e0 : w1.cell? ⟨Y, 0, none⟩ = some (.int .i64 1) := K1h.out.cell 0
  have e1 : w1.cell? ⟨Y, 1, none⟩ = some (.int .i64 0) := K1h.out.cell 1
  have e2 : w1.cell? ⟨Y, 2, none⟩ = some (.int .i64 0) := K1h.out.cell 2
  have e3 : w1.cell? ⟨Y, 3, none⟩ = some (.int .i64 0) := K1h.out.cell 3
  have e4 : w1.cell? ⟨Y, 4, none⟩ = some (.string ⟨#[]⟩) := K1h.out.cell 4
  have e5 : w1.cell? ⟨Y, 5, none⟩ = some (.slice none 0 0) := K1h.out.cell 5
  have e6 : w1.cell? ⟨Y, 6, none⟩ = some (.int .i64 0) := K1h.out.cell 6
  have e7 : w1.cell? ⟨Y, 7, none⟩ = some (.string ⟨#[]⟩) := K1h.out.cell 7
  have e8 : w1.cell? ⟨Y, 8, none⟩ = some (.string ⟨#[]⟩) := K1h.out.cell 8
  have e9 : w1.cell? ⟨Y, 9, none⟩ = some (.int .i64 0) := K1h.out.cell 9
  go_wp2_with fail
  refine (MO.out _).mono ?_
  rintro e w2 ⟨rfl, b2⟩
  have c0 : w2.cell? ⟨Y, 0, none⟩ = some (.int .i64 1) := (K1h.out.below b2).cell 0
  have B2 := Lib.hid (B1h.out.trans (b2.mono hz))
  have hz2 := Nat.le_trans hz b2.size
  have K2h := Lib.hid (K1h.out.below b2)
  clear b2 e0 e1 e2 e3 e4 e5 e6 e7 e8 e9 K1h B1h W1
  go_wp2_with fail
  refine (NM.out _).mono ?_
  rintro e w3 ⟨rfl, b3⟩
  have B3 := Lib.hid (B2.out.trans (b3.mono hz2))
  have d0 : w3.cell? ⟨Y, 0, none⟩ = some (.int .i64 1) := (K2h.out.below b3).cell 0
  clear b3 B2 c0 K2h
  go_wp2_with fail
  go_ret2
  exact ⟨rfl, B3.out⟩
/-- the text of a command that tells an event -/
def askS (a b c : Int) (k : ByteArray) (L : List Fld) : ByteArray := ⟨#[2]⟩ ++ evS a b c k L
set_option maxHeartbeats 1000000 in
set_option maxRecDepth 100000 in
theorem write_event (a b c : Int) (k : ByteArray) (p : Option Addr) (cp : Nat) (L : List Fld) (w : World) (hl : L.length ≤ 100) (hk : k.size ≤ 9223372036854775807) (hx : Flds w p L) (hS : ∀ x ∈ L, x.nm.size ≤ 9223372036854775807 ∧ x.v.s.size ≤ 281474976710656)
    (hW : ∀ x ∈ L, x.v.Wf) (ha : 1 ≤ a) (hb : 1 ≤ b) (hC : chkB a b c k L = true) (hB : (evS a b c k L).size ≤ 100000) :
    Calls Try.prog 67 #[cmdV 2 a b c k (.slice p L.length cp)] w fun e w' => e = .returned (.tuple #[.string (askS a b c k L), .int .i64 0]) ∧ Below w.heap.size w w' := by
  obtain ⟨w1, hw1, K1, B1⟩ : ∃ w1, w1 = w.alloc (.cells #[.int .i64 2, .int .i64 a, .int .i64 b, .int .i64 c, .string k, .slice p L.length cp, .int .i64 0, .string ⟨#[]⟩, .string ⟨#[]⟩, .int .i64 0] 138) ∧ Blk w1 w.heap.size 138 #[.int .i64 2, .int .i64 a, .int .i64 b, .int .i64 c, .string k, .slice p L.length cp, .int .i64 0, .string ⟨#[]⟩, .string ⟨#[]⟩, .int .i64 0] ∧ Below w.heap.size w w1 :=
    ⟨_, rfl, heap_alloc_new w _, (Below.refl w.heap.size w).alloc (Nat.le_refl _) _⟩
  have MO := Lib.hid (may_event a b c k p cp L w1 hl hk (hx.below B1) (fun x hx => by have := hS x hx; omega) ha hb hC)
  have EN : Hid (∀ w2, Below w1.heap.size w1 w2 → Calls Try.prog 86 #[evV a b c k (.slice p L.length cp)] w2 fun e w' => e = .returned (.tuple #[.string (evS a b c k L), .int .i64 0]) ∧ Below w2.heap.size w2 w') := Lib.hid (by
    intro w2 b2
    have h := encode_any a b c k p cp L w2 hl hk ((hx.below B1).below b2) hS hW
    rw [hC] at h
    exact h)
  have NM := Lib.hid (Bt.num_any 2 (by decide) (by decide))
  rw [num_two] at NM
  unfold cmdV at MO ⊢
  unfold evV at EN
  unfold askS
  have K1h := Lib.hid K1
  have B1h := Lib.hid B1
  have W1 := Lib.hid hw1
  have hz := B1.size
  clear K1 B1 hw1 hx hS hW hl hk ha hb hC
  generalize evS a b c k L = E at *
  generalize L.length = n at *
  generalize hy : w.heap.size = Y at *
  go_enter Try.func67, Try.ntmps67
  go_wp2_with fail
  rw [← W1.out]
  have e0 : w1.cell? ⟨Y, 0, none⟩ = some (.int .i64 2) := K1h.out.cell 0
  have e1 : w1.cell? ⟨Y, 1, none⟩ = some (.int .i64 a) := K1h.out.cell 1
  have e2 : w1.cell? ⟨Y, 2, none⟩ = some (.int .i64 b) := K1h.out.cell 2
  have e3 : w1.cell? ⟨Y, 3, none⟩ = some (.int .i64 c) := K1h.out.cell 3
  have e4 : w1.cell? ⟨Y, 4, none⟩ = some (.string k) := K1h.out.cell 4
  have e5 : w1.cell? ⟨Y, 5, none⟩ = some (.slice p n cp) := K1h.out.cell 5
  have e6 : w1.cell? ⟨Y, 6, none⟩ = some (.int .i64 0) := K1h.out.cell 6
  have e7 : w1.cell? ⟨Y, 7, none⟩ = some (.string ⟨#[]⟩) := K1h.out.cell 7
  have e8 : w1.cell? ⟨Y, 8, none⟩ = some (.string ⟨#[]⟩) := K1h.out.cell 8
  have e9 : w1.cell? ⟨Y, 9, none⟩ = some (.int .i64 0) := K1h.out.cell 9
  go_wp2_with fail
  refine (MO.out).mono ?_
  rintro e w2 ⟨rfl, b2⟩
  have c0 : w2.cell? ⟨Y, 0, none⟩ = some (.int .i64 2) := (K1h.out.below b2).cell 0
  have B2 := Lib.hid (B1h.out.trans (b2.mono hz))
  have hz2 := Nat.le_trans hz b2.size
  have B2' := Lib.hid b2
  clear b2 e0 e1 e2 e3 e4 e5 e6 e7 e8 e9 W1
  go_wp2_with fail
  refine (NM.out _).mono ?_
  rintro e w3 ⟨rfl, b3⟩
  have b13 : Below w1.heap.size w1 w3 := B2'.out.trans (b3.mono B2'.out.size)
  have K3 := K1h.out.below b13
  have e0 : w3.cell? ⟨Y, 0, none⟩ = some (.int .i64 2) := K3.cell 0
  have e1 : w3.cell? ⟨Y, 1, none⟩ = some (.int .i64 a) := K3.cell 1
  have e2 : w3.cell? ⟨Y, 2, none⟩ = some (.int .i64 b) := K3.cell 2
  have e3 : w3.cell? ⟨Y, 3, none⟩ = some (.int .i64 c) := K3.cell 3
  have e4 : w3.cell? ⟨Y, 4, none⟩ = some (.string k) := K3.cell 4
  have e5 : w3.cell? ⟨Y, 5, none⟩ = some (.slice p n cp) := K3.cell 5
  have EN3 := Lib.hid (EN.out w3 b13)
  have B3 := Lib.hid (B2.out.trans (b3.mono hz2))
  have hz3 := Nat.le_trans hz2 b3.size
  clear b3 B2 c0 b13 K3 K1h EN B2'
  go_wp2_with fail
  refine (EN3.out).mono ?_
  rintro e w4 ⟨rfl, b4⟩
  have B4 := Lib.hid (B3.out.trans (b4.mono hz3))
  clear b4 B3 e0 e1 e2 e3 e4 e5 EN3
  go_wp2_with fail
  all_goals (go_ret2; exact ⟨rfl, B4.out⟩)
end Go.Proofs.Ytbghjcfepjbppaa
/-
  A TELLER's Ask.
-/
namespace Go.Proofs.Ytbghjcfepjbppaa
open Go.RowKit
def askV (to : Int) (s nm : ByteArray) (fr mo : Int) : Value := .agg #[.int .i64 to, .string s, .string nm, .int .i64 fr, .int .i64 mo]
theorem below5 {B Y : Nat} {w w3 : World} (h : Below B w w3) (hB : B ≤ Y) (a b c d e : Value) : Below B w (((((w3.setCell ⟨Y, 0, none⟩ a).setCell ⟨Y, 1, none⟩ b).setCell ⟨Y, 2, none⟩ c).setCell ⟨Y, 3, none⟩ d).setCell ⟨Y, 4, none⟩ e) :=
  ((((h.setCell (p := ⟨Y, 0, none⟩) hB _).setCell (p := ⟨Y, 1, none⟩) hB _).setCell (p := ⟨Y, 2, none⟩) hB _).setCell (p := ⟨Y, 3, none⟩) hB _).setCell (p := ⟨Y, 4, none⟩) hB _
theorem ask_nil (w : World) : Calls Try.prog 34 #[.pointer none] w fun e w' => e = .returned (.tuple #[askV 0 ⟨#[]⟩ ⟨#[]⟩ 0 0, .bool false]) ∧ Below w.heap.size w w' := by
  have FIN := Lib.hid (fun o => (Below.refl w.heap.size w).alloc (Nat.le_refl _) o)
  unfold askV
  go_enter Try.func34, Try.ntmps34
  go_wp2_with fail
  refine (left_nil _).mono ?_
  rintro e w1 ⟨rfl, rfl⟩
  go_wp2_with fail
  refine bodyPost_ret (by simp [results, Try.results34, go_sem]; try rfl) rfl ?_
  exact ⟨rfl, FIN.out _⟩
section
variable {w : World} {t : Nat} {nodes to id sq : Int} {wv rv : Value}
set_option maxHeartbeats 1000000 in
set_option maxRecDepth 100000 in
theorem ask_none {a : Option Addr} {c : Nat} (T : Blk w t 98 (tel nodes to id sq (.slice a 0 c) rv)) : Calls Try.prog 34 #[.pointer (some ⟨t, 0, none⟩)] w fun e w' => e = .returned (.tuple #[askV 0 ⟨#[]⟩ ⟨#[]⟩ 0 0, .bool false]) ∧ Below w.heap.size w w' := by
  have FIN := Lib.hid (fun o => (Below.refl w.heap.size w).alloc (Nat.le_refl _) o)
  have LF := Lib.hid (fun o => left_any (T.below ((Below.refl w.heap.size w).alloc (Nat.le_refl _) o)))
  clear T
  unfold askV
  go_enter Try.func34, Try.ntmps34
  go_wp2_with fail
  refine (LF.out _).mono ?_
  rintro e w1 ⟨rfl, rfl⟩
  go_wp2_with fail
  refine bodyPost_ret (by simp [results, Try.results34, go_sem]; try rfl) rfl ?_
  exact ⟨rfl, FIN.out _⟩
set_option maxHeartbeats 2000000 in
set_option maxRecDepth 100000 in
theorem ask_open {a : Option Addr} {n c : Nat} (T : Blk w t 98 (tel nodes to 0 sq (.slice a n c) rv)) (hn : 0 < n) : Calls Try.prog 34 #[.pointer (some ⟨t, 0, none⟩)] w fun e w' => e = .returned (.tuple #[askV to ⟨#[1]⟩ ⟨#[]⟩ 0 0, .bool true]) ∧ Below w.heap.size w w' := by
  obtain ⟨w1, hw1, K1, B1, hs1⟩ : ∃ w1, w1 = w.alloc (.cells #[.int .i64 0, .string ⟨#[]⟩, .string ⟨#[]⟩, .int .i64 0, .int .i64 0] 63) ∧ Blk w1 w.heap.size 63 #[.int .i64 0, .string ⟨#[]⟩, .string ⟨#[]⟩, .int .i64 0, .int .i64 0] ∧ Below w.heap.size w w1 ∧ w1.heap.size = w.heap.size + 1 :=
    ⟨_, rfl, heap_alloc_new w _, (Below.refl w.heap.size w).alloc (Nat.le_refl _) _, by simp⟩
  obtain ⟨w2, hw2, K2, B2, hs2⟩ : ∃ w2, w2 = w1.alloc (.cells #[.int .i64 1, .int .i64 0, .int .i64 0, .int .i64 0, .string ⟨#[]⟩, .slice none 0 0, .int .i64 0, .string ⟨#[]⟩, .string ⟨#[]⟩, .int .i64 0] 138) ∧ Blk w2 w1.heap.size 138 #[.int .i64 1, .int .i64 0, .int .i64 0, .int .i64 0, .string ⟨#[]⟩, .slice none 0 0, .int .i64 0, .string ⟨#[]⟩, .string ⟨#[]⟩, .int .i64 0] ∧ Below w1.heap.size w1 w2 ∧ w2.heap.size = w1.heap.size + 1 :=
    ⟨_, rfl, heap_alloc_new w1 _, (Below.refl w1.heap.size w1).alloc (Nat.le_refl _) _, by simp⟩
  have LF := Lib.hid (left_any (T.below B1))
  have OP := Lib.hid (open_any ((T.below B1).below B2))
  have WR := Lib.hid (write_open w2)
  have T2 := Lib.hid ((T.below B1).below B2)
  have K12 := Lib.hid (K1.below B2)
  have K2h := Lib.hid K2
  have BB := Lib.hid (B1.trans (B2.mono (by omega)))
  have hn1 : ((n : Int) == 0) = false := by rw [beq_eq_false_iff_ne]; omega
  have W1 := Lib.hid hw1
  have W2 := Lib.hid hw2
  have hlt := T.lt
  clear T K1 K2 B1 B2 hw1 hw2
  unfold askV
  unfold cmdV at WR
  generalize hy : w.heap.size = Y at *
  have e0 : w2.cell? ⟨Y + 1, 0, none⟩ = some (.int .i64 1) := by have := K2h.out.cell 0; rw [hs1] at this; exact this
  have e1 : w2.cell? ⟨Y + 1, 1, none⟩ = some (.int .i64 0) := by have := K2h.out.cell 1; rw [hs1] at this; exact this
  have e2 : w2.cell? ⟨Y + 1, 2, none⟩ = some (.int .i64 0) := by have := K2h.out.cell 2; rw [hs1] at this; exact this
  have e3 : w2.cell? ⟨Y + 1, 3, none⟩ = some (.int .i64 0) := by have := K2h.out.cell 3; rw [hs1] at this; exact this
  have e4 : w2.cell? ⟨Y + 1, 4, none⟩ = some (.string ⟨#[]⟩) := by have := K2h.out.cell 4; rw [hs1] at this; exact this
  have e5 : w2.cell? ⟨Y + 1, 5, none⟩ = some (.slice none 0 0) := by have := K2h.out.cell 5; rw [hs1] at this; exact this
  have e6 : w2.cell? ⟨Y + 1, 6, none⟩ = some (.int .i64 0) := by have := K2h.out.cell 6; rw [hs1] at this; exact this
  have e7 : w2.cell? ⟨Y + 1, 7, none⟩ = some (.string ⟨#[]⟩) := by have := K2h.out.cell 7; rw [hs1] at this; exact this
  have e8 : w2.cell? ⟨Y + 1, 8, none⟩ = some (.string ⟨#[]⟩) := by have := K2h.out.cell 8; rw [hs1] at this; exact this
  have e9 : w2.cell? ⟨Y + 1, 9, none⟩ = some (.int .i64 0) := by have := K2h.out.cell 9; rw [hs1] at this; exact this
  go_enter Try.func34, Try.ntmps34
  go_wp2_with fail
  rw [← W1.out]
  refine LF.out.mono ?_
  rintro e w1' ⟨rfl, rfl⟩
  go_wp2_with fail
  rw [← W2.out]
  refine OP.out.mono ?_
  rintro e w2' ⟨rfl, rfl⟩
  go_wp2_with fail
  refine WR.out.mono ?_
  rintro e w3 ⟨rfl, b3⟩
  have c1 : w3.cell? ⟨t, 1, none⟩ = some (.int .i64 to) := (T2.out.below b3).cell 1
  have z0 : w3.cell? ⟨Y, 0, none⟩ = some (.int .i64 0) := (K12.out.below b3).cell 0
  have z1 : w3.cell? ⟨Y, 1, none⟩ = some (.string ⟨#[]⟩) := (K12.out.below b3).cell 1
  have z2 : w3.cell? ⟨Y, 2, none⟩ = some (.string ⟨#[]⟩) := (K12.out.below b3).cell 2
  have z3 : w3.cell? ⟨Y, 3, none⟩ = some (.int .i64 0) := (K12.out.below b3).cell 3
  have z4 : w3.cell? ⟨Y, 4, none⟩ = some (.int .i64 0) := (K12.out.below b3).cell 4
  have fz : ∀ i, w3.frozen? ⟨Y, i, none⟩ = false := (K12.out.below b3).free
  have B3 := Lib.hid (BB.out.trans (b3.mono (by omega)))
  clear b3 e0 e1 e2 e3 e4 e5 e6 e7 e8 e9 W1 W2 T2 K12 K2h BB
  go_wp2_with fail
  refine bodyPost_ret (by simp [results, Try.results34, go_sem, z0, z1, z2, z3, z4]; try rfl) rfl ?_
  refine ⟨rfl, ?_⟩
  exact below5 B3.out (Nat.le_refl _) _ _ _ _ _
theorem set10 {v : World} {Y : Nat} {x0 x1 x2 x3 x4 x5 x6 x7 x8 x9 : Value} (h : Blk v Y 138 #[x0, x1, x2, x3, x4, x5, x6, x7, x8, x9]) (y0 y1 y2 y3 y4 y5 y6 y7 y8 y9 : Value) :
    ∃ W5, W5 = ((((((((((v.setCell ⟨Y, 0, none⟩ y0).setCell ⟨Y, 1, none⟩ y1).setCell ⟨Y, 2, none⟩ y2).setCell ⟨Y, 3, none⟩ y3).setCell ⟨Y, 4, none⟩ y4).setCell ⟨Y, 5, none⟩ y5).setCell ⟨Y, 6, none⟩ y6).setCell ⟨Y, 7, none⟩ y7).setCell ⟨Y, 8, none⟩ y8).setCell ⟨Y, 9, none⟩ y9) ∧
      Blk W5 Y 138 #[y0, y1, y2, y3, y4, y5, y6, y7, y8, y9] ∧ Below Y v W5 := by
  have l := Nat.le_refl Y
  have h0 : Blk (v.setCell ⟨Y, 0, none⟩ y0) Y 138 #[y0, x1, x2, x3, x4, x5, x6, x7, x8, x9] := (show #[x0, x1, x2, x3, x4, x5, x6, x7, x8, x9].setIfInBounds 0 y0 = #[y0, x1, x2, x3, x4, x5, x6, x7, x8, x9] from rfl) ▸ h.set 0 y0
  have h1 : Blk ((v.setCell ⟨Y, 0, none⟩ y0).setCell ⟨Y, 1, none⟩ y1) Y 138 #[y0, y1, x2, x3, x4, x5, x6, x7, x8, x9] := (show #[y0, x1, x2, x3, x4, x5, x6, x7, x8, x9].setIfInBounds 1 y1 = #[y0, y1, x2, x3, x4, x5, x6, x7, x8, x9] from rfl) ▸ h0.set 1 y1
  have h2 : Blk (((v.setCell ⟨Y, 0, none⟩ y0).setCell ⟨Y, 1, none⟩ y1).setCell ⟨Y, 2, none⟩ y2) Y 138 #[y0, y1, y2, x3, x4, x5, x6, x7, x8, x9] := (show #[y0, y1, x2, x3, x4, x5, x6, x7, x8, x9].setIfInBounds 2 y2 = #[y0, y1, y2, x3, x4, x5, x6, x7, x8, x9] from rfl) ▸ h1.set 2 y2
  have h3 : Blk ((((v.setCell ⟨Y, 0, none⟩ y0).setCell ⟨Y, 1, none⟩ y1).setCell ⟨Y, 2, none⟩ y2).setCell ⟨Y, 3, none⟩ y3) Y 138 #[y0, y1, y2, y3, x4, x5, x6, x7, x8, x9] := (show #[y0, y1, y2, x3, x4, x5, x6, x7, x8, x9].setIfInBounds 3 y3 = #[y0, y1, y2, y3, x4, x5, x6, x7, x8, x9] from rfl) ▸ h2.set 3 y3
  have h4 : Blk (((((v.setCell ⟨Y, 0, none⟩ y0).setCell ⟨Y, 1, none⟩ y1).setCell ⟨Y, 2, none⟩ y2).setCell ⟨Y, 3, none⟩ y3).setCell ⟨Y, 4, none⟩ y4) Y 138 #[y0, y1, y2, y3, y4, x5, x6, x7, x8, x9] := (show #[y0, y1, y2, y3, x4, x5, x6, x7, x8, x9].setIfInBounds 4 y4 = #[y0, y1, y2, y3, y4, x5, x6, x7, x8, x9] from rfl) ▸ h3.set 4 y4
  have h5 : Blk ((((((v.setCell ⟨Y, 0, none⟩ y0).setCell ⟨Y, 1, none⟩ y1).setCell ⟨Y, 2, none⟩ y2).setCell ⟨Y, 3, none⟩ y3).setCell ⟨Y, 4, none⟩ y4).setCell ⟨Y, 5, none⟩ y5) Y 138 #[y0, y1, y2, y3, y4, y5, x6, x7, x8, x9] := (show #[y0, y1, y2, y3, y4, x5, x6, x7, x8, x9].setIfInBounds 5 y5 = #[y0, y1, y2, y3, y4, y5, x6, x7, x8, x9] from rfl) ▸ h4.set 5 y5
  have h6 : Blk (((((((v.setCell ⟨Y, 0, none⟩ y0).setCell ⟨Y, 1, none⟩ y1).setCell ⟨Y, 2, none⟩ y2).setCell ⟨Y, 3, none⟩ y3).setCell ⟨Y, 4, none⟩ y4).setCell ⟨Y, 5, none⟩ y5).setCell ⟨Y, 6, none⟩ y6) Y 138 #[y0, y1, y2, y3, y4, y5, y6, x7, x8, x9] := (show #[y0, y1, y2, y3, y4, y5, x6, x7, x8, x9].setIfInBounds 6 y6 = #[y0, y1, y2, y3, y4, y5, y6, x7, x8, x9] from rfl) ▸ h5.set 6 y6
  have h7 : Blk ((((((((v.setCell ⟨Y, 0, none⟩ y0).setCell ⟨Y, 1, none⟩ y1).setCell ⟨Y, 2, none⟩ y2).setCell ⟨Y, 3, none⟩ y3).setCell ⟨Y, 4, none⟩ y4).setCell ⟨Y, 5, none⟩ y5).setCell ⟨Y, 6, none⟩ y6).setCell ⟨Y, 7, none⟩ y7) Y 138 #[y0, y1, y2, y3, y4, y5, y6, y7, x8, x9] := (show #[y0, y1, y2, y3, y4, y5, y6, x7, x8, x9].setIfInBounds 7 y7 = #[y0, y1, y2, y3, y4, y5, y6, y7, x8, x9] from rfl) ▸ h6.set 7 y7
  have h8 : Blk (((((((((v.setCell ⟨Y, 0, none⟩ y0).setCell ⟨Y, 1, none⟩ y1).setCell ⟨Y, 2, none⟩ y2).setCell ⟨Y, 3, none⟩ y3).setCell ⟨Y, 4, none⟩ y4).setCell ⟨Y, 5, none⟩ y5).setCell ⟨Y, 6, none⟩ y6).setCell ⟨Y, 7, none⟩ y7).setCell ⟨Y, 8, none⟩ y8) Y 138 #[y0, y1, y2, y3, y4, y5, y6, y7, y8, x9] := (show #[y0, y1, y2, y3, y4, y5, y6, y7, x8, x9].setIfInBounds 8 y8 = #[y0, y1, y2, y3, y4, y5, y6, y7, y8, x9] from rfl) ▸ h7.set 8 y8
  have h9 : Blk ((((((((((v.setCell ⟨Y, 0, none⟩ y0).setCell ⟨Y, 1, none⟩ y1).setCell ⟨Y, 2, none⟩ y2).setCell ⟨Y, 3, none⟩ y3).setCell ⟨Y, 4, none⟩ y4).setCell ⟨Y, 5, none⟩ y5).setCell ⟨Y, 6, none⟩ y6).setCell ⟨Y, 7, none⟩ y7).setCell ⟨Y, 8, none⟩ y8).setCell ⟨Y, 9, none⟩ y9) Y 138 #[y0, y1, y2, y3, y4, y5, y6, y7, y8, y9] := (show #[y0, y1, y2, y3, y4, y5, y6, y7, y8, x9].setIfInBounds 9 y9 = #[y0, y1, y2, y3, y4, y5, y6, y7, y8, y9] from rfl) ▸ h8.set 9 y9
  refine ⟨_, rfl, h9, ?_⟩
  exact (((((((((((Below.refl Y v).setCell (p := ⟨Y, 0, none⟩) l _).setCell (p := ⟨Y, 1, none⟩) l _).setCell (p := ⟨Y, 2, none⟩) l _).setCell (p := ⟨Y, 3, none⟩) l _).setCell (p := ⟨Y, 4, none⟩) l _).setCell (p := ⟨Y, 5, none⟩) l _).setCell (p := ⟨Y, 6, none⟩) l _).setCell (p := ⟨Y, 7, none⟩) l _).setCell (p := ⟨Y, 8, none⟩) l _).setCell (p := ⟨Y, 9, none⟩) l _)
set_option maxHeartbeats 4000000 in
set_option maxRecDepth 100000 in
theorem ask_event {g n cap : Nat} {a b c : Int} {k : ByteArray} {p : Option Addr} {cp : Nat} {L : List Fld} (T : Blk w t 98 (tel nodes to id sq (.slice (some ⟨g, 0, none⟩) n cap) rv)) (hn : 0 < n) (hid : 1 ≤ id) (hsq : 0 ≤ sq ∧ sq ≤ 549755813888)
    (c0 : w.cell? ⟨g, 0, none⟩ = some (.int .i64 a)) (c1 : w.cell? ⟨g, 1, none⟩ = some (.int .i64 b)) (c2 : w.cell? ⟨g, 2, none⟩ = some (.int .i64 c)) (c3 : w.cell? ⟨g, 3, none⟩ = some (.string k)) (c4 : w.cell? ⟨g, 4, none⟩ = some (.slice p L.length cp)) (hg : g < w.heap.size)
    (WR : ∀ W, Below w.heap.size w W → Calls Try.prog 67 #[cmdV 2 id (sq + 1) c k (.slice p L.length cp)] W fun e w' => e = .returned (.tuple #[.string (askS id (sq + 1) c k L), .int .i64 0]) ∧ Below W.heap.size W w') :
    Calls Try.prog 34 #[.pointer (some ⟨t, 0, none⟩)] w fun e w' => e = .returned (.tuple #[askV to (askS id (sq + 1) c k L) ⟨#[]⟩ 0 0, .bool true]) ∧ Below w.heap.size w w' := by
  obtain ⟨w1, hw1, K1, B1, hs1⟩ : ∃ w1, w1 = w.alloc (.cells #[.int .i64 0, .string ⟨#[]⟩, .string ⟨#[]⟩, .int .i64 0, .int .i64 0] 63) ∧ Blk w1 w.heap.size 63 #[.int .i64 0, .string ⟨#[]⟩, .string ⟨#[]⟩, .int .i64 0, .int .i64 0] ∧ Below w.heap.size w w1 ∧ w1.heap.size = w.heap.size + 1 :=
    ⟨_, rfl, heap_alloc_new w _, (Below.refl w.heap.size w).alloc (Nat.le_refl _) _, by simp⟩
  obtain ⟨w2, hw2, K2, B2, hs2⟩ : ∃ w2, w2 = w1.alloc (.cells #[.int .i64 1, .int .i64 0, .int .i64 0, .int .i64 0, .string ⟨#[]⟩, .slice none 0 0, .int .i64 0, .string ⟨#[]⟩, .string ⟨#[]⟩, .int .i64 0] 138) ∧ Blk w2 w1.heap.size 138 #[.int .i64 1, .int .i64 0, .int .i64 0, .int .i64 0, .string ⟨#[]⟩, .slice none 0 0, .int .i64 0, .string ⟨#[]⟩, .string ⟨#[]⟩, .int .i64 0] ∧ Below w1.heap.size w1 w2 ∧ w2.heap.size = w1.heap.size + 1 :=
    ⟨_, rfl, heap_alloc_new w1 _, (Below.refl w1.heap.size w1).alloc (Nat.le_refl _) _, by simp⟩
  have BB0 : Below w.heap.size w w2 := B1.trans (B2.mono (by omega))
  have LF := Lib.hid (left_any (T.below B1))
  have OP := Lib.hid (open_any ((T.below B1).below B2))
  rw [show (id != 0) = true by rw [bne_iff_ne]; omega] at OP
  have T2 := Lib.hid ((T.below B1).below B2)
  have K12 := Lib.hid (K1.below B2)
  have K2h := Lib.hid (show Blk w2 (w.heap.size + 1) 138 _ from hs1 ▸ K2)
  have BB := Lib.hid BB0
  have q : ∀ {i : Nat} {v : Value}, w.cell? ⟨g, i, none⟩ = some v → w2.drew.cell? ⟨g, i, none⟩ = some v := fun {i v} hc => by
    show w2.cell? ⟨g, i, none⟩ = some v
    rw [BB0.cell (p := ⟨g, i, none⟩) hg]; exact hc
  have d0 := q c0
  have d1 := q c1
  have d2 := q c2
  have d3 := q c3
  have d4 := q c4
  have WRh := Lib.hid WR
  have NU := Lib.hid (fun W => numbered_any a b c id sq k p L.length cp W (by omega))
  have hn1 : ((n : Int) == 0) = false := by rw [beq_eq_false_iff_ne]; omega
  have hn2 : (0 : Int) < (n : Int) := by omega
  have hn3 : (n : Int) ≤ 9223372036854775807 ∨ True := .inr trivial
  have W1 := Lib.hid hw1
  have W2 := Lib.hid hw2
  have hlt := T.lt
  clear T K1 K2 B1 B2 hw1 hw2 q c0 c1 c2 c3 c4 WR BB0 hn3
  unfold askV
  unfold cmdV at WRh
  unfold evV at NU
  generalize askS id (sq + 1) c k L = S at *
  generalize L.length = m at *
  generalize hy : w.heap.size = Y at *
  have t4 : w2.drew.cell? ⟨t, 4, none⟩ = some (.slice (some ⟨g, 0, none⟩) n cap) := T2.out.cell 4
  have t2 : w2.drew.cell? ⟨t, 2, none⟩ = some (.int .i64 id) := T2.out.cell 2
  have t3 : w2.drew.cell? ⟨t, 3, none⟩ = some (.int .i64 sq) := T2.out.cell 3
  go_enter Try.func34, Try.ntmps34
  go_wp2_with fail
  rw [← W1.out]
  refine LF.out.mono ?_
  rintro e w1' ⟨rfl, rfl⟩
  go_wp2_with fail
  rw [← W2.out]
  refine OP.out.mono ?_
  rintro e w2' ⟨rfl, rfl⟩
  go_wp2_with fail
  go_region_law (go_simp; go_at_call 42; refine (NU.out _).mono ?_; rintro r9 v2 ⟨rfl, b2⟩; have B4 := Lib.hid (show Below w2.heap.size w2 v2 from (Below.refl w2.heap.size w2).drew.trans b2); have K4 := B4.out; have KV := K2h.out.below K4; have z0 : v2.cell? ⟨Y + 1, 0, none⟩ = some (.int .i64 1) := KV.cell 0; have z1 : v2.cell? ⟨Y + 1, 1, none⟩ = some (.int .i64 0) := KV.cell 1; have z2 : v2.cell? ⟨Y + 1, 2, none⟩ = some (.int .i64 0) := KV.cell 2; have z3 : v2.cell? ⟨Y + 1, 3, none⟩ = some (.int .i64 0) := KV.cell 3; have z4 : v2.cell? ⟨Y + 1, 4, none⟩ = some (.string ⟨#[]⟩) := KV.cell 4; have z5 : v2.cell? ⟨Y + 1, 5, none⟩ = some (.slice none 0 0) := KV.cell 5; have z6 : v2.cell? ⟨Y + 1, 6, none⟩ = some (.int .i64 0) := KV.cell 6; have z7 : v2.cell? ⟨Y + 1, 7, none⟩ = some (.string ⟨#[]⟩) := KV.cell 7; have z8 : v2.cell? ⟨Y + 1, 8, none⟩ = some (.string ⟨#[]⟩) := KV.cell 8; have z9 : v2.cell? ⟨Y + 1, 9, none⟩ = some (.int .i64 0) := KV.cell 9; have fz : ∀ i, v2.frozen? ⟨Y + 1, i, none⟩ = false := KV.free; have KVh := Lib.hid KV; clear b2 K4 KV)
  all_goals (
    obtain ⟨W5, hW5, K5, b5⟩ := set10 KVh.out (.int .i64 2) (.int .i64 id) (.int .i64 (sq + 1)) (.int .i64 c) (.string k) (.slice p m cp) (.int .i64 0) (.string ⟨#[]⟩) (.string ⟨#[]⟩) (.int .i64 0)
    rw [← hW5]
    have hs3 := B4.out.size
    have BW : Below Y w W5 := (BB.out.trans (B4.out.mono (by omega))).trans (b5.mono (by omega))
    have T5 := Lib.hid ((T2.out.below B4.out).at_ b5 (by omega))
    have K15 := Lib.hid ((K12.out.below B4.out).at_ b5 (by omega))
    have WR5 := Lib.hid (WRh.out W5 BW)
    have BWh := Lib.hid BW
    have e0 : W5.cell? ⟨Y + 1, 0, none⟩ = some (.int .i64 2) := K5.cell 0
    have e1 : W5.cell? ⟨Y + 1, 1, none⟩ = some (.int .i64 id) := K5.cell 1
    have e2 : W5.cell? ⟨Y + 1, 2, none⟩ = some (.int .i64 (sq + 1)) := K5.cell 2
    have e3 : W5.cell? ⟨Y + 1, 3, none⟩ = some (.int .i64 c) := K5.cell 3
    have e4 : W5.cell? ⟨Y + 1, 4, none⟩ = some (.string k) := K5.cell 4
    have e5 : W5.cell? ⟨Y + 1, 5, none⟩ = some (.slice p m cp) := K5.cell 5
    have e6 : W5.cell? ⟨Y + 1, 6, none⟩ = some (.int .i64 0) := K5.cell 6
    have e7 : W5.cell? ⟨Y + 1, 7, none⟩ = some (.string ⟨#[]⟩) := K5.cell 7
    have e8 : W5.cell? ⟨Y + 1, 8, none⟩ = some (.string ⟨#[]⟩) := K5.cell 8
    have e9 : W5.cell? ⟨Y + 1, 9, none⟩ = some (.int .i64 0) := K5.cell 9
    have hs5 := BW.size
    clear z0 z1 z2 z3 z4 z5 z6 z7 z8 z9 fz KVh B4 d0 d1 d2 d3 d4 t2 t3 t4 K5 b5 hW5 BW W1 W2 T2 K12 K2h BB
    go_wp2_with fail
    refine WR5.out.mono ?_
    rintro e w3 ⟨rfl, b3⟩
    have c1 : w3.cell? ⟨t, 1, none⟩ = some (.int .i64 to) := (T5.out.below b3).cell 1
    have z0 : w3.cell? ⟨Y, 0, none⟩ = some (.int .i64 0) := (K15.out.below b3).cell 0
    have z1 : w3.cell? ⟨Y, 1, none⟩ = some (.string ⟨#[]⟩) := (K15.out.below b3).cell 1
    have z2 : w3.cell? ⟨Y, 2, none⟩ = some (.string ⟨#[]⟩) := (K15.out.below b3).cell 2
    have z3 : w3.cell? ⟨Y, 3, none⟩ = some (.int .i64 0) := (K15.out.below b3).cell 3
    have z4 : w3.cell? ⟨Y, 4, none⟩ = some (.int .i64 0) := (K15.out.below b3).cell 4
    have fz : ∀ i, w3.frozen? ⟨Y, i, none⟩ = false := (K15.out.below b3).free
    have B3 := Lib.hid (BWh.out.trans (b3.mono (by omega)))
    clear b3 e0 e1 e2 e3 e4 e5 e6 e7 e8 e9 T5 K15 BWh WR5
    go_wp2_with fail
    refine bodyPost_ret (by simp [results, Try.results34, go_sem, z0, z1, z2, z3, z4]; try rfl) rfl ?_
    exact ⟨rfl, below5 B3.out (Nat.le_refl _) _ _ _ _ _⟩)
end
end Go.Proofs.Ytbghjcfepjbppaa
/-
  THE PAGE's EXAMPLE.
-/
namespace Go.Proofs.Ytbghjcfepjbppaa
open Go.RowKit
theorem aw_chk : chkB 1 1 0 ⟨#[97]⟩ [] = true := by decide +kernel
theorem aw_chk4 : chkB 4 1 0 ⟨#[97]⟩ [] = true := by decide +kernel
theorem aw_txt : askS 4 (0 + 1) 0 ⟨#[97]⟩ [] = ⟨#[2, 4, 1, 0, 1, 97, 0]⟩ := by decide +kernel
/-- what the page's first event leaves -/
def AwA (w : World) (t : Nat) (W : World) (id : Int) (to : Int) : Prop :=
  ∃ g cap rv p cp, Blk W t 98 (tel 2 to id 0 (.slice (some ⟨g, 0, none⟩) 1 cap) rv) ∧ t = w.heap.size ∧ t < g ∧ g < W.heap.size ∧ Below w.heap.size w W ∧
    W.cell? ⟨g, 0, none⟩ = some (.int .i64 0) ∧ W.cell? ⟨g, 1, none⟩ = some (.int .i64 0) ∧ W.cell? ⟨g, 2, none⟩ = some (.int .i64 0) ∧ W.cell? ⟨g, 3, none⟩ = some (.string ⟨#[97]⟩) ∧ W.cell? ⟨g, 4, none⟩ = some (.slice p 0 cp)
theorem AwA.set {w : World} {t : Nat} {W W' : World} {id to id' to' : Int} (h : AwA w t W id to) (T : ∀ g cap rv, Blk W t 98 (tel 2 to id 0 (.slice (some ⟨g, 0, none⟩) 1 cap) rv) → Blk W' t 98 (tel 2 to' id' 0 (.slice (some ⟨g, 0, none⟩) 1 cap) rv)) (f : Fr W W' (fun q => q = t)) : AwA w t W' id' to' := by
  obtain ⟨g, cap, rv, p, cp, hT, ht, hg, hgs, hb, c0, c1, c2, c3, c4⟩ := h
  exact ⟨g, cap, rv, p, cp, T _ _ _ hT, ht, hg, Nat.lt_of_lt_of_le hgs f.size, hb.trans (f.below (fun q hq => by omega) hb.size), f.cell hgs (by omega) c0, f.cell hgs (by omega) c1, f.cell hgs (by omega) c2, f.cell hgs (by omega) c3, f.cell hgs (by omega) c4⟩
theorem AwA.next {w : World} {t : Nat} {W W' : World} {id to : Int} (h : AwA w t W id to) (b : Below W.heap.size W W') : AwA w t W' id to := by
  have hlt : ∀ g cap rv, Blk W t 98 (tel 2 to id 0 (.slice (some ⟨g, 0, none⟩) 1 cap) rv) → Blk W' t 98 (tel 2 to id 0 (.slice (some ⟨g, 0, none⟩) 1 cap) rv) := fun g cap rv hT => hT.below b
  exact h.set hlt (Fr.of_below b _)
theorem aw_new (w : World) : Calls Try.prog 7 #[.int .i64 2] w fun e w' => e = .returned (.pointer (some ⟨w.heap.size, 0, none⟩)) ∧ Blk w' w.heap.size 98 (tel 2 0 0 0 (.slice none 0 0) (.slice none 0 0)) ∧ Below w.heap.size w w' := tel_new 2 (by decide) w
theorem aw_add {w0 w : World} (T : Blk w w0.heap.size 98 (tel 2 0 0 0 (.slice none 0 0) (.slice none 0 0))) (hb : Below w0.heap.size w0 w) :
    Calls Try.prog 11 #[.pointer (some ⟨w0.heap.size, 0, none⟩), evV 0 0 0 ⟨#[97]⟩ (.slice none 0 0)] w fun e w' => e = .returned (.int .i64 0) ∧ AwA w0 w0.heap.size w' 0 0 := by
  have hlt := T.lt
  refine (add_ok (B := w.heap.size) (L := []) (p := none) (cp := 0) (ua := none) (uc := 0) (n := 0) (cs := []) T hlt (Nat.le_refl _) (World.ownsRow_nil _ _ _ _) (by omega) ?_ ?_).mono ?_
  · intro W _
    have h := check_any 1 1 0 ⟨#[97]⟩ none 0 [] W (by simp) (by decide) (fun i hi => by simp at hi) (fun x hx => by cases hx)
    rw [aw_chk] at h
    exact h
  · intro W _
    exact copR_nil 0 0 0 ⟨#[97]⟩ (by decide) W
  · rintro e w' ⟨rfl, g, cap, p, cp, T', ho, hF, hp, f, _⟩
    have CA : ∀ i u, (encE 0 0 0 ⟨#[97]⟩ (.slice p ([] : List Fld).length cp))[i]? = some u → w'.cell? ⟨g, i, none⟩ = some u := fun i u hu => by
      rw [World.ownsRow.cellAt ho _ (by have := (List.getElem?_eq_some_iff.1 hu).1; simpa [encE] using this)]
      exact hu
    refine ⟨rfl, g, cap, _, p, cp, T', rfl, ?_, ?_, ?_, CA 0 _ rfl, CA 1 _ rfl, CA 2 _ rfl, CA 3 _ rfl, CA 4 _ rfl⟩
    · have := (World.ownsRow.lt ho g rfl).1; omega
    · exact (World.ownsRow.lt ho g rfl).2
    · refine hb.trans (f.below (fun q hq => ?_) hb.size)
      rcases hq with rfl | hq
      · exact Nat.le_refl _
      · simp [Value.ownBlock] at hq
theorem aw_ask0 {w0 w : World} {t : Nat} (h : AwA w0 t w 0 0) : Calls Try.prog 34 #[.pointer (some ⟨t, 0, none⟩)] w fun e w' => e = .returned (.tuple #[askV 0 ⟨#[1]⟩ ⟨#[]⟩ 0 0, .bool true]) ∧ AwA w0 t w' 0 0 ∧ Fr w w' (fun q => q = t) := by
  have h0 := h
  obtain ⟨g, cap, rv, p, cp, hT, _⟩ := h
  exact (ask_open hT (by omega)).mono fun e w' ⟨he, b⟩ => ⟨he, h0.next b, Fr.of_below b _⟩
theorem aw_told {w0 w : World} {t : Nat} (h : AwA w0 t w 0 0) (lead : Int) : Calls Try.prog 13 #[.pointer (some ⟨t, 0, none⟩), .agg #[.int .i64 0, .int .i64 4], .int .i64 lead] w fun e w' => e = .returned (.tuple #[]) ∧ AwA w0 t w' 4 0 ∧ Fr w w' (fun q => q = t) := by
  have h0 := h
  obtain ⟨g, cap, rv, p, cp, hT, ht, hg, hgs, hb, c0, c1, c2, c3, c4⟩ := h
  refine (told_opens (m := 4) (lead := lead) hT (by omega) (by omega)).mono fun e w' ⟨he, T', f⟩ => ⟨he, ?_, f⟩
  exact ⟨g, cap, rv, p, cp, T', ht, hg, Nat.lt_of_lt_of_le hgs f.size, hb.trans (f.below (fun q hq => by omega) hb.size), f.cell hgs (by omega) c0, f.cell hgs (by omega) c1, f.cell hgs (by omega) c2, f.cell hgs (by omega) c3, f.cell hgs (by omega) c4⟩
theorem aw_late {w0 w : World} {t : Nat} (h : AwA w0 t w 4 0) : Calls Try.prog 15 #[.pointer (some ⟨t, 0, none⟩)] w fun e w' => e = .returned (.tuple #[]) ∧ AwA w0 t w' 4 1 ∧ Fr w w' (fun q => q = t) := by
  obtain ⟨g, cap, rv, p, cp, hT, ht, hg, hgs, hb, c0, c1, c2, c3, c4⟩ := h
  refine (late_any hT (by omega) (by omega)).mono fun e w' ⟨he, T', f⟩ => ⟨he, ?_, f⟩
  exact ⟨g, cap, rv, p, cp, T', ht, hg, Nat.lt_of_lt_of_le hgs f.size, hb.trans (f.below (fun q hq => by omega) hb.size), f.cell hgs (by omega) c0, f.cell hgs (by omega) c1, f.cell hgs (by omega) c2, f.cell hgs (by omega) c3, f.cell hgs (by omega) c4⟩
theorem aw_ask {w0 w : World} {t : Nat} {to : Int} (h : AwA w0 t w 4 to) : Calls Try.prog 34 #[.pointer (some ⟨t, 0, none⟩)] w fun e w' => e = .returned (.tuple #[askV to ⟨#[2, 4, 1, 0, 1, 97, 0]⟩ ⟨#[]⟩ 0 0, .bool true]) ∧ AwA w0 t w' 4 to ∧ Fr w w' (fun q => q = t) := by
  have h0 := h
  obtain ⟨g, cap, rv, p, cp, hT, ht, hg, hgs, hb, c0, c1, c2, c3, c4⟩ := h
  have A := ask_event (L := []) hT (by omega) (by omega) (by omega) c0 c1 c2 c3 c4 hgs (fun W _ => write_event 4 (0 + 1) 0 ⟨#[97]⟩ p cp [] W (by simp) (by decide) (fun i hi => by simp at hi) (fun x hx => by cases hx) (fun x hx => by cases hx) (by omega) (by omega) aw_chk4 (by decide +kernel))
  rw [aw_txt] at A
  exact A.mono fun e w' ⟨he, b⟩ => ⟨he, h0.next b, Fr.of_below b _⟩
set_option maxHeartbeats 2000000 in
set_option maxRecDepth 100000 in
theorem awake_any (w : World) : Calls Try.prog 8 #[] w fun e w' => e = .returned (.bool true) ∧ Below w.heap.size w w' := by
  have N := Lib.hid (aw_new w)
  have A1 := Lib.hid (fun W T b => aw_add (w0 := w) (w := W) T b)
  have A2 := Lib.hid (fun W (h : AwA w w.heap.size W 0 0) => aw_ask0 h)
  have A3 := Lib.hid (fun W (h : AwA w w.heap.size W 0 0) => aw_told h (-1))
  have A4 := Lib.hid (fun W (h : AwA w w.heap.size W 4 0) => aw_ask h)
  have A5 := Lib.hid (fun W (h : AwA w w.heap.size W 4 0) => aw_late h)
  have A6 := Lib.hid (fun W (h : AwA w w.heap.size W 4 1) => aw_ask h)
  have NX := Lib.hid (fun (W W' : World) (id to : Int) (h : AwA w w.heap.size W id to) (b : Below W.heap.size W W') => h.next b)
  have SZ := Lib.hid (fun (W : World) (id to : Int) (h : AwA w w.heap.size W id to) => (show w.heap.size < W.heap.size ∧ Below w.heap.size w W from ⟨by obtain ⟨g, _, _, _, _, _, _, h1, h2, _⟩ := h; omega, by obtain ⟨g, _, _, _, _, _, _, _, _, h3, _⟩ := h; exact h3⟩))
  unfold evV at A1
  unfold askV at A2 A4 A6
  generalize hAw : AwA w w.heap.size = M at *
  clear hAw
  generalize hy : w.heap.size = Y at *
  go_enter Try.func8, Try.ntmps8
  go_wp2_with fail
  refine N.out.mono ?_
  rintro e w1 ⟨rfl, T1, b1⟩
  have T1 := Lib.hid T1
  have b1 := Lib.hid b1
  go_wp2_with fail
  refine (A1.out _ T1.out b1.out).mono ?_
  rintro e w2 ⟨rfl, m2⟩
  clear T1 b1
  go_wp2_with fail
  refine (A2.out _ m2).mono ?_
  rintro e w3 ⟨rfl, m3, _⟩
  clear m2
  go_wp2_with fail
  have al := fun (W : World) o => (Below.refl W.heap.size W).alloc (Nat.le_refl _) o
  obtain ⟨W3, hW3, M3, X3⟩ : ∃ W3, W3 = w3.alloc (.cells #[.int .i64 0, .string ⟨#[1]⟩, .string ⟨#[]⟩, .int .i64 0, .int .i64 0] 63) ∧ M W3 0 0 ∧ Blk W3 w3.heap.size 63 #[.int .i64 0, .string ⟨#[1]⟩, .string ⟨#[]⟩, .int .i64 0, .int .i64 0] := ⟨_, rfl, NX.out _ _ _ _ m3 (al _ _), Blk.new _ _ _⟩
  rw [← hW3]
  have Y3 : w3.heap.size ≠ Y := by have := (SZ.out _ _ _ m3).1; omega
  have X3 := Lib.hid X3
  generalize w3.heap.size = y3 at *
  clear hW3 m3
  refine (A3.out _ M3).mono ?_
  rintro e w4 ⟨rfl, m4, f4⟩
  have X4 := Lib.hid (X3.out.fr f4 Y3)
  clear X3 f4 M3
  go_wp2_with fail
  refine (A4.out _ m4).mono ?_
  rintro e w5 ⟨rfl, m5, f5⟩
  have X5 := Lib.hid (X4.out.fr f5 Y3)
  clear X4 f5 m4
  go_wp2_with fail
  obtain ⟨W5, hW5, M5, Z5, b5⟩ : ∃ W5, W5 = w5.alloc (.cells #[.int .i64 0, .string ⟨#[2, 4, 1, 0, 1, 97, 0]⟩, .string ⟨#[]⟩, .int .i64 0, .int .i64 0] 63) ∧ M W5 4 0 ∧ Blk W5 w5.heap.size 63 #[.int .i64 0, .string ⟨#[2, 4, 1, 0, 1, 97, 0]⟩, .string ⟨#[]⟩, .int .i64 0, .int .i64 0] ∧ Below w5.heap.size w5 W5 := ⟨_, rfl, NX.out _ _ _ _ m5 (al _ _), Blk.new _ _ _, al _ _⟩
  rw [← hW5]
  have X5 := Lib.hid (X5.out.below b5)
  have Y5 : w5.heap.size ≠ Y := by have := (SZ.out _ _ _ m5).1; omega
  have Z5 := Lib.hid Z5
  clear hW5 m5 b5
  generalize w5.heap.size = y5 at *
  refine (A5.out _ M5).mono ?_
  rintro e w6 ⟨rfl, m6, f6⟩
  have X6 := Lib.hid (X5.out.fr f6 Y3)
  have Z6 := Lib.hid (Z5.out.fr f6 Y5)
  clear X5 Z5 f6 M5
  go_wp2_with fail
  refine (A6.out _ m6).mono ?_
  rintro e w7 ⟨rfl, m7, f7⟩
  have X7 := Lib.hid (X6.out.fr f7 Y3)
  have Z7 := Lib.hid (Z6.out.fr f7 Y5)
  clear X6 Z6 f7 m6
  go_upto_region 8 with fail
  obtain ⟨W7, hW7, V7, b7⟩ : ∃ W7, W7 = w7.alloc (.cells #[.int .i64 1, .string ⟨#[2, 4, 1, 0, 1, 97, 0]⟩, .string ⟨#[]⟩, .int .i64 0, .int .i64 0] 63) ∧ Blk W7 w7.heap.size 63 #[.int .i64 1, .string ⟨#[2, 4, 1, 0, 1, 97, 0]⟩, .string ⟨#[]⟩, .int .i64 0, .int .i64 0] ∧ Below w7.heap.size w7 W7 := ⟨_, rfl, Blk.new _ _ _, al _ _⟩
  rw [← hW7]
  have x0 : W7.cell? ⟨y3, 0, none⟩ = some (.int .i64 0) := (X7.out.below b7).cell 0
  have x1 : W7.cell? ⟨y3, 1, none⟩ = some (.string ⟨#[1]⟩) := (X7.out.below b7).cell 1
  have z0 : W7.cell? ⟨y5, 0, none⟩ = some (.int .i64 0) := (Z7.out.below b7).cell 0
  have z1 : W7.cell? ⟨y5, 1, none⟩ = some (.string ⟨#[2, 4, 1, 0, 1, 97, 0]⟩) := (Z7.out.below b7).cell 1
  have v0 : W7.cell? ⟨w7.heap.size, 0, none⟩ = some (.int .i64 1) := V7.cell 0
  have v1 : W7.cell? ⟨w7.heap.size, 1, none⟩ = some (.string ⟨#[2, 4, 1, 0, 1, 97, 0]⟩) := V7.cell 1
  have FIN := Lib.hid (show Below Y w W7 from (SZ.out _ _ _ (NX.out _ _ _ _ m7 b7)).2)
  clear V7 X7 Z7 b7 m7 hW7 N A1 A2 A3 A4 A5 A6 NX SZ al
  generalize w7.heap.size = y7 at *
  go_wp2_with fail
  go_ret
  exact ⟨rfl, FIN.out⟩
end Go.Proofs.Ytbghjcfepjbppaa
/-
  A READER IN MEMORY: NewReader, ahead, At, Gone, Ask, Late.
-/
namespace Go.Proofs.Ytbghjcfepjbppaa
open Go.RowKit
section
variable {A B C : World}
theorem bel_on (h : Below A.heap.size A B) (k : Below B.heap.size B C) : Below A.heap.size A C := h.trans (k.mono h.size)
theorem bel_al (h : Below A.heap.size A B) (o : Obj) : Below A.heap.size A (B.alloc o) := h.alloc h.size o
theorem bel_dr (h : Below A.heap.size A B) : Below A.heap.size A B.drew := h.drew
theorem bel_set (h : Below A.heap.size A B) {X : Nat} (hX : A.heap.size ≤ X) (i : Nat) (u : Value) : Below A.heap.size A (B.setCell ⟨X, i, none⟩ u) := h.setCell (p := ⟨X, i, none⟩) hX u
end
/-- a reader's cells -/
def rdr (nodes to : Int) (nm : ByteArray) (most at_ gone : Int) (gv : Value) : Array Value := #[.int .i64 nodes, .int .i64 to, .string nm, .int .i64 most, .int .i64 at_, .int .i64 gone, gv]
def mayR (nodes : Int) (nm : ByteArray) (most : Int) : Bool := manyB nodes && (wordB nm && decide (1 ≤ most))
set_option maxHeartbeats 1000000 in
set_option maxRecDepth 100000 in
theorem rdr_newN (nodes : Int) (nm : ByteArray) (most : Int) (hk : nm.size ≤ 9223372036854775807) (h : mayR nodes nm most = false) (w : World) : Calls Try.prog 17 #[.int .i64 nodes, .string nm, .int .i64 most] w fun e w' => e = .returned (.pointer none) ∧ w = w' := by
  have M := many_any nodes
  have W := word_any nm hk
  unfold mayR at h
  generalize manyB nodes = b1 at *
  generalize wordB nm = b2 at *
  cases b1
  · go_enter Try.func17, Try.ntmps17
    go_wp2_with fail
    refine (M _).mono ?_
    rintro e w1 ⟨rfl, rfl⟩
    go_wp2_with fail
    go_ret
    exact ⟨rfl, rfl⟩
  · cases b2
    · go_enter Try.func17, Try.ntmps17
      go_wp2_with fail
      refine (M _).mono ?_
      rintro e w1 ⟨rfl, rfl⟩
      go_wp2_with fail
      refine (W _).mono ?_
      rintro e w1 ⟨rfl, rfl⟩
      go_wp2_with fail
      go_ret
      exact ⟨rfl, rfl⟩
    · have hm : most < 1 := by
        simp only [Bool.true_and, decide_eq_false_iff_not] at h
        omega
      clear h
      go_enter Try.func17, Try.ntmps17
      go_wp2_with fail
      refine (M _).mono ?_
      rintro e w1 ⟨rfl, rfl⟩
      go_wp2_with fail
      refine (W _).mono ?_
      rintro e w1 ⟨rfl, rfl⟩
      go_wp2_with fail
      go_ret
      exact ⟨rfl, rfl⟩
set_option maxHeartbeats 1000000 in
set_option maxRecDepth 100000 in
theorem rdr_new (nodes : Int) (nm : ByteArray) (most : Int) (h : mayR nodes nm most = true) (w : World) : Calls Try.prog 17 #[.int .i64 nodes, .string nm, .int .i64 most] w fun e w' => ∃ t, e = .returned (.pointer (some ⟨t, 0, none⟩)) ∧ w.heap.size ≤ t ∧ Blk w' t 119 (rdr nodes 0 nm most 0 0 (.slice none 0 0)) ∧ Below w.heap.size w w' := by
  have M := many_any nodes
  unfold mayR at h
  simp only [Bool.and_eq_true, decide_eq_true_eq] at h
  obtain ⟨h1, h2, h3⟩ := h
  have hs := wordB_size h2
  have W := word_any nm (by omega)
  rw [h1] at M
  rw [h2] at W
  have SC := Lib.hid (fun W => str_clone nm W (by omega))
  have hm : ¬ most < 1 := by omega
  have FIN := Lib.hid (fun (w1 : World) (b : Below w.heap.size w w1) => show Blk (w1.alloc (.cells (rdr nodes 0 nm most 0 0 (.slice none 0 0)) 119)) w1.heap.size 119 (rdr nodes 0 nm most 0 0 (.slice none 0 0)) ∧ Below w.heap.size w (w1.alloc (.cells (rdr nodes 0 nm most 0 0 (.slice none 0 0)) 119)) from ⟨Blk.new _ _ _, b.alloc b.size _⟩)
  clear h1 h2 hs
  go_enter Try.func17, Try.ntmps17
  go_wp2_with fail
  refine (M _).mono ?_
  rintro e w1 ⟨rfl, rfl⟩
  go_wp2_with fail
  refine (W _).mono ?_
  rintro e w1 ⟨rfl, rfl⟩
  go_wp2_with fail
  refine (SC.out _).mono ?_
  rintro e w2 ⟨rfl, b2⟩
  have B2 := Lib.hid b2
  clear b2
  go_wp2_with fail
  go_ret
  exact ⟨_, rfl, B2.out.size, FIN.out _ B2.out⟩
section
variable {w : World} {t : Nat} {nodes to most at_ gone : Int} {nm : ByteArray} {gv : Value}
theorem rat_any (T : Blk w t 119 (rdr nodes to nm most at_ gone gv)) : Calls Try.prog 24 #[.pointer (some ⟨t, 0, none⟩)] w fun e w' => e = .returned (.int .i64 at_) ∧ w = w' := by
  have c4 : w.cell? ⟨t, 4, none⟩ = some (.int .i64 at_) := T.cell 4
  clear T
  go_enter Try.func24, Try.ntmps24
  go_wp2_with fail
  go_ret
  exact ⟨rfl, rfl⟩
theorem rgone_any (T : Blk w t 119 (rdr nodes to nm most at_ gone gv)) : Calls Try.prog 25 #[.pointer (some ⟨t, 0, none⟩)] w fun e w' => e = .returned (.int .i64 gone) ∧ w = w' := by
  have c5 : w.cell? ⟨t, 5, none⟩ = some (.int .i64 gone) := T.cell 5
  clear T
  go_enter Try.func25, Try.ntmps25
  go_wp2_with fail
  go_ret
  exact ⟨rfl, rfl⟩
def aheadN (at_ n : Int) : Int := if n < at_ then -1 else n - at_
theorem ahead_any (T : Blk w t 119 (rdr nodes to nm most at_ gone gv)) (n : Int) (ha : 0 ≤ at_) (hn : n ≤ 9223372036854775807) : Calls Try.prog 54 #[.pointer (some ⟨t, 0, none⟩), .int .i64 n] w fun e w' => e = .returned (.int .i64 (aheadN at_ n)) ∧ w = w' := by
  have c4 : w.cell? ⟨t, 4, none⟩ = some (.int .i64 at_) := T.cell 4
  unfold aheadN
  clear T
  by_cases h : n < at_
  · rw [if_pos h]
    go_enter Try.func54, Try.ntmps54
    go_wp2_with fail
    go_ret
    exact ⟨rfl, rfl⟩
  · rw [if_neg h]
    have hd : decide (n < at_) = false := by simp; omega
    have hw : wrap64 (n - at_) = n - at_ := by unfold wrap64; omega
    go_enter Try.func54, Try.ntmps54
    go_wp2_with fail
    go_ret
    exact ⟨rfl, rfl⟩
theorem rlate_any (T : Blk w t 119 (rdr nodes to nm most at_ gone gv)) (ht : 0 ≤ to ∧ to ≤ 100) (hn : nodes ≤ 100) :
    Calls Try.prog 22 #[.pointer (some ⟨t, 0, none⟩)] w fun e w' => e = .returned (.tuple #[]) ∧ Blk w' t 119 (rdr nodes (nextN to nodes) nm most at_ gone gv) ∧ Fr w w' (fun q => q = t) := by
  have NX := Lib.hid (next_any T rfl rfl ht hn)
  clear T
  go_enter Try.func22, Try.ntmps22
  go_wp2_with fail
  refine NX.out.mono ?_
  rintro e w1 ⟨rfl, T1, f1⟩
  have T1 := Lib.hid T1
  have f1 := Lib.hid f1
  go_wp2_with fail
  go_end0
  exact ⟨rfl, T1.out, f1.out⟩
set_option maxHeartbeats 4000000 in
set_option maxRecDepth 100000 in
theorem rask_any (T : Blk w t 119 (rdr nodes to nm most at_ gone gv)) (hs : nm.size ≤ 281474976710656) : Calls Try.prog 23 #[.pointer (some ⟨t, 0, none⟩)] w fun e w' => e = .returned (.tuple #[askV to ⟨#[]⟩ nm at_ most, .bool true]) ∧ Below w.heap.size w w' := by
  obtain ⟨w1, hw1, K1, B1, hs1⟩ : ∃ w1, w1 = w.alloc (.cells #[.int .i64 0, .string ⟨#[]⟩, .string ⟨#[]⟩, .int .i64 0, .int .i64 0] 63) ∧ Blk w1 w.heap.size 63 #[.int .i64 0, .string ⟨#[]⟩, .string ⟨#[]⟩, .int .i64 0, .int .i64 0] ∧ Below w.heap.size w w1 ∧ w1.heap.size = w.heap.size + 1 :=
    ⟨_, rfl, heap_alloc_new w _, (Below.refl w.heap.size w).alloc (Nat.le_refl _) _, by simp⟩
  have W1 := Lib.hid hw1
  have SO : Hid (∀ v, Below w.heap.size w v → v.cell? ⟨t, 1, none⟩ = some (.int .i64 to) ∧ v.cell? ⟨t, 2, none⟩ = some (.string nm) ∧ v.cell? ⟨t, 3, none⟩ = some (.int .i64 most) ∧ v.cell? ⟨t, 4, none⟩ = some (.int .i64 at_) ∧ Below w.heap.size w v) := Lib.hid fun v b => ⟨(T.below b).cell 1, (T.below b).cell 2, (T.below b).cell 3, (T.below b).cell 4, b⟩
  have K1h := Lib.hid (show Blk w1.drew w.heap.size 63 #[.int .i64 0, .string ⟨#[]⟩, .string ⟨#[]⟩, .int .i64 0, .int .i64 0] from K1)
  have BD := bel_dr B1
  have S1 := SO.out _ BD
  have z0 : w1.drew.cell? ⟨w.heap.size, 0, none⟩ = some (.int .i64 0) := K1.cell 0
  have z1 : w1.drew.cell? ⟨w.heap.size, 1, none⟩ = some (.string ⟨#[]⟩) := K1.cell 1
  have z2 : w1.drew.cell? ⟨w.heap.size, 2, none⟩ = some (.string ⟨#[]⟩) := K1.cell 2
  have z3 : w1.drew.cell? ⟨w.heap.size, 3, none⟩ = some (.int .i64 0) := K1.cell 3
  have z4 : w1.drew.cell? ⟨w.heap.size, 4, none⟩ = some (.int .i64 0) := K1.cell 4
  have hz1 : w.heap.size < w1.drew.heap.size := by show w.heap.size < w1.heap.size; omega
  have SC := Lib.hid (fun W => str_clone nm W hs)
  clear T K1 B1 hw1 hs1
  unfold askV
  go_enter Try.func23, Try.ntmps23
  go_wp2_with fail
  rw [← W1.out]
  go_region_held3 (fun w' => w'.cell? ⟨t, 1, none⟩ = some (.int .i64 to) ∧ w'.cell? ⟨t, 2, none⟩ = some (.string nm) ∧ w'.cell? ⟨t, 3, none⟩ = some (.int .i64 most) ∧ w'.cell? ⟨t, 4, none⟩ = some (.int .i64 at_) ∧ Below w.heap.size w w')
    (first | (with_reducible exact S1) | (refine SO.out _ ?_; (repeat (with_reducible first | assumption | exact Below.refl _ _ | refine bel_dr ?_ | refine bel_al ?_ _ | refine bel_set ?_ (Nat.le_refl _) _ _)); done))
    ((go_at_call 53; (with_reducible refine (SC.out _).mono ?_); rintro r w2 ⟨rfl, b2⟩; have f2 : Below w.heap.size w w2 := bel_on (by (repeat (with_reducible first | assumption | exact Below.refl _ _ | refine bel_dr ?_ | refine bel_al ?_ _))) b2; have KV := K1h.out.below b2; have z0 : w2.cell? ⟨w.heap.size, 0, none⟩ = some (.int .i64 0) := KV.cell 0; have z1 : w2.cell? ⟨w.heap.size, 1, none⟩ = some (.string ⟨#[]⟩) := KV.cell 1; have z2 : w2.cell? ⟨w.heap.size, 2, none⟩ = some (.string ⟨#[]⟩) := KV.cell 2; have z3 : w2.cell? ⟨w.heap.size, 3, none⟩ = some (.int .i64 0) := KV.cell 3; have z4 : w2.cell? ⟨w.heap.size, 4, none⟩ = some (.int .i64 0) := KV.cell 4; have fz : ∀ i, w2.frozen? ⟨w.heap.size, i, none⟩ = false := KV.free))
  all_goals (
    go_wp2_with fail
    refine bodyPost_ret (by simp [results, Try.results23, go_sem, z0, z1, z2, z3, z4]; try rfl) rfl ?_
    exact ⟨rfl, below5 f2 (Nat.le_refl _) _ _ _ _ _⟩)
end
end Go.Proofs.Ytbghjcfepjbppaa
/-
  AN EVENT WITH FIELDS IS COPIED.
-/
namespace Go.Proofs.Ytbghjcfepjbppaa
open Go.RowKit
/-- a store of what lies there changes nothing -/
theorem setCell_same {w : World} {g i : Nat} {t : TypeId} {cs : Array Value} {u : Value} (h : Blk w g t cs) (hc : cs[i]? = some u) : w.setCell ⟨g, i, none⟩ u = w := by
  obtain ⟨hl, he⟩ := Array.getElem?_eq_some_iff.1 h
  obtain ⟨hi, hu⟩ := Array.getElem?_eq_some_iff.1 hc
  have hs : cs.setIfInBounds i u = cs := by
    rw [← hu]
    apply Array.ext
    · simp
    · intro j h1 h2
      rw [Array.getElem_setIfInBounds]
      · by_cases hij : i = j
        · subst hij; simp
        · simp [hij]
      · exact h2
  have : w.heap.modify g (fun | .cells c elem frozen => .cells (if (⟨g, i, none⟩ : Addr).spot.isSome then c else c.setIfInBounds i u) elem frozen | o => o) = w.heap := by
    apply Array.ext
    · simp
    · intro j h1 h2
      rw [Array.getElem_modify]
      by_cases hj : g = j
      · subst hj; simp [he, hs]
      · simp [hj]
  exact congrArg (fun h => { w with heap := h }) this
structure CpI (W0 w : World) (Y : Nat) (a b c : Int) (k : ByteArray) (vp : Value) (L : List Fld) : Prop where
  K : Blk w Y 31 #[.int .i64 a, .int .i64 b, .int .i64 c, .string k, vp]
  Z : Blk w (Y + 1) 31 #[.int .i64 0, .int .i64 0, .int .i64 0, .string ⟨#[]⟩, .slice none 0 0]
  o : w.ownsRow (Y + 2) 105 5 vp L.length (cellsF L)
  b : Below Y W0 w
variable {W0 w w' : World} {Y : Nat} {a b c : Int} {k : ByteArray} {vp u0 : Value} {L : List Fld}
theorem CpI.next (h : CpI W0 w Y a b c k vp L) (hb : Below w.heap.size w w') : CpI W0 w' Y a b c k vp L :=
  ⟨h.K.below hb, h.Z.below hb, Fr.own h.o (Fr.of_below hb (fun _ => False)) (fun _ _ h => h), h.b.trans (hb.mono (by have := h.K.lt; omega))⟩
theorem CpI.row (h : CpI W0 w Y a b c k vp L) {j : Nat} (hj : j < L.length) : ∃ g cap cur, vp = .slice (some ⟨g, 0, none⟩) L.length cap ∧ Blk w g 105 cur ∧
    cur[j * 5]? = some (.string L[j].nm) ∧ cur[j * 5 + 1]? = some (.int .i64 L[j].v.k) ∧ cur[j * 5 + 2]? = some (.int .i64 L[j].v.n) ∧ cur[j * 5 + 3]? = some (.float .f64 L[j].v.f) ∧ cur[j * 5 + 4]? = some (.string L[j].v.s) := by
  rcases h.o.2 with ⟨_, h'⟩ | ⟨g, cap, cur, rfl, hb, hg, hnc, hcm, hcs, hct⟩
  · omega
  · refine ⟨g, cap, cur, rfl, hg, ?_⟩
    have q : ∀ i, i < 5 → cur[j * 5 + i]? = (encF L[j])[i]? := fun i hi => by
      rw [← cellsF_get hj i hi, ← hct, List.getElem?_take, if_pos (by omega), Array.getElem?_toList]
    exact ⟨q 0 (by decide), q 1 (by decide), q 2 (by decide), q 3 (by decide), q 4 (by decide)⟩
theorem ownsRow_dn {w : World} {B B' n size : Nat} {e : TypeId} {v : Value} {xs : List Value} (h : w.ownsRow B e size v n xs) (hB : B' ≤ B) : w.ownsRow B' e size v n xs :=
  ⟨h.1, h.2.imp id (fun ⟨g, cap, cur, e, hb, rest⟩ => ⟨g, cap, cur, e, Nat.le_trans hB hb, rest⟩)⟩
/-- an event's copy as its fields' clone begins -/
theorem cpI_start {w1 w2 : World} (hK : Blk w1 Y 31 #[.int .i64 a, .int .i64 b, .int .i64 c, .string k, u0]) (hZ : Blk w1 (Y + 1) 31 #[.int .i64 0, .int .i64 0, .int .i64 0, .string ⟨#[]⟩, .slice none 0 0]) (hs : Y + 1 + 1 ≤ w1.heap.size) (hb : Below Y W0 w1)
    (ho : w2.ownsRow w1.heap.size 105 5 vp L.length (cellsF L)) (b2 : Below w1.heap.size w1 w2) : CpI W0 (w2.setCell ⟨Y, 4, none⟩ vp) Y a b c k vp L := by
  have K2 := (hK.below b2).set 4 vp
  have Z2 := (hZ.below b2)
  have hl := hK.lt
  refine ⟨K2, Z2.fr (fr_set w2 Y 4 vp) (by omega), ?_, (hb.trans (b2.mono (by omega))).setCell (p := ⟨Y, 4, none⟩) (Nat.le_refl _) _⟩
  have h1 : w2.ownsRow (Y + 2) 105 5 vp L.length (cellsF L) := ownsRow_dn ho (by omega)
  exact ownsRow_setCell_other h1 (fun e => by have := (World.ownsRow.lt h1 Y (by first | exact e | exact e.symm)).1; omega) _
/-- the loop's own copy of a field -/
theorem cpI_field (h : CpI W0 w Y a b c k vp L) (x : Fld) (X : World)
    (hX : X = (((((w.alloc (.cells #[.string ⟨#[]⟩, .int .i64 0, .int .i64 0, .float .f64 0, .string ⟨#[]⟩] 105)).setCell ⟨w.heap.size, 0, none⟩ (.string x.nm)).setCell ⟨w.heap.size, 1, none⟩ (.int .i64 x.v.k)).setCell ⟨w.heap.size, 2, none⟩ (.int .i64 x.v.n)).setCell ⟨w.heap.size, 3, none⟩ (.float .f64 x.v.f)).setCell ⟨w.heap.size, 4, none⟩ (.string x.v.s)) :
    CpI W0 X Y a b c k vp L ∧ Blk X w.heap.size 105 #[.string x.nm, .int .i64 x.v.k, .int .i64 x.v.n, .float .f64 x.v.f, .string x.v.s] := by
  subst hX
  refine ⟨h.next ?_, (((((Blk.new w 105 _).set 0 _).set 1 _).set 2 _).set 3 _).set 4 _⟩
  exact bel_set (bel_set (bel_set (bel_set (bel_set (bel_al (Below.refl _ _) _) (Nat.le_refl _) _ _) (Nat.le_refl _) _ _) (Nat.le_refl _) _ _) (Nat.le_refl _) _ _) (Nat.le_refl _) _ _
/-- the field's store into the row -/
theorem CpI.put (h : CpI W0 w Y a b c k vp L) {j g cap : Nat} (hj : j < L.length) (hv : vp = .slice (some ⟨g, 0, none⟩) L.length cap) :
    CpI W0 (((((w.setCell ⟨g, j * 5, none⟩ (.string L[j].nm)).setCell ⟨g, j * 5 + 1, none⟩ (.int .i64 L[j].v.k)).setCell ⟨g, j * 5 + 2, none⟩ (.int .i64 L[j].v.n)).setCell ⟨g, j * 5 + 3, none⟩ (.float .f64 L[j].v.f)).setCell ⟨g, j * 5 + 4, none⟩ (.string L[j].v.s)) Y a b c k vp L := by
  obtain ⟨g', cap', cur, e, G, q0, q1, q2, q3, q4⟩ := h.row hj
  rw [hv] at e
  cases e
  rw [setCell_same G q0, setCell_same G q1, setCell_same G q2, setCell_same G q3, setCell_same G q4]
  exact h
end Go.Proofs.Ytbghjcfepjbppaa
/-
  AN EVENT WITH FIELDS IS COPIED: client.copied.
-/
namespace Go.Proofs.Ytbghjcfepjbppaa
open Go.RowKit
/-- the end of a copy -/
theorem cpI_end {w W : World} {Y : Nat} {a b c : Int} {k : ByteArray} {L : List Fld} (hY : w.heap.size = Y) (ua : Option Addr) (uc : Nat) (I : CpI w W Y a b c k (.slice ua L.length uc) L) (ld : Value) (hld : ld = evV a b c k (.slice ua L.length uc)) :
    CopR w a b c k L (.returned ld) (((((W.setCell ⟨Y + 1, 0, none⟩ (.int .i64 a)).setCell ⟨Y + 1, 1, none⟩ (.int .i64 b)).setCell ⟨Y + 1, 2, none⟩ (.int .i64 c)).setCell ⟨Y + 1, 3, none⟩ (.string k)).setCell ⟨Y + 1, 4, none⟩ (.slice ua L.length uc)) := by
  subst hld
  unfold CopR
  rw [hY]
  have f := (((((Fr.refl W (fun q => q = Y + 1)).set (Y + 1) 0 (.int .i64 a) (.inl rfl)).set (Y + 1) 1 (.int .i64 b) (.inl rfl)).set (Y + 1) 2 (.int .i64 c) (.inl rfl)).set (Y + 1) 3 (.string k) (.inl rfl)).set (Y + 1) 4 (.slice ua L.length uc) (.inl rfl)
  have hlo := fun q hq => World.ownsRow.lt I.o q hq
  have hz := f.size
  refine ⟨ua, uc, rfl, ?_, ?_, I.b.trans (f.below (fun q e => by omega) (by have := I.K.lt; omega))⟩
  · rcases ua with _ | ⟨ab, ao, ax⟩
    · intro i hi
      rcases I.o.2 with ⟨_, h'⟩ | ⟨g, cap, cur, h', _⟩
      · omega
      · cases h'
    · have hF : Flds W (some ⟨ab, ao, ax⟩) L := by
        rcases I.o.2 with ⟨h', _⟩ | ⟨g, cap, cur, h', _⟩
        · cases h'
        · cases h'; exact flds_own rfl I.o
      refine hF.fr f (fun ad e => ?_)
      cases e
      rcases I.o.2 with ⟨h', _⟩ | ⟨g, cap, cur, h', hg, _⟩
      · cases h'
      · cases h'; show ¬ ab = Y + 1; omega
  · intro ad e
    subst e
    rcases I.o.2 with ⟨h', _⟩ | ⟨g, cap, cur, h', hg, hgg, _⟩
    · cases h'
    · cases h'
      have := (hlo g rfl).2
      exact ⟨by show Y ≤ g; omega, by show g < _; omega⟩
set_option maxHeartbeats 4000000 in
set_option maxRecDepth 100000 in
theorem copied_any {w : World} (a b c : Int) (k : ByteArray) (hk : k.size ≤ 281474976710656) {p : Option Addr} {L : List Fld} (cp : Nat) (h : Flds w p L) (hl : L.length ≤ 1000)
    (hs : ∀ x ∈ L, x.nm.size ≤ 281474976710656 ∧ x.v.s.size ≤ 281474976710656) : Calls Try.prog 43 #[evV a b c k (.slice p L.length cp)] w (CopR w a b c k L) := by
  obtain ⟨w1, hw1, K1, Z1, B1, hs1⟩ : ∃ w1, w1 = (w.alloc (.cells #[.int .i64 a, .int .i64 b, .int .i64 c, .string k, .slice p L.length cp] 31)).alloc (.cells #[.int .i64 0, .int .i64 0, .int .i64 0, .string ⟨#[]⟩, .slice none 0 0] 31) ∧ Blk w1 w.heap.size 31 #[.int .i64 a, .int .i64 b, .int .i64 c, .string k, .slice p L.length cp] ∧ Blk w1 (w.heap.size + 1) 31 #[.int .i64 0, .int .i64 0, .int .i64 0, .string ⟨#[]⟩, .slice none 0 0] ∧ Below w.heap.size w w1 ∧ w1.heap.size = w.heap.size + 1 + 1 :=
    ⟨_, rfl, (Blk.new w 31 _).below ((Below.refl _ _).alloc (Nat.le_refl _) _), by have := Blk.new (w.alloc (.cells #[.int .i64 a, .int .i64 b, .int .i64 c, .string k, .slice p L.length cp] 31)) 31 #[.int .i64 0, .int .i64 0, .int .i64 0, .string ⟨#[]⟩, .slice none 0 0]; simpa using this, ((Below.refl w.heap.size w).alloc (Nat.le_refl _) _).alloc (by simp) _, by simp⟩
  have SC := Lib.hid (str_clone k w1 hk)
  have W1 := Lib.hid hw1
  have HF := Lib.hid h
  have HS := Lib.hid hs
  have FC := Lib.hid (fun (W : World) (hF : Flds W p L) => fclone_any cp hF hl)
  have ST := Lib.hid (fun (W W2 : World) (u0 vp : Value) hK hZ hs hb ho b2 => cpI_start (W0 := w) (Y := w.heap.size) (a := a) (b := b) (c := c) (k := k) (u0 := u0) (vp := vp) (L := L) (w1 := W) (w2 := W2) hK hZ hs hb ho b2)
  have FIN := Lib.hid (fun (W : World) (ua : Option Addr) (uc : Nat) (I : CpI w W w.heap.size a b c k (.slice ua L.length uc) L) (ld : Value) hld => cpI_end rfl ua uc I ld hld)
  have hlI : (L.length : Int) ≤ 1000 := by omega
  unfold evV
  generalize hn : L.length = n at *
  have HN := Lib.hid hn
  generalize hQ : CopR w a b c k L = Q at *
  generalize hy : w.heap.size = Y at *
  have e3 : w1.cell? ⟨Y, 3, none⟩ = some (.string k) := K1.cell 3
  have K1h := Lib.hid K1
  have Z1h := Lib.hid Z1
  have B1h := Lib.hid B1
  clear K1 Z1 B1 hw1 hk h hs hQ hn hl
  go_enter Try.func43, Try.ntmps43
  go_wp2_with fail
  rw [← W1.out]
  go_wp2_with fail
  refine SC.out.mono ?_
  rintro e w2 ⟨rfl, b2⟩
  have hY1 : Y + 1 + 1 ≤ w2.heap.size := by have := b2.size; omega
  have K2 : Blk (w2.setCell ⟨Y, 3, none⟩ (.string k)) Y 31 #[.int .i64 a, .int .i64 b, .int .i64 c, .string k, .slice p n cp] := (K1h.out.below (b2.mono (Nat.le_refl _))).set 3 (.string k)
  have sm : w2.setCell ⟨Y, 3, none⟩ (.string k) = w2 := setCell_same (K1h.out.below b2) (i := 3) rfl
  rw [sm] at K2
  have c3 : w2.cell? ⟨Y, 3, none⟩ = some (.string k) := K2.cell 3
  have c4 : w2.cell? ⟨Y, 4, none⟩ = some (.slice p n cp) := K2.cell 4
  have fz : ∀ i, w2.frozen? ⟨Y, i, none⟩ = false := K2.free
  have K2h := Lib.hid K2
  have Z2h := Lib.hid (Z1h.out.below b2)
  have B2 := Lib.hid (B1h.out.trans (b2.mono (by omega)))
  have HF2 := Lib.hid ((HF.out.below (show Below w.heap.size w w1 by rw [hy]; exact B1h.out)).below b2)
  have hzW : Hid (Y + 1 + 1 ≤ w2.heap.size) := Lib.hid hY1
  clear b2 K2 e3 K1h Z1h B1h W1 HF SC hY1
  go_wp2_with fail
  refine (FC.out _ HF2.out).mono ?_
  rintro e w3 ⟨vp, rfl, o3, b3⟩
  rw [HN.out] at o3
  obtain ⟨ua, uc, rfl⟩ : ∃ ua uc, vp = .slice ua n uc := by
    rcases o3.2 with ⟨h1, h2⟩ | ⟨g, cap, cur, h1, _⟩
    · exact ⟨none, 0, by rw [h1, h2]⟩
    · exact ⟨_, _, h1⟩
  have I0 := Lib.hid (ST.out w2 w3 _ _ K2h.out Z2h.out hzW.out B2.out o3 b3)
  have K3 : Blk w3 Y 31 #[.int .i64 a, .int .i64 b, .int .i64 c, .string k, .slice p n cp] := K2h.out.below b3
  have c4' : w3.cell? ⟨Y, 4, none⟩ = some (.slice p n cp) := K3.cell 4
  have fz' : ∀ i, w3.frozen? ⟨Y, i, none⟩ = false := K3.free
  clear o3 b3 K2h Z2h B2 hzW ST FC c3 c4 fz sm HF2 K3
  go_wp2_with fail
  clear c4' fz'
  generalize w3.setCell ⟨Y, 4, none⟩ (.slice ua n uc) = V at *
  go_loopw [16] (fun i wr => ∃ (j : Nat), i = .int .i64 j ∧ j ≤ n ∧ Hid (CpI w wr Y a b c k (.slice ua n uc) L)) (fun i wr => n - (intOf i).toNat)
  case atStart => exact ⟨0, rfl, Nat.zero_le _, I0⟩
  case round =>
    obtain ⟨j, rfl, hj, hI⟩ := hrel
    clear I0
    by_cases hjn : j < n
    · have jI : (j : Int) < (n : Int) := by omega
      have hjL : j < L.length := by rw [HN.out]; exact hjn
      obtain ⟨g, cap, cur, e, G, q0, q1, q2, q3, q4⟩ := hI.out.row hjL
      rw [HN.out] at e
      cases e
      have HSj := HS.out _ (List.getElem_mem hjL)
      have PUT := Lib.hid (fun (W : World) (h : CpI w W Y a b c k (.slice (some ⟨g, 0, none⟩) n uc) L) => h.put hjL (by rw [HN.out]))
      have ROW := Lib.hid (fun (W : World) (h : CpI w W Y a b c k (.slice (some ⟨g, 0, none⟩) n uc) L) => h.row hjL)
      obtain ⟨x, hx⟩ : ∃ x, x = L[j]'hjL := ⟨_, rfl⟩
      rw [← hx] at PUT ROW HSj q0 q1 q2 q3 q4
      have r0 : wr.cell? ⟨g, j * 5, none⟩ = some (.string x.nm) := by rw [G.cell]; exact q0
      have r1 : wr.cell? ⟨g, j * 5 + 1, none⟩ = some (.int .i64 x.v.k) := by rw [G.cell]; exact q1
      have r2 : wr.cell? ⟨g, j * 5 + 2, none⟩ = some (.int .i64 x.v.n) := by rw [G.cell]; exact q2
      have r3 : wr.cell? ⟨g, j * 5 + 3, none⟩ = some (.float .f64 x.v.f) := by rw [G.cell]; exact q3
      have r4 : wr.cell? ⟨g, j * 5 + 4, none⟩ = some (.string x.v.s) := by rw [G.cell]; exact q4
      clear G q0 q1 q2 q3 q4
      clear hx
      obtain ⟨xn, xk, xm, xf, xs⟩ := x
      simp only at *
      obtain ⟨X, hX, KX, BX, sX⟩ : ∃ X, X = wr.alloc (.cells #[.string xn, .int .i64 xk, .int .i64 xm, .float .f64 xf, .string xs] 105) ∧ Blk X wr.heap.size 105 #[.string xn, .int .i64 xk, .int .i64 xm, .float .f64 xf, .string xs] ∧ Below wr.heap.size wr X ∧ X.heap.size = wr.heap.size + 1 := ⟨_, rfl, Blk.new _ _ _, bel_al (Below.refl _ _) _, by simp⟩
      have IX := Lib.hid (hI.out.next BX)
      have HX := Lib.hid hX
      have SO : Hid (∀ v, Below X.heap.size X v → v.cell? ⟨wr.heap.size, 0, none⟩ = some (.string xn) ∧ v.cell? ⟨wr.heap.size, 4, none⟩ = some (.string xs) ∧ v.frozen? ⟨wr.heap.size, 0, none⟩ = false ∧ v.frozen? ⟨wr.heap.size, 4, none⟩ = false ∧ Below X.heap.size X v) := Lib.hid fun v bv => ⟨(KX.below bv).cell 0, (KX.below bv).cell 4, (KX.below bv).free 0, (KX.below bv).free 4, bv⟩
      have S0 : Hid (∀ v, Below X.heap.size X v → Below X.heap.size X (v.setCell ⟨wr.heap.size, 0, none⟩ (.string xn))) := Lib.hid fun v bv => by rw [setCell_same (u := .string xn) (KX.below bv) (i := 0) rfl]; exact bv
      have S4 : Hid (∀ v, Below X.heap.size X v → Below X.heap.size X (v.setCell ⟨wr.heap.size, 4, none⟩ (.string xs))) := Lib.hid fun v bv => by rw [setCell_same (u := .string xs) (KX.below bv) (i := 4) rfl]; exact bv
      have E0 : Hid (∀ v, Below X.heap.size X v → v.setCell ⟨wr.heap.size, 0, none⟩ (.string xn) = v) := Lib.hid fun v bv => setCell_same (u := .string xn) (KX.below bv) (i := 0) rfl
      have E4 : Hid (∀ v, Below X.heap.size X v → v.setCell ⟨wr.heap.size, 4, none⟩ (.string xs) = v) := Lib.hid fun v bv => setCell_same (u := .string xs) (KX.below bv) (i := 4) rfl
      have HK := Lib.hid KX
      have SCn := Lib.hid (fun W => str_clone xn W HSj.1)
      have SCs := Lib.hid (fun W => str_clone xs W HSj.2)
      have BD : Below X.heap.size X X.drew := bel_dr (Below.refl _ _)
      have S1 := SO.out _ BD
      clear hX KX BX HSj
      go_wp2_with fail
      rw [← HX.out]
      clear r0 r1 r2 r3 r4
      go_region_held3 (fun w' => w'.cell? ⟨wr.heap.size, 0, none⟩ = some (.string xn) ∧ w'.cell? ⟨wr.heap.size, 4, none⟩ = some (.string xs) ∧ w'.frozen? ⟨wr.heap.size, 0, none⟩ = false ∧ w'.frozen? ⟨wr.heap.size, 4, none⟩ = false ∧ Below X.heap.size X w')
        (first | (with_reducible exact S1) | (refine SO.out _ ?_; (repeat (with_reducible first | assumption | exact Below.refl _ _ | refine bel_dr ?_ | refine S0.out _ ?_ | refine S4.out _ ?_)); done))
        ((go_at_call 53; (with_reducible first | refine (SCn.out _).mono ?_ | refine (SCs.out _).mono ?_); rintro r w4 ⟨rfl, b4⟩; have f4 : Below X.heap.size X w4 := bel_on (by (repeat (with_reducible first | assumption | exact Below.refl _ _ | refine bel_dr ?_ | refine S0.out _ ?_ | refine S4.out _ ?_))) b4))
      rw [E0.out _ f4, E4.out _ f4]
      have I4 := IX.out.next f4
      have K4 := HK.out.below f4
      have R4 := ROW.out _ I4
      have P4 := Lib.hid (PUT.out _ I4)
      obtain ⟨g', cap', cur', e, G, q0, q1, q2, q3, q4⟩ := R4
      rw [HN.out] at e
      cases e
      have r0 : w4.cell? ⟨g, j * 5, none⟩ = some (.string xn) := by rw [G.cell]; exact q0
      have r1 : w4.cell? ⟨g, j * 5 + 1, none⟩ = some (.int .i64 xk) := by rw [G.cell]; exact q1
      have r2 : w4.cell? ⟨g, j * 5 + 2, none⟩ = some (.int .i64 xm) := by rw [G.cell]; exact q2
      have r3 : w4.cell? ⟨g, j * 5 + 3, none⟩ = some (.float .f64 xf) := by rw [G.cell]; exact q3
      have r4 : w4.cell? ⟨g, j * 5 + 4, none⟩ = some (.string xs) := by rw [G.cell]; exact q4
      have z0 : w4.cell? ⟨wr.heap.size, 0, none⟩ = some (.string xn) := K4.cell 0
      have z1 : w4.cell? ⟨wr.heap.size, 1, none⟩ = some (.int .i64 xk) := K4.cell 1
      have z2 : w4.cell? ⟨wr.heap.size, 2, none⟩ = some (.int .i64 xm) := K4.cell 2
      have z3 : w4.cell? ⟨wr.heap.size, 3, none⟩ = some (.float .f64 xf) := K4.cell 3
      have z4 : w4.cell? ⟨wr.heap.size, 4, none⟩ = some (.string xs) := K4.cell 4
      have y4 : w4.cell? ⟨Y, 4, none⟩ = some (.slice (some ⟨g, 0, none⟩) n uc) := I4.K.cell 4
      have fz : ∀ i, w4.frozen? ⟨g, i, none⟩ = false := G.free
      clear G q0 q1 q2 q3 q4 I4 K4 IX HK E0 E4 S0 S4 SO S1 BD SCn SCs f4 b4 PUT ROW hI
      go_wp2_with fail
      go_roundw
      case rel => exact ⟨j + 1, by go_num, by omega, P4⟩
      case measure => simp [intOf]; omega
    · have hjn' : j = n := by omega
      subst hjn'
      have jB : ¬ ((j : Int) < (j : Int)) := by omega
      have y0 : wr.cell? ⟨Y, 0, none⟩ = some (.int .i64 a) := hI.out.K.cell 0
      have y1 : wr.cell? ⟨Y, 1, none⟩ = some (.int .i64 b) := hI.out.K.cell 1
      have y2 : wr.cell? ⟨Y, 2, none⟩ = some (.int .i64 c) := hI.out.K.cell 2
      have y3 : wr.cell? ⟨Y, 3, none⟩ = some (.string k) := hI.out.K.cell 3
      have y4 : wr.cell? ⟨Y, 4, none⟩ = some (.slice ua j uc) := hI.out.K.cell 4
      have z0 : wr.cell? ⟨Y + 1, 0, none⟩ = some (.int .i64 0) := hI.out.Z.cell 0
      have z1 : wr.cell? ⟨Y + 1, 1, none⟩ = some (.int .i64 0) := hI.out.Z.cell 1
      have z2 : wr.cell? ⟨Y + 1, 2, none⟩ = some (.int .i64 0) := hI.out.Z.cell 2
      have z3 : wr.cell? ⟨Y + 1, 3, none⟩ = some (.string ⟨#[]⟩) := hI.out.Z.cell 3
      have z4 : wr.cell? ⟨Y + 1, 4, none⟩ = some (.slice none 0 0) := hI.out.Z.cell 4
      have gz : ∀ i, wr.frozen? ⟨Y + 1, i, none⟩ = false := hI.out.Z.free
      have FI := Lib.hid (FIN.out wr ua uc hI.out)
      clear hI FIN
      go_wp2_with fail
      refine bodyPost_ret (by simp [results, Try.results43, go_sem, z0, z1, z2, z3, z4]; try rfl) rfl ?_
      exact FI.out _ rfl
end Go.Proofs.Ytbghjcfepjbppaa
/-
  FOR THE ROWS: whatever the arguments' types: a law that answers true, and below whose heap's old end nothing has turned, leaves each argument as it read.
-/
namespace Go.Proofs.Ytbghjcfepjbppaa
open Go.ChangeShapes Go.WideShapes Go.ChangeAt Go.RowKit
theorem own : ownKnob Try.prog.godebug = none := by kernel_rfl
theorem laidOut : laidOutB Try.prog = true := by kernel_rfl
section
variable {H : Type} {enc : TypeId × Value → H} {P : Program}
theorem trodAll_below (hl : laidOutB P = true) {W W' : World} (hb : Below W.heap.size W W') : ∀ (ts : List TypeId) (vs : List Value) (ds : List (DataW H)) (ps : List MemPlace),
    (∀ t ∈ ts, P.readableRec t = true ∧ t < P.types.size) → DataW.TrodAll enc P W 0 (fun _ => true) true ts vs ds ps → (∀ x ∈ ps, x.block < W.heap.size) →
    DataW.TrodAll enc P W' 0 (fun b => decide (b < W.heap.size)) true ts vs ds ps
  | [], vs, ds, ps, _, h, _ => by
    obtain ⟨rfl, rfl, rfl⟩ := trodAll_nil h
    exact trodAll_mk0
  | t :: ts, vs, ds, ps, hr, h, hlt => by
    obtain ⟨v, vs', d, ds', p, q, rfl, rfl, rfl, h0, h1⟩ := trodAll_cons h
    exact trodAll_cons_mk (Below.trod hl (hr t (by simp)).1 (hr t (by simp)).2 h0 hb (fun x hx => hlt x (by simp [hx])))
      (trodAll_below hl hb ts vs' ds' q (fun u hu => hr u (by simp [hu])) h1 (fun x hx => hlt x (by simp [hx])))
/-- the end of every law's row -/
theorem law_post {f : Func} {s : ChangeSpec} {tb : TypeId} {apart fresh handsOn : Bool} {W W' : World} {args : Array Value} {ds : List (DataW H)} {before pa : List MemPlace}
    (hl : laidOutB P = true) (hr : ∀ t ∈ f.params.toList, P.readableRec t = true ∧ t < P.types.size) (hv : s.vars = []) (ht : f.resultTypes = #[tb]) (hb : P.underlying tb = some .bool)
    (hfn : s.fn H (ds ++ []) = { results := [.lit (.bool true)], args := ds })
    (hW : DataW.Whole enc P f.params.toList s.vars apart W args.toList ds [] before)
    (hA : DataW.TrodAll enc P W 0 (fun _ => true) true f.params.toList args.toList ds pa)
    (hlt : ∀ x ∈ pa, x.block < W.heap.size) (hk : Below W.heap.size W W') :
    s.post enc P f apart fresh handsOn false W args (.bool true) W' := by
  refine ⟨ds, [], before, [], pa, [], hW, ?_, ?_, ?_, hk.frame _, fun h => by cases h⟩
  · rw [ht, hfn]
    exact trodAll_cons_mk (shut_bool hb _) trodAll_mk0
  · rw [hfn]
    exact trodAll_below hl hk _ _ _ _ hr hA hlt
  · rw [hv, hfn]
    rfl
end
end Go.Proofs.Ytbghjcfepjbppaa
/-
  The book: numbers in memory; may (26).
-/
namespace Go.Proofs.Ytbghjcfepjbppaa.Bk
open Go.RowKit
/-- numbers that can be read -/
def Nums (w : World) (a : Option Addr) (xs : List Int) : Prop := ∀ i (h : i < xs.length), ∃ g o, a = some ⟨g, o, none⟩ ∧ g < w.heap.size ∧ w.cell? ⟨g, o + i, none⟩ = some (.int .i64 xs[i])
theorem Nums.next {w w' : World} {a : Option Addr} {xs : List Int} (h : Nums w a xs) (hb : Below w.heap.size w w') : Nums w' a xs := fun i hi => by
  obtain ⟨g, o, e, hg, c⟩ := h i hi
  exact ⟨g, o, e, Nat.lt_of_lt_of_le hg hb.size, by rw [hb.cell (p := ⟨g, _, none⟩) hg]; exact c⟩
/-- they rise, from behind one on, and none is too great -/
def upB : Int → List Int → Bool
  | _, [] => true
  | z, p :: r => !(decide (p ≤ z) || decide (549755813888 < p)) && upB p r
/-- a match may be -/
def mayB (xs : List Int) : Bool := !(decide (xs.length < 1) || decide (16 < xs.length)) && upB (-1) xs
set_option maxHeartbeats 4000000 in
set_option maxRecDepth 100000 in
theorem may_any {w : World} {a : Option Addr} {xs : List Int} (c : Nat) (h : Nums w a xs) (hl : xs.length ≤ 9223372036854775807) : Calls Try.prog 63 #[.agg #[.slice a xs.length c]] w fun e w' => e = .returned (.bool (mayB xs)) ∧ Below w.heap.size w w' := by
  obtain ⟨W, hW⟩ : ∃ W, W = w.alloc (.cells #[.slice a xs.length c] 70) := ⟨_, rfl⟩
  have bW : Below w.heap.size w W := by rw [hW]; exact (Below.refl _ w).alloc (Nat.le_refl _) _
  have cW : W.cell? ⟨w.heap.size, 0, none⟩ = some (.slice a xs.length c) := by rw [hW, World.cell?_alloc_new]; rfl
  have NW := Lib.hid (h.next bW)
  have BW := Lib.hid bW
  have HW := Lib.hid hW
  have hlI : (xs.length : Int) ≤ 9223372036854775807 := by omega
  clear h hW bW
  obtain ⟨m, hm⟩ : ∃ m, m = mayB xs := ⟨_, rfl⟩
  have HM := Lib.hid hm
  rw [← hm]
  clear hm
  by_cases h1 : xs.length < 1
  · have h1I : (xs.length : Int) < 1 := by omega
    have h1B := decide_eq_true h1I
    have RH : m = false := by rw [HM.out]; unfold mayB; rw [decide_eq_true h1]; rfl
    subst RH
    go_enter Try.func63, Try.ntmps63
    go_wp2_with (rw [← HW.out])
    go_ret
    exact ⟨rfl, BW.out⟩
  have h1I : ¬ (xs.length : Int) < 1 := by omega
  have h1B := decide_eq_false h1I
  by_cases h2 : 16 < xs.length
  · have h2I : 16 < (xs.length : Int) := by omega
    have h2B := decide_eq_true h2I
    have RH : m = false := by rw [HM.out]; unfold mayB; rw [decide_eq_true h2, Bool.or_true]; rfl
    subst RH
    go_enter Try.func63, Try.ntmps63
    go_wp2_with (rw [← HW.out])
    go_ret
    exact ⟨rfl, BW.out⟩
  have h2I : ¬ 16 < (xs.length : Int) := by omega
  have h2B := decide_eq_false h2I
  have MU : Hid (m = upB (-1) xs) := Lib.hid (by rw [HM.out]; unfold mayB; rw [decide_eq_false h1, decide_eq_false h2]; rfl)
  clear HM
  go_enter Try.func63, Try.ntmps63
  go_wp2_with (rw [← HW.out])
  go_loopw [19, 3] (fun i z wq => ∃ (k : Nat) (y : Int), i = .int .i64 k ∧ z = .int .i64 y ∧ k ≤ xs.length ∧ wq = W ∧ Hid (m = upB y (xs.drop k))) (fun i _ _ => xs.length - (intOf i).toNat)
  case atStart => exact ⟨0, -1, rfl, rfl, Nat.zero_le _, rfl, MU⟩
  case round =>
    obtain ⟨k, y, rfl, rfl, hk, rfl, M⟩ := hrel
    by_cases hlt : k < xs.length
    rotate_left
    · have hkI : ¬ (k : Int) < (xs.length : Int) := by omega
      have hkB := decide_eq_false hkI
      have RH : m = true := by rw [M.out, List.drop_eq_nil_of_le (by omega)]; rfl
      subst RH
      go_wp2_with fail
      go_ret
      exact ⟨rfl, BW.out⟩
    have hkI : (k : Int) < (xs.length : Int) := by omega
    have hkB := decide_eq_true hkI
    obtain ⟨g, o, rfl, hg, ck⟩ := NW.out k hlt
    have M2 : m = (!(decide (xs[k] ≤ y) || decide (549755813888 < xs[k])) && upB xs[k] (xs.drop (k + 1))) := by rw [M.out, List.drop_eq_getElem_cons hlt]; rfl
    have HK := Lib.hid (show k + 1 ≤ xs.length by omega)
    clear M
    generalize xs[k] = p at *
    by_cases g1 : p ≤ y
    · have g1B := decide_eq_true g1
      have RH : m = false := by rw [M2, g1B]; rfl
      clear M2
      subst RH
      go_wp2_with fail
      go_ret
      exact ⟨rfl, BW.out⟩
    have g1B := decide_eq_false g1
    by_cases g2 : 549755813888 < p
    · have g2B := decide_eq_true g2
      have RH : m = false := by rw [M2, g2B, Bool.or_true]; rfl
      clear M2
      subst RH
      go_wp2_with fail
      go_ret
      exact ⟨rfl, BW.out⟩
    have g2B := decide_eq_false g2
    have M3 := Lib.hid (show m = upB p (xs.drop (k + 1)) by rw [M2, g1B, g2B]; rfl)
    clear M2
    go_wp2_with fail
    go_roundw
    case rel => exact ⟨k + 1, p, by go_num, rfl, HK.out, by trivial, M3⟩
    case measure => simp [intOf]; omega
end Go.Proofs.Ytbghjcfepjbppaa.Bk
/-
  The book: slices.Clone of numbers (38).
-/
namespace Go.Proofs.Ytbghjcfepjbppaa.Bk
open Go.RowKit
/-- numbers of the call's own -/
def OwnN (w : World) (B : Nat) (v : Value) (xs : List Int) : Prop := w.ownsRow B 3 1 v xs.length (xs.map (Value.int .i64))
theorem OwnN.nums {w : World} {B : Nat} {v : Value} {xs : List Int} (h : OwnN w B v xs) : ∃ a c, v = .slice a xs.length c ∧ Nums w a xs := by
  have h0 := h
  unfold OwnN at h0
  rcases h.2 with ⟨rfl, e⟩ | ⟨g, cap, cur, rfl, hb, hg, _⟩
  · have : xs = [] := List.length_eq_zero_iff.1 e
    subst this
    exact ⟨none, 0, rfl, fun i hi => by simp at hi⟩
  · refine ⟨_, _, rfl, fun p hp => ⟨g, 0, rfl, (Array.getElem?_eq_some_iff.1 hg).1, ?_⟩⟩
    rw [Nat.zero_add, h0.cellAt _ (by omega)]
    simp [hp]
/-- what a copy leaves -/
def Cln (w : World) (L : List Int) (e : Ending) (w' : World) : Prop := ∃ v', e = .returned v' ∧ OwnN w' w.heap.size v' L ∧ Below w.heap.size w w'
theorem info3 : (Try.prog.info? 3).map (fun i => (i.zero, i.size, i.bytes)) = some (some (.int .i64 0), 1, 8) := by kernel_rfl
set_option maxHeartbeats 4000000 in
set_option maxRecDepth 100000 in
theorem clone_any {w : World} {a : Option Addr} {L : List Int} (c : Nat) (h : Nums w a L) (hl : L.length ≤ 1000) : Calls Try.prog 79 #[.slice a L.length c] w (Cln w L) := by
  obtain ⟨i0, hi, hz0, hz1, hz2⟩ : ∃ i, Try.prog.info? 3 = some i ∧ i.zero = some (.int .i64 0) ∧ i.size = 1 ∧ i.bytes = 8 := by
    have h3 := info3
    cases e : Try.prog.info? 3 with
    | none => rw [e] at h3; cases h3
    | some i => rw [e] at h3; simp only [Option.map_some, Option.some.injEq, Prod.mk.injEq] at h3; exact ⟨i, rfl, h3.1, h3.2.1, h3.2.2⟩
  have q29 : ∀ (w : World) (a : Option Addr) (n c n' c' : Nat), (binOp .eql 55 (.slice a n c) (.slice none n' c')).run Try.prog w = .ok (.bool a.isNone) w := fun w a n c n' c' => Lib.run_eql_slice_nil w _ _ a n c n' c' Try.underlying55
  cases a with
  | none =>
    have hL : L = [] := by
      cases L with
      | nil => rfl
      | cons x r => obtain ⟨g, o, e, _⟩ := h 0 (by simp); cases e
    subst hL
    have FIN := Lib.hid (show Cln w [] (.returned (.slice none 0 0)) w from ⟨_, rfl, World.ownsRow_nil _ _ _ _, Below.refl _ _⟩)
    generalize Cln w [] = Q at *
    clear h
    go_enter Try.func79, Try.ntmps79
    go_wp2_with fail
    exact FIN.out
  | some ad =>
    obtain ⟨W1, hW1⟩ : ∃ W1, W1 = w.alloc (.cells #[] 3) := ⟨_, rfl⟩
    have O1 : W1.ownsRow w.heap.size 3 1 (.slice (some ⟨w.heap.size, 0, none⟩) 0 0) 0 [] := by rw [hW1]; exact World.ownsRow_made w #[] 0 (Nat.le_refl _) (Nat.zero_le _) rfl
    have b1 : Below w.heap.size w W1 := by rw [hW1]; exact (Below.refl _ w).alloc (Nat.le_refl _) _
    have G1 := h.next b1
    have N1 : ∀ j u, (L.map (Value.int .i64))[j]? = some u → W1.cell? (ad.add j) = some u := by
      intro j u hj
      rw [List.getElem?_map] at hj
      obtain ⟨x, hx, rfl⟩ := Option.map_eq_some_iff.1 hj
      obtain ⟨hjl, rfl⟩ := List.getElem?_eq_some_iff.1 hx
      obtain ⟨g, o, e, hg, ck⟩ := G1 j hjl
      cases e
      rw [show (⟨g, o, none⟩ : Addr).add j = ⟨g, o + j, none⟩ by unfold Addr.add; split <;> simp_all]
      exact ck
    have FIN : Hid (∀ v' w1, w1.ownsRow w.heap.size 3 1 v' (0 + L.length) ([] ++ L.map (Value.int .i64)) → W1.grownBy w1 (Value.slice (some ⟨w.heap.size, 0, none⟩) 0 0).ownBlock → Cln w L (.returned v') w1) := Lib.hid fun v' w1 ho hg => by
      rw [Nat.zero_add, List.nil_append] at ho
      exact ⟨v', rfl, ho, b1.trans ⟨hg.os, hg.tape, hg.output, hg.size, fun q hq => hg.block q (Nat.lt_of_lt_of_le hq b1.size) (fun e => absurd (show q = w.heap.size by simpa [Value.ownBlock] using e) (Nat.ne_of_lt hq))⟩⟩
    have hz : W1.heap.size = w.heap.size + 1 := by rw [hW1]; simp
    have HN := Lib.hid N1
    have HO := Lib.hid O1
    have HW := Lib.hid hW1
    have HL : Hid ((L.map (Value.int .i64)).length = L.length * 1) := Lib.hid (by simp)
    have H1 : Hid (∀ u ∈ L.map (Value.int .i64), u.oneCell' = true) := Lib.hid (fun u hu => by obtain ⟨x, _, rfl⟩ := List.mem_map.1 hu; rfl)
    have hl2 : (L.length : Int) ≤ 1000 := by omega
    clear h O1 b1 G1 N1 hW1
    generalize L.map (Value.int .i64) = cl at *
    generalize L.length = n at *
    generalize Cln w L = Q at *
    go_enter Try.func79, Try.ntmps79
    go_wp2_with (at_builtin; rw [← HW.out]; refine wpList_append_own _ rfl _ _ 55 rfl w.heap.size 3 i0 _ 1 8 Try.underlying55 hi hz0 hz1 hz2 rfl (by decide) _ 0 [] rfl HO.out ad n c cl rfl HL.out HN.out H1.out (by unfold maxLen; omega) (by omega) (by omega) ?_; intro v' w1 ho hg2 _)
    all_goals exact FIN.out v' w1 ho hg2
end Go.Proofs.Ytbghjcfepjbppaa.Bk
