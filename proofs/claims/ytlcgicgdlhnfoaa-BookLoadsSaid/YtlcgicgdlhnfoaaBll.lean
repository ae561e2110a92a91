/-
  BookLoads as a walk.
-/
import Derived.Test.YtlcgicgdlhnfoaaBrh
import Derived.Test.YtlcgicgdlhnfoaaBsm
import Derived.Test.YtlcgicgdlhnfoaaBtx
namespace Go.Proofs.Ytlcgicgdlhnfoaa
open Go.RowKit
theorem mine_same {w0 w : World} {B t : Nat} {base : Int} {LL : List (List Int)} {a : Option Addr} (c : Nat) (h : Mine w0 B t base LL w) (hr : Rws w a LL) :
    Calls Try.prog 20 #[.pointer (some ⟨t, 0, none⟩), .agg #[.int .i64 base, .slice a LL.length c]] w fun e w' => e = .returned (.bool true) ∧ Below w.heap.size w w' := by
  obtain ⟨Bk, hb, ok, sh, hB, hw, hs⟩ := h
  exact same20_yes c hb ok sh hr
theorem mine_text {w0 w : World} {B t : Nat} {base : Int} {LL : List (List Int)} (h : Mine w0 B t base LL w) :
    Calls Try.prog 19 #[.pointer (some ⟨t, 0, none⟩)] w fun e w' => e = .returned (.string (txtS base LL)) ∧ Below w.heap.size w w' := by
  obtain ⟨Bk, hb, ok, sh, hB, hw, hs⟩ := h
  exact text_any hb ok sh rfl
theorem load_no {s : ByteArray} (hs : s.size ≤ 20000) (h : pLoad s = none) (w : World) : Calls Try.prog 18 #[.string s] w fun e w' => e = .returned (.tuple #[.pointer none, .int .i64 3]) ∧ Below w.heap.size w w' :=
  (load_any (s := s) (by omega) w).mono fun e w' hl => by
    rcases hl with ⟨_, he, b⟩ | ⟨base, LL, t, hp, _, _⟩
    · exact ⟨he, b⟩
    · rw [h] at hp; cases hp
def LdY (w : World) (base : Int) (LL : List (List Int)) (e : Ending) (w' : World) : Prop := ∃ t, e = .returned (.tuple #[.pointer (some ⟨t, 0, none⟩), .int .i64 0]) ∧ Mine w w.heap.size t base LL w'
theorem load_yes {s : ByteArray} {base : Int} {LL : List (List Int)} (hs : s.size ≤ 20000) (h : pLoad s = some (base, LL)) (w : World) : Calls Try.prog 18 #[.string s] w (LdY w base LL) :=
  (load_any (s := s) (by omega) w).mono fun e w' hl => by
    rcases hl with ⟨hp, _, _⟩ | ⟨b2, L2, t, hp, he, hm⟩
    · rw [h] at hp; cases hp
    · rw [h] at hp; cases hp; exact ⟨t, he, hm⟩
theorem rload_no {s : ByteArray} (hs : s.size ≤ 20000) (h : pLoad s = none) (w : World) : Calls Try.prog 21 #[.string s] w fun e w' => e = .returned (.tuple #[.agg #[.int .i64 0, .slice none 0 0], .int .i64 3]) ∧ Below w.heap.size w w' :=
  (rload_any (s := s) (by omega) w).mono fun e w' hl => by
    rcases hl with ⟨_, he, b⟩ | ⟨base, LL, a, c, hp, _⟩
    · exact ⟨he, b⟩
    · rw [h] at hp; cases hp
def RlY (w : World) (base : Int) (LL : List (List Int)) (e : Ending) (w' : World) : Prop := ∃ a c, e = .returned (.tuple #[.agg #[.int .i64 base, .slice a LL.length c], .int .i64 0]) ∧ Rws w' a LL ∧ Below w.heap.size w w'
theorem rload_yes {s : ByteArray} {base : Int} {LL : List (List Int)} (hs : s.size ≤ 20000) (h : pLoad s = some (base, LL)) (w : World) : Calls Try.prog 21 #[.string s] w (RlY w base LL) :=
  (rload_any (s := s) (by omega) w).mono fun e w' hl => by
    rcases hl with ⟨hp, _, _⟩ | ⟨b2, L2, a, c, hp, he, hr, b⟩
    · rw [h] at hp; cases hp
    · rw [h] at hp; cases hp; exact ⟨a, c, he, hr, b⟩
set_option maxHeartbeats 4000000 in
set_option maxRecDepth 100000 in
theorem loads_law (s : ByteArray) (w : World) (hs : s.size ≤ 9223372036854775807) : Calls Try.prog 4 #[.string s] w fun e w' => e = .returned (.bool true) ∧ Below w.heap.size w w' := by
  have AW := Lib.hid awake_any
  by_cases h5 : 20000 < s.size
  · have h5I : (20000 : Int) < (s.size : Int) := by omega
    go_enter Try.func4, Try.ntmps4
    go_wp2_with fail
    refine (AW.out _).mono ?_
    rintro e w1 ⟨rfl, b1⟩
    go_wp2_with fail
    go_ret
    exact ⟨rfl, b1⟩
  have h5I : ¬ (20000 : Int) < (s.size : Int) := by omega
  have h5' : s.size ≤ 20000 := by omega
  rcases hp : pLoad s with _ | ⟨base, LL⟩
  · have R1 := Lib.hid (load_no h5' hp)
    have R2 := Lib.hid (rload_no h5' hp)
    clear hp h5'
    go_enter Try.func4, Try.ntmps4
    go_wp2_with fail
    refine (R1.out _).mono ?_
    rintro e w1 ⟨rfl, b1⟩
    have B1 := Lib.hid b1
    clear b1
    go_wp2_with fail
    refine (R2.out _).mono ?_
    rintro e w2 ⟨rfl, b2⟩
    obtain ⟨W2, hW2⟩ : ∃ W2, W2 = w2.alloc (.cells #[.int .i64 0, .slice none 0 0] 27) := ⟨_, rfl⟩
    have B2 := Lib.hid ((B1.out.trans (b2.mono B1.out.size)).trans ((BN1 w2 (.cells #[.int .i64 0, .slice none 0 0] 27)).mono (Nat.le_trans B1.out.size b2.size)))
    rw [← hW2] at B2
    have HW2 := Lib.hid hW2
    clear b2 B1 hW2
    go_wp2_with fail
    rw [← HW2.out]
    refine (AW.out _).mono ?_
    rintro e w3 ⟨rfl, b3⟩
    have B3 := Lib.hid (B2.out.trans (b3.mono B2.out.size))
    clear b3 B2
    go_wp2_with fail
    go_ret
    exact ⟨rfl, B3.out⟩
  · have R1 := Lib.hid (load_yes h5' hp)
    have R2 := Lib.hid (rload_yes h5' hp)
    have TX := Lib.hid (pLoad_get hp)
    clear hp h5'
    go_enter Try.func4, Try.ntmps4
    go_wp2_with fail
    refine (R1.out _).mono ?_
    rintro e w1 ⟨t, rfl, m1⟩
    have B1 := Lib.hid m1.bel
    have M1 := Lib.hid m1
    clear m1
    go_wp2_with fail
    refine (R2.out _).mono ?_
    rintro e w2 ⟨a, c, rfl, r2, b2⟩
    obtain ⟨W2, hW2⟩ : ∃ W2, W2 = w2.alloc (.cells #[.int .i64 base, .slice a LL.length c] 27) := ⟨_, rfl⟩
    have b22 : Below w2.heap.size w2 W2 := by rw [hW2]; exact BN1 _ _
    have k2 : Blk W2 w2.heap.size 27 #[.int .i64 base, .slice a LL.length c] := by rw [hW2]; exact Blk.new _ _ _
    have B2 := Lib.hid ((B1.out.trans (b2.mono B1.out.size)).trans (b22.mono (Nat.le_trans B1.out.size b2.size)))
    have M2 := Lib.hid ((M1.out.next b2).next b22)
    have R3 := Lib.hid (r2.next b22)
    have K2 := Lib.hid k2
    have HW2 := Lib.hid hW2
    clear b2 b22 r2 k2 hW2 B1 M1
    go_wp2_with (rw [← HW2.out])
    refine (AW.out _).mono ?_
    rintro e w3 ⟨rfl, b3⟩
    have B3 := Lib.hid (B2.out.trans (b3.mono B2.out.size))
    have M3 := Lib.hid (M2.out.next b3)
    have R4 := Lib.hid (R3.out.next b3)
    have K3 := Lib.hid (K2.out.next b3)
    have z0 := K3.out.cell 0
    have z1 := K3.out.cell 1
    clear b3 B2 M2 R3 K2
    go_wp2_with fail
    refine (mine_same c M3.out R4.out).mono ?_
    rintro e w4 ⟨rfl, b4⟩
    have B4 := Lib.hid (B3.out.trans (b4.mono B3.out.size))
    have M4 := Lib.hid (M3.out.next b4)
    clear b4 B3 M3 R4 K3 z0 z1
    go_wp2_with fail
    refine (mine_text M4.out).mono ?_
    rw [TX.out]
    rintro e w5 ⟨rfl, b5⟩
    have B5 := Lib.hid (B4.out.trans (b5.mono B4.out.size))
    clear b5 B4 M4
    go_wp2_with fail
    go_ret
    exact ⟨rfl, B5.out⟩
end Go.Proofs.Ytlcgicgdlhnfoaa
