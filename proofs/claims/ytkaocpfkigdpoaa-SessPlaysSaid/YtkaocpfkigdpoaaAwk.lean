/-
  The page's example; the law of nil as a walk.
-/
import Derived.Test.YtkaocpfkigdpoaaTxt
namespace Go.Proofs.Ytkaocpfkigdpoaa
open Go.RowKit
theorem Tch.bel {w w' : World} {B t : Nat} {v : Value} {L L' : List Sn} (h : Tab w t v L) (c : Tch w t v L' w') (hB : B ≤ t) : Below B w w' := by
  obtain ⟨v', _, f, _⟩ := c
  refine f.below (fun q hq => ?_) (by have := h.blk.lt; omega)
  rcases hq with rfl | hq
  · exact hB
  · have := own_ne h.own q hq
    omega
/-- a table of the call's own, behind B -/
def Mine (w0 w : World) (B t : Nat) (L : List Sn) : Prop := (∃ v, Tab w t v L) ∧ Okt L ∧ B ≤ t ∧ Below B w0 w
theorem Mine.res {w0 w w' : World} {B t : Nat} {v : Value} {L L' : List Sn} (hT : Tab w t v L) (hB : B ≤ t) (hb : Below B w0 w) (c : Tch w t v L' w') (ok : Okt L') : Mine w0 w' B t L' := by
  have b := c.bel hT hB
  obtain ⟨v', T', _, _⟩ := c
  exact ⟨⟨v', T'⟩, ok, hB, hb.trans b⟩
theorem mine_new (w0 w : World) (B : Nat) (hb : Below B w0 w) (hB : B ≤ w.heap.size) : Calls Try.prog 9 #[] w fun e w' => e = .returned (.pointer (some ⟨w.heap.size, 0, none⟩)) ∧ Mine w0 w' B w.heap.size [] := by
  refine (new_any w).mono ?_
  rintro e w' ⟨rfl, T, b⟩
  exact ⟨rfl, ⟨_, T⟩, okt_nil, hB, hb.trans (b.mono hB)⟩
theorem Mine.open {w0 w : World} {B t : Nat} {L : List Sn} (h : Mine w0 w B t L) (id : Int) : Calls Try.prog 12 #[.pointer (some ⟨t, 0, none⟩), .int .i64 id] w fun e w' => e = .returned (.int .i64 (opT id L).2) ∧ Mine w0 w' B t (opT id L).1 := by
  obtain ⟨⟨v, T⟩, ok, hB, hb⟩ := h
  exact (open_any id T ok).mono fun e w' ⟨he, c⟩ => ⟨he, Mine.res T hB hb c (ok_op ok)⟩
theorem Mine.close {w0 w : World} {B t : Nat} {L : List Sn} (h : Mine w0 w B t L) (id : Int) : Calls Try.prog 17 #[.pointer (some ⟨t, 0, none⟩), .int .i64 id] w fun e w' => e = .returned (.int .i64 (clT id L).2) ∧ Mine w0 w' B t (clT id L).1 := by
  obtain ⟨⟨v, T⟩, ok, hB, hb⟩ := h
  exact (close_any id T ok).mono fun e w' ⟨he, c⟩ => ⟨he, Mine.res T hB hb c (ok_cl ok)⟩
theorem Mine.take {w0 w : World} {B t : Nat} {L : List Sn} (h : Mine w0 w B t L) (id s : Int) : Calls Try.prog 14 #[.pointer (some ⟨t, 0, none⟩), .int .i64 id, .int .i64 s] w fun e w' => e = .returned (.tuple #[.bool (mayT id s L).1, .int .i64 (mayT id s L).2]) ∧ Mine w0 w' B t (tkT id s L) := by
  obtain ⟨⟨v, T⟩, ok, hB, hb⟩ := h
  exact (take_any id s T ok).mono fun e w' ⟨he, c⟩ => ⟨he, Mine.res T hB hb c (ok_tk ok)⟩
theorem Mine.next {w0 w w' : World} {B t : Nat} {L : List Sn} (h : Mine w0 w B t L) (b : Below w.heap.size w w') : Mine w0 w' B t L := by
  obtain ⟨⟨v, T⟩, ok, hB, hb⟩ := h
  have := T.blk.lt
  exact ⟨⟨v, T.next b⟩, ok, hB, hb.trans (b.mono (by omega))⟩
theorem Mine.text {w0 w : World} {B t : Nat} {L : List Sn} (h : Mine w0 w B t L) : Calls Try.prog 19 #[.pointer (some ⟨t, 0, none⟩)] w fun e w' => e = .returned (.string (txtS L)) ∧ Mine w0 w' B t L := by
  have h0 := h
  obtain ⟨⟨v, T⟩, ok, hB, hb⟩ := h
  exact (text_any T ok).mono fun e w' ⟨he, b⟩ => ⟨he, h0.next b⟩
theorem Mine.all {w0 w : World} {B t : Nat} {L : List Sn} (h : Mine w0 w B t L) : Calls Try.prog 22 #[.pointer (some ⟨t, 0, none⟩)] w fun e w' => ∃ v', e = .returned v' ∧ Own w' w.heap.size v' L ∧ Mine w0 w' B t L := by
  have h0 := h
  obtain ⟨⟨v, T⟩, ok, hB, hb⟩ := h
  have := ok.n
  exact (all_any T (by omega)).mono fun e w' ⟨v', he, o, b⟩ => ⟨v', he, o, h0.next b⟩
theorem aw_txt : txtS [(5, 1)] = ⟨#[1, 5, 1]⟩ := by decide +kernel
theorem aw_nil : txtS [] = ⟨#[0]⟩ := by decide +kernel
set_option maxHeartbeats 2000000 in
set_option maxRecDepth 100000 in
theorem awake_any (w : World) : Calls Try.prog 10 #[] w fun e w' => e = .returned (.bool true) ∧ Below w.heap.size w w' := by
  have e1 : opT 5 [] = ([(5, 0)], 0) := by decide
  have e2 : mayT 5 1 [(5, 0)] = (true, 0) := by decide
  have e3 : tkT 5 1 [(5, 0)] = [(5, 1)] := by decide
  have e4 : mayT 5 1 [(5, 1)] = (false, 0) := by decide
  have e5 : tkT 5 1 [(5, 1)] = [(5, 1)] := by decide
  have e6 : mayT 5 3 [(5, 1)] = (false, 170) := by decide
  have e7 : tkT 5 3 [(5, 1)] = [(5, 1)] := by decide
  have e8 : mayT 6 1 [(5, 1)] = (false, 4) := by decide
  have e9 : tkT 6 1 [(5, 1)] = [(5, 1)] := by decide
  have N := Lib.hid (mine_new w w w.heap.size (Below.refl _ w) (Nat.le_refl _))
  have A1 := Lib.hid (fun W (h : Mine w W w.heap.size w.heap.size []) => h.open 5)
  have A2 := Lib.hid (fun W (h : Mine w W w.heap.size w.heap.size [(5, 0)]) => h.take 5 1)
  have A3 := Lib.hid (fun W (h : Mine w W w.heap.size w.heap.size [(5, 1)]) => h.take 5 1)
  have A4 := Lib.hid (fun W (h : Mine w W w.heap.size w.heap.size [(5, 1)]) => h.take 5 3)
  have A5 := Lib.hid (fun W (h : Mine w W w.heap.size w.heap.size [(5, 1)]) => h.take 6 1)
  have A6 := Lib.hid (fun W (h : Mine w W w.heap.size w.heap.size [(5, 1)]) => h.text)
  rw [e1] at A1
  rw [e2, e3] at A2
  rw [e4, e5] at A3
  rw [e6, e7] at A4
  rw [e8, e9] at A5
  rw [aw_txt] at A6
  clear e1 e2 e3 e4 e5 e6 e7 e8 e9
  have FIN := Lib.hid (fun W (h : Mine w W w.heap.size w.heap.size [(5, 1)]) => h.2.2.2)
  generalize w.heap.size = t at *
  generalize hM : Mine w = M at *
  clear hM
  go_enter Try.func10, Try.ntmps10
  go_wp2_with fail
  refine N.out.mono ?_
  rintro e w1 ⟨rfl, m1⟩
  go_wp2_with fail
  refine (A1.out _ m1).mono ?_
  rintro e w2 ⟨rfl, m2⟩
  go_wp2_with fail
  refine (A2.out _ m2).mono ?_
  rintro e w3 ⟨rfl, m3⟩
  go_wp2_with fail
  refine (A3.out _ m3).mono ?_
  rintro e w4 ⟨rfl, m4⟩
  go_wp2_with fail
  refine (A4.out _ m4).mono ?_
  rintro e w5 ⟨rfl, m5⟩
  go_wp2_with fail
  refine (A5.out _ m5).mono ?_
  rintro e w6 ⟨rfl, m6⟩
  go_wp2_with fail
  refine (A6.out _ m6).mono ?_
  rintro e w7 ⟨rfl, m7⟩
  go_wp2_with fail
  go_ret
  exact ⟨rfl, FIN.out _ m7⟩
set_option maxHeartbeats 2000000 in
set_option maxRecDepth 100000 in
theorem nil_law (id s : Int) (w : World) : Calls Try.prog 7 #[.int .i64 id, .int .i64 s] w fun e w' => e = .returned (.bool true) ∧ Below w.heap.size w w' := by
  have T := Lib.hid text_nil
  rw [aw_nil] at T
  go_enter Try.func7, Try.ntmps7
  go_wp2_with fail
  refine (take_nil _ _ _).mono ?_
  rintro e w1 ⟨rfl, rfl⟩
  go_wp2_with fail
  refine (may_nil _ _ _).mono ?_
  rintro e w1 ⟨rfl, rfl⟩
  go_wp2_with fail
  refine (awake_any _).mono ?_
  rintro e w1 ⟨rfl, b1⟩
  go_wp2_with fail
  refine (open_nil _ _).mono ?_
  rintro e w2 ⟨rfl, rfl⟩
  go_wp2_with fail
  refine (close_nil _ _).mono ?_
  rintro e w2 ⟨rfl, rfl⟩
  go_wp2_with fail
  refine (all_nil _).mono ?_
  rintro e w2 ⟨rfl, rfl⟩
  go_wp2_with fail
  refine (T.out _).mono ?_
  rintro e w2 ⟨rfl, b2⟩
  go_wp2_with fail
  go_ret
  exact ⟨rfl, b1.trans (b2.mono b1.size)⟩
end Go.Proofs.Ytkaocpfkigdpoaa
