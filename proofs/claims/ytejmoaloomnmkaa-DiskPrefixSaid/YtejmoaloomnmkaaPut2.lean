/-
  BYTES ARE LAID: Put, when there is no room, and when it is done.
-/
import Derived.Test.YtejmoaloomnmkaaPut
namespace Go.Proofs.Ytejmoaloomnmkaa
open Go.RowKit
set_option maxHeartbeats 4000000 in
set_option maxRecDepth 100000 in
theorem put_full {w : World} {B D m : Nat} {S : St} {L : Lie} (f s : Nm) (a : Int) (h : DkL w B D m S L) (hd : S.down = false) (hf : f.size ≤ 100000000) (hb : ¬ putBad S f s a) (hfl : putFull S f s a) :
    Calls Try.prog 9 #[.pointer (some ⟨D, 0, none⟩), .string f, .int .i64 a, .string s] w fun e w' => e = .returned (.int .i64 7) ∧ Below w.heap.size w w' := by
  have R := Lib.hid (ready_any h.blk)
  unfold readyE at R
  rw [hd, if_neg (by decide)] at R
  have N := Lib.hid (name_any f w (by omega))
  have c2 : w.cell? ⟨D, 2, none⟩ = some (.map (some L.M2)) := h.blk.cell 2
  have c3 : w.cell? ⟨D, 3, none⟩ = some (.int .i64 (sz S.now)) := h.blk.cell 3
  have c5 : w.cell? ⟨D, 5, none⟩ = some (.int .i64 S.room) := h.blk.cell 5
  obtain ⟨av, cv, hv⟩ := own_form (h.f2.own f)
  have LK := h.f2.look (s := f) (by unfold maxLen; omega)
  rw [hv] at LK
  unfold putBad at hb
  have hg := gl_small h.g2.small f
  have hz := h.g2.sz_le
  have hlow := h.low
  have hnb : nameB f = true := by
    cases hn : nameB f
    · exact absurd (.inl hn) hb
    · rfl
  have h0 : 0 ≤ a := by
    by_cases h0 : a < 0
    · exact absurd (.inr (.inl h0)) hb
    · omega
  have h1 : a ≤ (gl S.now f).length := by
    by_cases h1 : ((gl S.now f).length : Int) < a
    · exact absurd (.inr (.inr (.inl h1))) hb
    · omega
  have h2 : (s.size : Int) ≤ 4194304 - a := by
    by_cases h2 : 4194304 - a < s.size
    · exact absurd (.inr (.inr (.inr h2))) hb
    · omega
  clear hb
  rw [hnb] at N
  have hw1 : IntKind.i64.wrap (4194304 - a) = 4194304 - a := IntWalk.i64_in _ (by omega)
  have hw2 : IntKind.i64.wrap (a + s.size) = a + s.size := IntWalk.i64_in _ (by omega)
  have hw3 : IntKind.i64.wrap (a + s.size - (gl S.now f).length) = a + s.size - (gl S.now f).length := IntWalk.i64_in _ (by omega)
  have hw4 : IntKind.i64.wrap (sz S.now + (a + s.size - (gl S.now f).length)) = sz S.now + (a + s.size - (gl S.now f).length) := IntWalk.i64_in _ (by omega)
  obtain ⟨hr0, hr1, hr2⟩ := hfl
  clear h hd hv
  generalize (gl S.now f).length = g at *
  generalize S.room = rm at *
  generalize sz S.now = z at *
  have t1 : decide (0 ≤ rm) = true := decide_eq_true hr0
  have t2 : decide (0 < a + (s.size : Int) - g) = true := decide_eq_true hr1
  have t3 : decide (rm < (z : Int) + (a + s.size - g)) = true := decide_eq_true hr2
  have t7 : decide ((g : Int) < a + (s.size : Int)) = true := decide_eq_true (by omega)
  have t4 : decide (a < 0) = false := decide_eq_false (by omega)
  have t5 : decide ((g : Int) < a) = false := decide_eq_false (by omega)
  have t6 : decide (4194304 - a < (s.size : Int)) = false := decide_eq_false (by omega)
  go_enter Try.func9, Try.ntmps9
  go_wp2_with fail
  refine R.out.mono ?_
  rintro e w1 ⟨rfl, rfl⟩
  go_wp2_with fail
  refine N.out.mono ?_
  rintro e w1 ⟨rfl, rfl⟩
  go_wp2_with fail
  go_quiet (fail)
  go_wp2_with fail
  first | go_ret | go_ret2
  exact ⟨rfl, below_drewN (Below.refl _ _) _⟩
set_option maxHeartbeats 4000000 in
set_option maxRecDepth 100000 in
/-- Put, when it is done -/
theorem put_walk {w : World} {B D m : Nat} {S : St} {L : Lie} (f s : Nm) (a : Int) (h : DkL w B D m S L) (hd : S.down = false) (hf : f.size ≤ 100000000) (hb : ¬ putBad S f s a) (hfl : ¬ putFull S f s a) {Post : Int → World → Prop}
    (NT : ∀ w1, Below w.heap.size w w1 → Calls Try.prog 28 #[.pointer (some ⟨D, 0, none⟩), .iface 60 (.agg #[.string f, .int .i64 a, .string s])] w1 (fun e w' => ∃ x, e = .returned (.int .i64 x) ∧ Post x w')) :
    Calls Try.prog 9 #[.pointer (some ⟨D, 0, none⟩), .string f, .int .i64 a, .string s] w (fun e w' => ∃ x, e = .returned (.int .i64 x) ∧ Post x w') := by
  have HNT := Lib.hid NT
  clear NT
  have R := Lib.hid (ready_any h.blk)
  unfold readyE at R
  rw [hd, if_neg (by decide)] at R
  have N := Lib.hid (name_any f w (by omega))
  have c2 : w.cell? ⟨D, 2, none⟩ = some (.map (some L.M2)) := h.blk.cell 2
  have c3 : w.cell? ⟨D, 3, none⟩ = some (.int .i64 (sz S.now)) := h.blk.cell 3
  have c5 : w.cell? ⟨D, 5, none⟩ = some (.int .i64 S.room) := h.blk.cell 5
  obtain ⟨av, cv, hv⟩ := own_form (h.f2.own f)
  have LK := h.f2.look (s := f) (by unfold maxLen; omega)
  rw [hv] at LK
  unfold putBad at hb
  have hg := gl_small h.g2.small f
  have hz := h.g2.sz_le
  have hlow := h.low
  have hnb : nameB f = true := by
    cases hn : nameB f
    · exact absurd (.inl hn) hb
    · rfl
  have h0 : 0 ≤ a := by
    by_cases h0 : a < 0
    · exact absurd (.inr (.inl h0)) hb
    · omega
  have h1 : a ≤ (gl S.now f).length := by
    by_cases h1 : ((gl S.now f).length : Int) < a
    · exact absurd (.inr (.inr (.inl h1))) hb
    · omega
  have h2 : (s.size : Int) ≤ 4194304 - a := by
    by_cases h2 : 4194304 - a < s.size
    · exact absurd (.inr (.inr (.inr h2))) hb
    · omega
  clear hb
  rw [hnb] at N
  have hw1 : IntKind.i64.wrap (4194304 - a) = 4194304 - a := IntWalk.i64_in _ (by omega)
  have hw2 : IntKind.i64.wrap (a + s.size) = a + s.size := IntWalk.i64_in _ (by omega)
  have hw3 : IntKind.i64.wrap (a + s.size - (gl S.now f).length) = a + s.size - (gl S.now f).length := IntWalk.i64_in _ (by omega)
  have hw4 : IntKind.i64.wrap (sz S.now + (a + s.size - (gl S.now f).length)) = sz S.now + (a + s.size - (gl S.now f).length) := IntWalk.i64_in _ (by omega)
  have CL := Lib.hid (fun w1 => str_clone f w1 (by omega))
  have CS := Lib.hid (fun w1 => str_clone s w1 (by omega))
  unfold putFull at hfl
  clear h hd hv
  generalize (gl S.now f).length = g at *
  generalize S.room = rm at *
  generalize sz S.now = z at *
  have t4 : decide (a < 0) = false := decide_eq_false (by omega)
  have t5 : decide ((g : Int) < a) = false := decide_eq_false (by omega)
  have t6 : decide (4194304 - a < (s.size : Int)) = false := decide_eq_false (by omega)
  by_cases hr0 : rm < 0
  · have t1 : decide (0 ≤ rm) = false := decide_eq_false (by omega)
    clear hfl
    go_enter Try.func9, Try.ntmps9
    go_wp2_with fail
    refine R.out.mono ?_
    rintro e w1 ⟨rfl, rfl⟩
    go_wp2_with fail
    refine N.out.mono ?_
    rintro e w1 ⟨rfl, rfl⟩
    go_wp2_with fail
    go_quiet (fail)
    go_wp2_with fail
    refine (CL.out _).mono ?_
    rintro e w2 ⟨rfl, b2⟩
    have B2 := Lib.hid ((below_drewN (Below.refl w.heap.size w) nq).trans b2)
    clear b2
    go_wp2_with fail
    refine (CS.out _).mono ?_
    rintro e w3 ⟨rfl, b3⟩
    have NT2 := Lib.hid (HNT.out w3 (B2.out.trans (b3.mono B2.out.size)))
    clear b3 HNT CL CS
    go_wp2_with fail
    refine NT2.out.mono ?_
    rintro e w4 ⟨x, rfl, hh⟩
    have FIN := Lib.hid hh
    clear hh NT2
    go_wp2_with fail
    first | go_ret | go_ret2
    exact ⟨x, rfl, FIN.out⟩
  · have t1 : decide (0 ≤ rm) = true := decide_eq_true (by omega)
    by_cases hr1 : a + s.size - g ≤ 0
    · have t2 : decide (0 < a + (s.size : Int) - g) = false := decide_eq_false (by omega)
      have t7 : decide ((g : Int) < a + (s.size : Int)) = false := decide_eq_false (by omega)
      clear hfl
      go_enter Try.func9, Try.ntmps9
      go_wp2_with fail
      refine R.out.mono ?_
      rintro e w1 ⟨rfl, rfl⟩
      go_wp2_with fail
      refine N.out.mono ?_
      rintro e w1 ⟨rfl, rfl⟩
      go_wp2_with fail
      go_quiet (fail)
      go_wp2_with fail
      refine (CL.out _).mono ?_
      rintro e w2 ⟨rfl, b2⟩
      have B2 := Lib.hid ((below_drewN (Below.refl w.heap.size w) nq).trans b2)
      clear b2
      go_wp2_with fail
      refine (CS.out _).mono ?_
      rintro e w3 ⟨rfl, b3⟩
      have NT2 := Lib.hid (HNT.out w3 (B2.out.trans (b3.mono B2.out.size)))
      clear b3 HNT CL CS
      go_wp2_with fail
      refine NT2.out.mono ?_
      rintro e w4 ⟨x, rfl, hh⟩
      have FIN := Lib.hid hh
      clear hh NT2
      go_wp2_with fail
      first | go_ret | go_ret2
      exact ⟨x, rfl, FIN.out⟩
    · have hr2 : (z : Int) + (a + s.size - g) ≤ rm := by
        by_cases hx : rm < (z : Int) + (a + s.size - g)
        · exact absurd ⟨by omega, by omega, hx⟩ hfl
        · omega
      have t2 : decide (0 < a + (s.size : Int) - g) = true := decide_eq_true (by omega)
      have t7 : decide ((g : Int) < a + (s.size : Int)) = true := decide_eq_true (by omega)
      have t3 : decide (rm < (z : Int) + (a + s.size - g)) = false := decide_eq_false (by omega)
      clear hfl
      go_enter Try.func9, Try.ntmps9
      go_wp2_with fail
      refine R.out.mono ?_
      rintro e w1 ⟨rfl, rfl⟩
      go_wp2_with fail
      refine N.out.mono ?_
      rintro e w1 ⟨rfl, rfl⟩
      go_wp2_with fail
      go_quiet (fail)
      go_wp2_with fail
      refine (CL.out _).mono ?_
      rintro e w2 ⟨rfl, b2⟩
      have B2 := Lib.hid ((below_drewN (Below.refl w.heap.size w) nq).trans b2)
      clear b2
      go_wp2_with fail
      refine (CS.out _).mono ?_
      rintro e w3 ⟨rfl, b3⟩
      have NT2 := Lib.hid (HNT.out w3 (B2.out.trans (b3.mono B2.out.size)))
      clear b3 HNT CL CS
      go_wp2_with fail
      refine NT2.out.mono ?_
      rintro e w4 ⟨x, rfl, hh⟩
      have FIN := Lib.hid hh
      clear hh NT2
      go_wp2_with fail
      first | go_ret | go_ret2
      exact ⟨x, rfl, FIN.out⟩
theorem put_yes {w : World} {B D m : Nat} {S : St} {L : Lie} (f s : Nm) (a : Nat) (h : DkL w B D m S L) (hd : S.down = false) (hf : f.size ≤ 100000000) (hb : ¬ putBad S f s a) (hfl : ¬ putFull S f s a) (hr : mayAll S.sure (S.row ++ [.put f a s])) (hc : (Chg.put f a s).may S.now) (hm : m + S.row.length < 99990) (ht : S.trip ≤ 9223372036854775807) (hk : S.keep ≤ 9223372036854775807) :
    Calls Try.prog 9 #[.pointer (some ⟨D, 0, none⟩), .string f, .int .i64 a, .string s] w (NoteW w B D m S L (.put f a s)) :=
  (put_walk f s a h hd hf hb hfl (Post := fun x w' => NoteW w B D m S L (.put f a s) (.returned (.int .i64 x)) w') (fun _ b1 => (note_after (.put f a s) h hd hr hc hm ht hk b1).mono fun e w' hn => by
    obtain ⟨S', L', x, rfl, hh⟩ := hn
    exact ⟨x, rfl, S', L', x, rfl, hh⟩)).mono fun e w' hh => by
    obtain ⟨x, rfl, hp⟩ := hh
    exact hp
end Go.Proofs.Ytejmoaloomnmkaa
