/-
  A FILE GETS ANOTHER NAME: Move. BYTES ARE LAID: Put.
-/
import Derived.Test.YtejmoaloomnmkaaDrop
namespace Go.Proofs.Ytejmoaloomnmkaa
open Go.RowKit
theorem move_nil (f t : Nm) (w : World) : Calls Try.prog 33 #[.pointer none, .string f, .string t] w fun e w' => e = .returned (.int .i64 1) ∧ w = w' := by
  go_enter Try.func33, Try.ntmps33
  go_wp2_with fail
  refine (ready_nil _).mono ?_
  rintro e w1 ⟨rfl, rfl⟩
  go_wp2_with fail
  first | go_ret | go_ret2
  exact ⟨rfl, rfl⟩
/-- what Move answers ahead of the row -/
def moveE (S : St) (f t : Nm) : Int := if S.down then 8 else if nameB t then findE S f else 1
theorem move_no {w : World} {B D m : Nat} {S : St} {L : Lie} (f t : Nm) (h : DkL w B D m S L) (hs : f.size ≤ 9223372036854775807) (hs2 : t.size ≤ 9223372036854775807) (hE : moveE S f t ≠ 0) :
    Calls Try.prog 33 #[.pointer (some ⟨D, 0, none⟩), .string f, .string t] w fun e w' => e = .returned (.int .i64 (moveE S f t)) ∧ w = w' := by
  have R := Lib.hid (ready_any h.blk)
  have N := Lib.hid (name_any t w hs2)
  have F := Lib.hid (find_any h f hs)
  rw [findV_2] at F
  unfold readyE at R
  unfold moveE at *
  clear h
  generalize S.down = b at *
  generalize nameB t = nb at *
  generalize findE S f = x at *
  generalize (findV S L.V2 f).1 = v at *
  cases b
  · simp only [Bool.false_eq_true, if_false] at *
    cases nb
    · clear F
      go_enter Try.func33, Try.ntmps33
      go_wp2_with fail
      refine R.out.mono ?_
      rintro e w1 ⟨rfl, rfl⟩
      go_wp2_with fail
      refine N.out.mono ?_
      rintro e w1 ⟨rfl, rfl⟩
      go_wp2_with fail
      first | go_ret | go_ret2
      exact ⟨rfl, rfl⟩
    · simp only [if_true] at *
      go_enter Try.func33, Try.ntmps33
      go_wp2_with fail
      refine R.out.mono ?_
      rintro e w1 ⟨rfl, rfl⟩
      go_wp2_with fail
      refine N.out.mono ?_
      rintro e w1 ⟨rfl, rfl⟩
      go_wp2_with fail
      refine F.out.mono ?_
      rintro e w1 ⟨rfl, rfl⟩
      go_wp2_with fail
      first | go_ret | go_ret2
      exact ⟨rfl, rfl⟩
  · clear N F
    go_enter Try.func33, Try.ntmps33
    go_wp2_with fail
    refine R.out.mono ?_
    rintro e w1 ⟨rfl, rfl⟩
    go_wp2_with fail
    first | go_ret | go_ret2
    exact ⟨rfl, rfl⟩
theorem move_yes {w : World} {B D m : Nat} {S : St} {L : Lie} (f t : Nm) (h : DkL w B D m S L) (hs : f.size ≤ 100000000) (hs2 : t.size ≤ 100000000) (hE : moveE S f t = 0) (hd : S.down = false) (hr : mayAll S.sure (S.row ++ [.move f t])) (hc : (Chg.move f t).may S.now) (hm : m + S.row.length < 99990) (ht : S.trip ≤ 9223372036854775807) (hk : S.keep ≤ 9223372036854775807) :
    Calls Try.prog 33 #[.pointer (some ⟨D, 0, none⟩), .string f, .string t] w (NoteW w B D m S L (.move f t)) := by
  have R := Lib.hid (ready_any h.blk)
  have N := Lib.hid (name_any t w (by omega))
  have F := Lib.hid (find_any h f (by omega))
  rw [findV_2] at F
  unfold readyE at R
  unfold moveE at hE
  rw [hd, if_neg (by decide)] at R hE
  have hnb : nameB t = true := by
    cases hn : nameB t
    · rw [hn, if_neg (by decide)] at hE; omega
    · rfl
  rw [hnb, if_pos rfl] at hE
  rw [hE] at F
  rw [hnb] at N
  have NT := Lib.hid (fun w1 (b1 : Below w.heap.size w w1) => note_after (.move f t) h hd hr hc hm ht hk b1)
  have CL := Lib.hid (fun w1 => str_clone f w1 (by omega))
  have CT := Lib.hid (fun w1 => str_clone t w1 (by omega))
  unfold Chg.ty Chg.in_ at NT
  simp only at NT
  clear h hr hc hE hnb
  generalize (findV S L.V2 f).1 = v at *
  go_enter Try.func33, Try.ntmps33
  go_wp2_with fail
  refine R.out.mono ?_
  rintro e w1 ⟨rfl, rfl⟩
  go_wp2_with fail
  refine N.out.mono ?_
  rintro e w1 ⟨rfl, rfl⟩
  go_wp2_with fail
  refine F.out.mono ?_
  rintro e w1 ⟨rfl, rfl⟩
  clear R N F
  go_wp2_with fail
  refine (CL.out _).mono ?_
  rintro e w2 ⟨rfl, b2⟩
  have B2 := Lib.hid b2
  clear b2
  go_wp2_with fail
  refine (CT.out _).mono ?_
  rintro e w3 ⟨rfl, b3⟩
  have NT2 := Lib.hid (NT.out w3 (B2.out.trans (b3.mono B2.out.size)))
  clear b3 NT CL CT
  go_wp2_with fail
  refine NT2.out.mono ?_
  rintro e w4 ⟨S', L', x, rfl, hh⟩
  have FIN : Hid (NoteW w B D m S L (.move f t) (.returned (.int .i64 x)) w4) := Lib.hid ⟨S', L', x, rfl, hh⟩
  clear hh NT2
  go_wp2_with fail
  first | go_ret | go_ret2
  exact FIN.out
/-- Put -/
theorem put_nil (f s : Nm) (a : Int) (w : World) : Calls Try.prog 9 #[.pointer none, .string f, .int .i64 a, .string s] w fun e w' => e = .returned (.int .i64 1) ∧ w = w' := by
  go_enter Try.func9, Try.ntmps9
  go_wp2_with fail
  refine (ready_nil _).mono ?_
  rintro e w1 ⟨rfl, rfl⟩
  go_wp2_with fail
  first | go_ret | go_ret2
  exact ⟨rfl, rfl⟩
end Go.Proofs.Ytejmoaloomnmkaa
