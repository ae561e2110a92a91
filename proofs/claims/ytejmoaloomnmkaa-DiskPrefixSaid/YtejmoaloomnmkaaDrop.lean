/-
  A FILE IS TAKEN AWAY: Drop.
-/
import Derived.Test.YtejmoaloomnmkaaCln
namespace Go.Proofs.Ytejmoaloomnmkaa
open Go.RowKit
/-- what find answers -/
def findE (S : St) (s : Nm) : Int := if S.down then 8 else if nameB s then (match get S.now s with | some _ => 0 | none => 4) else 1
theorem findV_2 (S : St) (V : Nm → Value) (s : Nm) : (findV S V s).2 = findE S s := by
  unfold findV findE
  split
  · rfl
  · split
    · cases get S.now s <;> rfl
    · rfl
theorem drop_nil (f : Nm) (w : World) : Calls Try.prog 34 #[.pointer none, .string f] w fun e w' => e = .returned (.int .i64 1) ∧ w = w' := by
  go_enter Try.func34, Try.ntmps34
  go_wp2_with fail
  refine (find_nil f _).mono ?_
  rintro e w1 ⟨rfl, rfl⟩
  go_wp2_with fail
  first | go_ret | go_ret2
  exact ⟨rfl, rfl⟩
/-- the call is refused -/
theorem drop_no {w : World} {B D m : Nat} {S : St} {L : Lie} (f : Nm) (h : DkL w B D m S L) (hs : f.size ≤ 9223372036854775807) (hE : findE S f ≠ 0) :
    Calls Try.prog 34 #[.pointer (some ⟨D, 0, none⟩), .string f] w fun e w' => e = .returned (.int .i64 (findE S f)) ∧ w = w' := by
  have F := Lib.hid (find_any h f hs)
  rw [findV_2] at F
  clear h
  generalize findE S f = x at *
  generalize (findV S L.V2 f).1 = v at *
  go_enter Try.func34, Try.ntmps34
  go_wp2_with fail
  refine F.out.mono ?_
  rintro e w1 ⟨rfl, rfl⟩
  go_wp2_with fail
  first | go_ret | go_ret2
  exact ⟨rfl, rfl⟩
/-- note, a while later -/
theorem note_after {w w1 : World} {B D m : Nat} {S : St} {L : Lie} (c : Chg) (h : DkL w B D m S L) (hd : S.down = false) (hr : mayAll S.sure (S.row ++ [c])) (hc : c.may S.now) (hm : m + S.row.length < 99990) (ht : S.trip ≤ 9223372036854775807) (hk : S.keep ≤ 9223372036854775807) (b1 : Below w.heap.size w w1) :
    Calls Try.prog 28 #[.pointer (some ⟨D, 0, none⟩), .iface c.ty c.in_] w1 (NoteW w B D m S L c) := (note_any c (h.below b1) hd hr hc hm ht hk).mono fun e w' hn => by
  obtain ⟨S', L', x, he, d, hcn, F, N⟩ := hn
  refine ⟨S', L', x, he, d, hcn, (Fr.of_below b1 (fun _ => False)).trans F (fun _ _ h => h.elim) (fun _ _ h => h), fun q hq => ?_⟩
  rcases N q hq with hh | hh
  · exact .inl hh
  · right; have := b1.size; omega
theorem drop_yes {w : World} {B D m : Nat} {S : St} {L : Lie} (f : Nm) (h : DkL w B D m S L) (hs : f.size ≤ 100000000) (hE : findE S f = 0) (hd : S.down = false) (hr : mayAll S.sure (S.row ++ [.drop f])) (hc : (Chg.drop f).may S.now) (hm : m + S.row.length < 99990) (ht : S.trip ≤ 9223372036854775807) (hk : S.keep ≤ 9223372036854775807) :
    Calls Try.prog 34 #[.pointer (some ⟨D, 0, none⟩), .string f] w (NoteW w B D m S L (.drop f)) := by
  have F := Lib.hid (find_any h f (by omega))
  rw [findV_2, hE] at F
  have NT := Lib.hid (fun w1 (b1 : Below w.heap.size w w1) => note_after (.drop f) h hd hr hc hm ht hk b1)
  have CL := Lib.hid (fun w1 => str_clone f w1 (by omega))
  unfold Chg.ty Chg.in_ at NT
  simp only at NT
  clear h hr hc hE
  generalize (findV S L.V2 f).1 = v at *
  go_enter Try.func34, Try.ntmps34
  go_wp2_with fail
  refine F.out.mono ?_
  rintro e w1 ⟨rfl, rfl⟩
  go_wp2_with fail
  refine (CL.out _).mono ?_
  rintro e w2 ⟨rfl, b2⟩
  have NT2 := Lib.hid (NT.out w2 b2)
  clear b2 NT CL F
  go_wp2_with fail
  refine NT2.out.mono ?_
  rintro e w3 ⟨S', L', x, rfl, hh⟩
  have FIN : Hid (NoteW w B D m S L (.drop f) (.returned (.int .i64 x)) w3) := Lib.hid ⟨S', L', x, rfl, hh⟩
  clear hh NT2
  go_wp2_with fail
  first | go_ret | go_ret2
  exact FIN.out
/-- Trim -/
theorem trim_nil (f : Nm) (n : Int) (w : World) : Calls Try.prog 32 #[.pointer none, .string f, .int .i64 n] w fun e w' => e = .returned (.int .i64 1) ∧ w = w' := by
  go_enter Try.func32, Try.ntmps32
  go_wp2_with fail
  refine (find_nil f _).mono ?_
  rintro e w1 ⟨rfl, rfl⟩
  go_wp2_with fail
  first | go_ret | go_ret2
  exact ⟨rfl, rfl⟩
theorem trim_no {w : World} {B D m : Nat} {S : St} {L : Lie} (f : Nm) (n : Int) (h : DkL w B D m S L) (hs : f.size ≤ 9223372036854775807) (hE : findE S f ≠ 0) :
    Calls Try.prog 32 #[.pointer (some ⟨D, 0, none⟩), .string f, .int .i64 n] w fun e w' => e = .returned (.int .i64 (findE S f)) ∧ w = w' := by
  have F := Lib.hid (find_any h f hs)
  rw [findV_2] at F
  clear h
  generalize findE S f = x at *
  generalize (findV S L.V2 f).1 = v at *
  go_enter Try.func32, Try.ntmps32
  go_wp2_with fail
  refine F.out.mono ?_
  rintro e w1 ⟨rfl, rfl⟩
  go_wp2_with fail
  first | go_ret | go_ret2
  exact ⟨rfl, rfl⟩
theorem findV_1 {w : World} {B D m : Nat} {S : St} {L : Lie} {f : Nm} (h : DkL w B D m S L) (hE : findE S f = 0) : ∃ a c, (findV S L.V2 f).1 = .slice a (gl S.now f).length c := by
  unfold findE at hE
  unfold findV
  by_cases hd : S.down = true
  · rw [if_pos hd] at hE; omega
  · rw [if_neg hd] at hE ⊢
    by_cases hn : nameB f = true
    · rw [if_pos hn] at hE ⊢
      cases hg : get S.now f with
      | none => rw [hg] at hE; simp only at hE; omega
      | some l => exact own_form (h.f2.own f)
    · rw [if_neg hn] at hE; omega
theorem trim_bad {w : World} {B D m : Nat} {S : St} {L : Lie} (f : Nm) (n : Int) (h : DkL w B D m S L) (hs : f.size ≤ 9223372036854775807) (hE : findE S f = 0) (hn : n < 0 ∨ n > (gl S.now f).length) :
    Calls Try.prog 32 #[.pointer (some ⟨D, 0, none⟩), .string f, .int .i64 n] w fun e w' => e = .returned (.int .i64 1) ∧ w = w' := by
  have F := Lib.hid (find_any h f hs)
  rw [findV_2, hE] at F
  obtain ⟨a, cp, hv⟩ := findV_1 h hE
  rw [hv] at F
  clear h hv hE
  generalize (gl S.now f).length = g at *
  by_cases h0 : n < 0
  · go_enter Try.func32, Try.ntmps32
    go_wp2_with fail
    refine F.out.mono ?_
    rintro e w1 ⟨rfl, rfl⟩
    go_wp2_with fail
    first | go_ret | go_ret2
    exact ⟨rfl, rfl⟩
  · have h1 : (g : Int) < n := by omega
    clear hn
    go_enter Try.func32, Try.ntmps32
    go_wp2_with fail
    refine F.out.mono ?_
    rintro e w1 ⟨rfl, rfl⟩
    go_wp2_with fail
    first | go_ret | go_ret2
    exact ⟨rfl, rfl⟩
theorem trim_yes {w : World} {B D m : Nat} {S : St} {L : Lie} (f : Nm) (n : Nat) (h : DkL w B D m S L) (hs : f.size ≤ 100000000) (hE : findE S f = 0) (hn : n ≤ (gl S.now f).length) (hd : S.down = false) (hr : mayAll S.sure (S.row ++ [.trim f n])) (hc : (Chg.trim f n).may S.now) (hm : m + S.row.length < 99990) (ht : S.trip ≤ 9223372036854775807) (hk : S.keep ≤ 9223372036854775807) :
    Calls Try.prog 32 #[.pointer (some ⟨D, 0, none⟩), .string f, .int .i64 n] w (NoteW w B D m S L (.trim f n)) := by
  have F := Lib.hid (find_any h f (by omega))
  rw [findV_2, hE] at F
  obtain ⟨a, cp, hv⟩ := findV_1 h hE
  rw [hv] at F
  have NT := Lib.hid (fun w1 (b1 : Below w.heap.size w w1) => note_after (.trim f n) h hd hr hc hm ht hk b1)
  have CL := Lib.hid (fun w1 => str_clone f w1 (by omega))
  unfold Chg.ty Chg.in_ at NT
  simp only at NT
  clear h hr hc hE hv
  generalize (gl S.now f).length = g at *
  go_enter Try.func32, Try.ntmps32
  go_wp2_with fail
  refine F.out.mono ?_
  rintro e w1 ⟨rfl, rfl⟩
  go_wp2_with fail
  refine (CL.out _).mono ?_
  rintro e w2 ⟨rfl, b2⟩
  have NT2 := Lib.hid (NT.out w2 b2)
  clear b2 NT CL F
  go_wp2_with fail
  refine NT2.out.mono ?_
  rintro e w3 ⟨S', L', x, rfl, hh⟩
  have FIN : Hid (NoteW w B D m S L (.trim f n) (.returned (.int .i64 x)) w3) := Lib.hid ⟨S', L', x, rfl, hh⟩
  clear hh NT2
  go_wp2_with fail
  first | go_ret | go_ret2
  exact FIN.out
end Go.Proofs.Ytejmoaloomnmkaa
