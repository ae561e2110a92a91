/-
  BYTES ARE LAID: Put.
-/
import Derived.Test.YtejmoaloomnmkaaMvp
namespace Go.Proofs.Ytejmoaloomnmkaa
open Go.RowKit
/-- what Put answers ahead of the row, when the disk is up -/
def putBad (S : St) (f s : Nm) (a : Int) : Prop := nameB f = false ∨ a < 0 ∨ (gl S.now f).length < a ∨ 4194304 - a < s.size
def putFull (S : St) (f s : Nm) (a : Int) : Prop := 0 ≤ S.room ∧ 0 < a + s.size - (gl S.now f).length ∧ S.room < sz S.now + (a + s.size - (gl S.now f).length)
theorem put_down {w : World} {B D m : Nat} {S : St} {L : Lie} (f s : Nm) (a : Int) (h : DkL w B D m S L) (hd : S.down = true) : Calls Try.prog 9 #[.pointer (some ⟨D, 0, none⟩), .string f, .int .i64 a, .string s] w fun e w' => e = .returned (.int .i64 8) ∧ w = w' := by
  have R := Lib.hid (ready_any h.blk)
  unfold readyE at R
  rw [hd, if_pos rfl] at R
  clear h hd
  go_enter Try.func9, Try.ntmps9
  go_wp2_with fail
  refine R.out.mono ?_
  rintro e w1 ⟨rfl, rfl⟩
  go_wp2_with fail
  first | go_ret | go_ret2
  exact ⟨rfl, rfl⟩
set_option maxHeartbeats 4000000 in
set_option maxRecDepth 100000 in
theorem put_bad {w : World} {B D m : Nat} {S : St} {L : Lie} (f s : Nm) (a : Int) (h : DkL w B D m S L) (hd : S.down = false) (hf : f.size ≤ 9223372036854775807) (ha : -9223372036854775808 ≤ a ∧ a ≤ 9223372036854775807) (hb : putBad S f s a) :
    Calls Try.prog 9 #[.pointer (some ⟨D, 0, none⟩), .string f, .int .i64 a, .string s] w fun e w' => e = .returned (.int .i64 1) ∧ w = w' := by
  have R := Lib.hid (ready_any h.blk)
  unfold readyE at R
  rw [hd, if_neg (by decide)] at R
  have N := Lib.hid (name_any f w (by omega))
  have c2 : w.cell? ⟨D, 2, none⟩ = some (.map (some L.M2)) := h.blk.cell 2
  obtain ⟨av, cv, hv⟩ := own_form (h.f2.own f)
  have LK := h.f2.look (s := f) (by unfold maxLen; omega)
  rw [hv] at LK
  unfold putBad at hb
  have hg := gl_small h.g2.small f
  clear h hd hv
  generalize (gl S.now f).length = g at *
  have key : ∀ (_ : nameB f = false ∨ (nameB f = true ∧ a < 0) ∨ (nameB f = true ∧ 0 ≤ a ∧ (g : Int) < a) ∨ (nameB f = true ∧ 0 ≤ a ∧ a ≤ g ∧ 4194304 - a < s.size)), Calls Try.prog 9 #[.pointer (some ⟨D, 0, none⟩), .string f, .int .i64 a, .string s] w fun e w' => e = .returned (.int .i64 1) ∧ w = w' := by
    clear hb
    generalize nameB f = nb at *
    intro hb
    rcases hb with rfl | ⟨rfl, h1⟩ | ⟨rfl, h0, h1⟩ | ⟨rfl, h0, h2, h1⟩
    · go_enter Try.func9, Try.ntmps9
      go_wp2_with fail
      refine R.out.mono ?_
      rintro e w1 ⟨rfl, rfl⟩
      go_wp2_with fail
      refine N.out.mono ?_
      rintro e w1 ⟨rfl, rfl⟩
      go_wp2_with fail
      first | go_ret | go_ret2
      exact ⟨rfl, rfl⟩
    · go_enter Try.func9, Try.ntmps9
      go_wp2_with fail
      refine R.out.mono ?_
      rintro e w1 ⟨rfl, rfl⟩
      go_wp2_with fail
      refine N.out.mono ?_
      rintro e w1 ⟨rfl, rfl⟩
      go_wp2_with fail
      first | go_ret | go_ret2
      exact ⟨rfl, rfl⟩
    · go_enter Try.func9, Try.ntmps9
      go_wp2_with fail
      refine R.out.mono ?_
      rintro e w1 ⟨rfl, rfl⟩
      go_wp2_with fail
      refine N.out.mono ?_
      rintro e w1 ⟨rfl, rfl⟩
      go_wp2_with fail
      first | go_ret | go_ret2
      exact ⟨rfl, rfl⟩
    · have hwr : IntKind.i64.wrap (4194304 - a) = 4194304 - a := IntWalk.i64_in _ (by omega)
      go_enter Try.func9, Try.ntmps9
      go_wp2_with fail
      refine R.out.mono ?_
      rintro e w1 ⟨rfl, rfl⟩
      go_wp2_with fail
      refine N.out.mono ?_
      rintro e w1 ⟨rfl, rfl⟩
      go_wp2_with fail
      first | go_ret | go_ret2
      exact ⟨rfl, rfl⟩
  refine key ?_
  rcases hb with h1 | h1 | h1 | h1 <;> cases hn : nameB f <;> first | exact .inl rfl | skip
  · rw [hn] at h1; cases h1
  · exact .inr (.inl ⟨rfl, h1⟩)
  · exact .inr (.inr (.inl ⟨rfl, by omega, h1⟩))
  · by_cases h0 : a < 0
    · exact .inr (.inl ⟨rfl, h0⟩)
    · by_cases h2 : (g : Int) < a
      · exact .inr (.inr (.inl ⟨rfl, by omega, h2⟩))
      · exact .inr (.inr (.inr ⟨rfl, by omega, by omega, h1⟩))
end Go.Proofs.Ytejmoaloomnmkaa
