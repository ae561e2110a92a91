/-
  A DISK: Read, Used, Waits, Trip.
-/
import Derived.Test.YtejmoaloomnmkaaSmall
import Derived.Laws.IdiomStrings
import Derived.Laws.BytesArg
namespace Go.Proofs.Ytejmoaloomnmkaa
open Go.RowKit
def str (l : List UInt8) : ByteArray := ⟨l.toArray⟩
theorem bl_str (l : List UInt8) : bl (str l) = l := by simp [bl, str]
theorem str_bl (s : ByteArray) : str (bl s) = s := by simp [bl, str]
theorem conv_own {w : World} {B : Nat} {v : Value} {l : List UInt8} (h : w.ownsRow B 5 1 v l.length (bcells l)) : (convert 55 9 v).run Try.prog w = .ok (.string (str l)) w := by
  rcases h.2 with ⟨rfl, e⟩ | ⟨g, cap, cur, rfl, hB, hg, _⟩
  · have e0 := List.eq_nil_of_length_eq_zero e
    subst e0
    exact run_convert_bytes_nil (P := Try.prog) w 55 5 Try.underlying55 Try.underlying5 0 0 9 Try.underlying9
  · refine run_convert_bytes_back (P := Try.prog) w 55 9 5 ⟨g, 0, none⟩ cap l Try.underlying55 Try.underlying5 Try.underlying9 (fun j hj => ?_)
    have e1 : (⟨g, 0, none⟩ : Addr).add j = ⟨g, j, none⟩ := by unfold Addr.add; split <;> simp_all
    have := World.ownsRow.cellAt h j (by omega)
    rw [e1, this]
    unfold bcells
    rw [List.getElem?_map, List.getElem?_eq_getElem hj]
    rfl
/-- what Read tells -/
def readV (S : St) (s : Nm) : ByteArray × Int :=
  if S.down then (str [], 8) else if nameB s then (match get S.now s with | some l => (str l, 0) | none => (str [], 4)) else (str [], 1)
theorem findV_own {w : World} {B D m : Nat} {S : St} {L : Lie} (h : DkL w B D m S L) (s : Nm) : ∃ l, w.ownsRow B 5 1 (findV S L.V2 s).1 l.length (bcells l) ∧ (readV S s).1 = str l ∧ (readV S s).2 = (findV S L.V2 s).2 := by
  unfold findV readV
  cases S.down
  · simp only [Bool.false_eq_true, if_false]
    cases nameB s
    · exact ⟨[], World.ownsRow_nil _ _ _ _, rfl, rfl⟩
    · cases hg : get S.now s with
      | none => exact ⟨[], World.ownsRow_nil _ _ _ _, rfl, rfl⟩
      | some l =>
        have := h.f2.own s
        have e : gl S.now s = l := by unfold gl; rw [hg]; rfl
        rw [e] at this
        exact ⟨l, this, rfl, rfl⟩
  · exact ⟨[], World.ownsRow_nil _ _ _ _, rfl, rfl⟩
theorem read_any {w : World} {B D m : Nat} {S : St} {L : Lie} (h : DkL w B D m S L) (s : Nm) (hs : s.size ≤ 9223372036854775807) :
    Calls Try.prog 15 #[.pointer (some ⟨D, 0, none⟩), .string s] w fun e w' => e = .returned (.tuple #[.string (readV S s).1, .int .i64 (readV S s).2]) ∧ w = w' := by
  have F := Lib.hid (find_any h s hs)
  obtain ⟨l, ho, e1, e2⟩ := findV_own h s
  have C := conv_own ho
  rw [e1, e2]
  clear h e1 e2 ho
  generalize findV S L.V2 s = p at *
  obtain ⟨v, e⟩ := p
  simp only at C F
  go_enter Try.func15, Try.ntmps15
  go_wp2_with fail
  refine F.out.mono ?_
  rintro r w1 ⟨rfl, rfl⟩
  go_wp2_with fail
  go_ret2
  exact ⟨rfl, rfl⟩
theorem read_nil (s : Nm) (w : World) : Calls Try.prog 15 #[.pointer none, .string s] w fun e w' => e = .returned (.tuple #[.string (str []), .int .i64 1]) ∧ w = w' := by
  have C := run_convert_bytes_nil (P := Try.prog) w 55 5 Try.underlying55 Try.underlying5 0 0 9 Try.underlying9
  have C2 : (convert 55 9 nilS).run Try.prog w = .ok (.string (str [])) w := C
  have F := Lib.hid (find_nil s w)
  clear C
  generalize nilS = v at *
  go_enter Try.func15, Try.ntmps15
  go_wp2_with fail
  refine F.out.mono ?_
  rintro r w1 ⟨rfl, rfl⟩
  go_wp2_with fail
  go_ret2
  exact ⟨rfl, rfl⟩
theorem used_any {w : World} {B D m : Nat} {S : St} {L : Lie} (h : DkL w B D m S L) : Calls Try.prog 21 #[.pointer (some ⟨D, 0, none⟩)] w fun e w' => e = .returned (.int .i64 (if S.down then 0 else (sz S.now : Int))) ∧ w = w' := by
  have R := Lib.hid (ready_any h.blk)
  have c : w.cell? ⟨D, 3, none⟩ = some (.int .i64 (sz S.now)) := h.blk.cell 3
  unfold readyE at R
  clear h
  generalize S.down = b at *
  cases b
  · simp only [Bool.false_eq_true, if_false] at R ⊢
    go_enter Try.func21, Try.ntmps21
    go_wp2_with fail
    refine R.out.mono ?_
    rintro e w1 ⟨rfl, rfl⟩
    go_wp2_with fail
    go_ret
    exact ⟨rfl, rfl⟩
  · simp only [if_true] at R ⊢
    go_enter Try.func21, Try.ntmps21
    go_wp2_with fail
    refine R.out.mono ?_
    rintro e w1 ⟨rfl, rfl⟩
    go_wp2_with fail
    go_ret
    exact ⟨rfl, rfl⟩
theorem used_nil (w : World) : Calls Try.prog 21 #[.pointer none] w fun e w' => e = .returned (.int .i64 0) ∧ w = w' := by
  go_enter Try.func21, Try.ntmps21
  go_wp2_with fail
  refine (ready_nil _).mono ?_
  rintro e w1 ⟨rfl, rfl⟩
  go_wp2_with fail
  go_ret
  exact ⟨rfl, rfl⟩
theorem row_form {w : World} {B : Nat} {v : Value} {n : Nat} {xs : List Value} (h : w.ownsRow B 62 1 v n xs) : ∃ a c, v = .slice a n c := by
  rcases h.2 with ⟨rfl, e⟩ | ⟨g, cap, cur, rfl, _⟩
  · exact ⟨none, 0, by rw [e]⟩
  · exact ⟨_, _, rfl⟩
theorem waits_any {w : World} {B D m : Nat} {S : St} {L : Lie} (h : DkL w B D m S L) : Calls Try.prog 23 #[.pointer (some ⟨D, 0, none⟩)] w fun e w' => e = .returned (.int .i64 (if S.down then 0 else (S.row.length : Int))) ∧ w = w' := by
  have R := Lib.hid (ready_any h.blk)
  have c : w.cell? ⟨D, 4, none⟩ = some L.v := h.blk.cell 4
  obtain ⟨a, cp, hv⟩ := row_form h.row
  rw [hv] at c
  unfold readyE at R
  clear h hv
  generalize S.down = b at *
  generalize S.row.length = n at *
  cases b
  · simp only [Bool.false_eq_true, if_false] at R ⊢
    go_enter Try.func23, Try.ntmps23
    go_wp2_with fail
    refine R.out.mono ?_
    rintro e w1 ⟨rfl, rfl⟩
    go_wp2_with fail
    go_ret
    exact ⟨rfl, rfl⟩
  · simp only [if_true] at R ⊢
    go_enter Try.func23, Try.ntmps23
    go_wp2_with fail
    refine R.out.mono ?_
    rintro e w1 ⟨rfl, rfl⟩
    go_wp2_with fail
    go_ret
    exact ⟨rfl, rfl⟩
theorem waits_nil (w : World) : Calls Try.prog 23 #[.pointer none] w fun e w' => e = .returned (.int .i64 0) ∧ w = w' := by
  go_enter Try.func23, Try.ntmps23
  go_wp2_with fail
  refine (ready_nil _).mono ?_
  rintro e w1 ⟨rfl, rfl⟩
  go_wp2_with fail
  go_ret
  exact ⟨rfl, rfl⟩
end Go.Proofs.Ytejmoaloomnmkaa
