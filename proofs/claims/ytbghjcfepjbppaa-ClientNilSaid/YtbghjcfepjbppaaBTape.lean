/-
  A TAPE IN MEMORY, AND THE WALKS OF At, Rest, Err, End.
-/
import Derived.Test.YtbghjcfepjbppaaBText
import Derived.WalkSmall
namespace Go.Proofs.Ytbghjcfepjbppaa.Bt
open Go.RowKit
/-- the tape in block b: what is left, and the error -/
def TapeAt (w : World) (b : Nat) (s : ByteArray) (e : Int) : Prop := w.heap[b]? = some (.cells #[.string s, .int .i64 e] 157 (0, 0))
theorem TapeAt.lt {w : World} {b : Nat} {s : ByteArray} {e : Int} (h : TapeAt w b s e) : b < w.heap.size := by
  unfold TapeAt at h
  rcases Nat.lt_or_ge b w.heap.size with h' | h'
  · exact h'
  · rw [Array.getElem?_eq_none h'] at h; simp at h
theorem TapeAt.c0 {w : World} {b : Nat} {s : ByteArray} {e : Int} (h : TapeAt w b s e) : w.cell? ⟨b, 0, none⟩ = some (.string s) := by
  unfold TapeAt at h; simp [World.cell?, h]
theorem TapeAt.c1 {w : World} {b : Nat} {s : ByteArray} {e : Int} (h : TapeAt w b s e) : w.cell? ⟨b, 1, none⟩ = some (.int .i64 e) := by
  unfold TapeAt at h; simp [World.cell?, h]
theorem TapeAt.f {w : World} {b : Nat} {s : ByteArray} {e : Int} (h : TapeAt w b s e) (o : Nat) : w.frozen? ⟨b, o, none⟩ = false := by
  unfold TapeAt at h; simp [World.frozen?, h]
theorem TapeAt.below {w w' : World} {b B : Nat} {s : ByteArray} {e : Int} (h : TapeAt w b s e) (hb : Below B w w') (hB : b < B) : TapeAt w' b s e := by
  unfold TapeAt at *; rw [hb.block b hB]; exact h
theorem TapeAt.next {w w' : World} {b : Nat} {s : ByteArray} {e : Int} (h : TapeAt w b s e) (hb : Below w.heap.size w w') : TapeAt w' b s e := h.below hb h.lt
theorem TapeAt.set0 {w : World} {b : Nat} {s s' : ByteArray} {e : Int} (h : TapeAt w b s e) : TapeAt (w.setCell ⟨b, 0, none⟩ (.string s')) b s' e := by
  unfold TapeAt at *
  simp [World.setCell, Array.getElem?_modify, h]
theorem TapeAt.set1 {w : World} {b : Nat} {s : ByteArray} {e e' : Int} (h : TapeAt w b s e) : TapeAt (w.setCell ⟨b, 1, none⟩ (.int .i64 e')) b s e' := by
  unfold TapeAt at *
  simp [World.setCell, Array.getElem?_modify, h]
theorem grownBy_below {w w' : World} (h : Below w.heap.size w w') (r : Option Nat) : w.grownBy w' r := ⟨h.os, h.tape, h.output, h.size, fun k hk _ => h.block k hk⟩
theorem grownBy_set {w w' : World} (h : Below w.heap.size w w') (b o : Nat) (v : Value) : w.grownBy (w'.setCell ⟨b, o, none⟩ v) (some b) :=
  ⟨h.os, h.tape, h.output, by rw [World.size_setCell]; exact h.size, fun k hk hne => by rw [Below.heap_setCell _ _ _ _ (fun e => hne (by rw [e]))]; exact h.block k hk⟩
theorem err_any {w : World} {b : Nat} {s : ByteArray} {e : Int} (h : TapeAt w b s e) :
    Calls Try.prog 84 #[.pointer (some ⟨b, 0, none⟩)] w fun r w' => r = .returned (.int .i64 e) ∧ w = w' := by
  have h1 := h.c1
  go_enter Try.func84, Try.ntmps84
  go_wp2_with fail
  go_ret
  exact ⟨rfl, rfl⟩
theorem err_nil (w : World) : Calls Try.prog 84 #[.pointer none] w fun r w' => r = .returned (.int .i64 1) ∧ w = w' := by
  go_enter Try.func84, Try.ntmps84
  go_wp2_with fail
  go_ret
  exact ⟨rfl, rfl⟩
theorem end_nil (w : World) : Calls Try.prog 62 #[.pointer none] w fun r w' => r = .returned (.int .i64 1) ∧ w = w' := by
  go_enter Try.func62, Try.ntmps62
  go_wp2_with fail
  refine (err_nil _).mono ?_
  rintro e w1 ⟨rfl, rfl⟩
  go_wp2_with fail
  go_ret
  exact ⟨rfl, rfl⟩
/-- the error behind the end -/
def endE (s : ByteArray) (e : Int) : Int := if e ≠ 0 then e else if s.size = 0 then 0 else 3
theorem end_any {w : World} {b : Nat} {s : ByteArray} {e : Int} (h : TapeAt w b s e) :
    Calls Try.prog 62 #[.pointer (some ⟨b, 0, none⟩)] w fun r w' => r = .returned (.int .i64 (endE s e)) ∧ w = w' := by
  have h0 := h.c0
  by_cases he : e = 0
  · subst he
    by_cases hs : s.size = 0
    · have e0 : s = ⟨#[]⟩ := by
        apply ByteArray.ext
        exact Array.eq_empty_of_size_eq_zero hs
      subst e0
      go_enter Try.func62, Try.ntmps62
      go_wp2_with fail
      refine (err_any h).mono ?_
      rintro r w1 ⟨rfl, rfl⟩
      go_wp2_with fail
      go_ret
      exact ⟨rfl, rfl⟩
    · have hne : s.toList.isEmpty = false := by
        rw [Lib.toList_data, head_drop s (by omega)]; rfl
      have hne2 : (!s.toList.isEmpty) = true := by rw [hne]; rfl
      go_enter Try.func62, Try.ntmps62
      go_wp2_with fail
      refine (err_any h).mono ?_
      rintro r w1 ⟨rfl, rfl⟩
      go_wp2_with fail
      go_ret
      exact ⟨ret_i64 (by unfold endE; rw [if_neg (by simp), if_neg hs]), rfl⟩
  · have hEb : (e != 0) = true := by simp [he]
    go_enter Try.func62, Try.ntmps62
    go_wp2_with fail
    refine (err_any h).mono ?_
    rintro r w1 ⟨rfl, rfl⟩
    go_wp2_with fail
    go_ret
    exact ⟨ret_i64 (by unfold endE; rw [if_pos he]), rfl⟩
theorem at_any (s : ByteArray) (w : World) (hs : s.size ≤ 281474976710656) :
    Calls Try.prog 59 #[.string s] w fun r w' => ∃ b, r = .returned (.pointer (some ⟨b, 0, none⟩)) ∧ w.heap.size ≤ b ∧ TapeAt w' b s 0 ∧ Below w.heap.size w w' := by
  go_enter Try.func59, Try.ntmps59
  go_wp2_with fail
  refine (clone_any _ _ hs).mono ?_
  rintro r w1 ⟨rfl, hb⟩
  go_wp2_with fail
  go_ret
  refine ⟨w1.heap.size, rfl, hb.size, ?_, hb.alloc hb.size _⟩
  unfold TapeAt
  exact heap_alloc_new _ _
end Go.Proofs.Ytbghjcfepjbppaa.Bt
