/-
  THE DOCUMENT'S OWN TAPE: its calls.
-/
import Derived.Test.YtlcgicgdlhnfoaaBRef
import Derived.Test.YtlcgicgdlhnfoaaBMeths
namespace Go.Proofs.Ytlcgicgdlhnfoaa.Bt
open Go.RowKit Go.Sort
/-- a tape of the document, and what it answers -/
def tp (s : ByteArray) (e : Int) : Value := .agg #[.string s, .int .i64 e]
def rv {α : Type} (x : α × ByteArray × Int) (v : Value) : Value := .tuple #[.agg #[.string x.2.1, .int .i64 x.2.2], v]
theorem extract_all (s : ByteArray) : s.extract 0 s.size = s := bytes_ext (by rw [Lib.extract_data, List.drop_zero, Nat.sub_zero, List.take_of_length_le (by rw [← Lib.size_eq]; exact Nat.le_refl _)])
/-- a tape of the document in memory -/
def BoxAt (w : World) (b : Nat) (s : ByteArray) (e : Int) : Prop := w.heap[b]? = some (.cells #[.string s, .int .i64 e] 75 (0, 0))
section
variable {w w' : World} {b : Nat} {s s' : ByteArray} {e e' : Int}
theorem BoxAt.lt (h : BoxAt w b s e) : b < w.heap.size := (Array.getElem?_eq_some_iff.1 h).1
theorem BoxAt.c0 (h : BoxAt w b s e) : w.cell? ⟨b, 0, none⟩ = some (.string s) := by unfold BoxAt at h; simp [World.cell?, h]
theorem BoxAt.c1 (h : BoxAt w b s e) : w.cell? ⟨b, 1, none⟩ = some (.int .i64 e) := by unfold BoxAt at h; simp [World.cell?, h]
theorem BoxAt.f (h : BoxAt w b s e) (o : Nat) : w.frozen? ⟨b, o, none⟩ = false := by unfold BoxAt at h; simp [World.frozen?, h]
theorem BoxAt.next (h : BoxAt w b s e) (hb : Below w.heap.size w w') : BoxAt w' b s e := by
  have := h.lt
  unfold BoxAt at *
  rw [hb.block b this]; exact h
theorem BoxAt.set (h : BoxAt w b s e) : BoxAt ((w.setCell ⟨b, 0, none⟩ (.string s')).setCell ⟨b, 1, none⟩ (.int .i64 e')) b s' e' := by
  unfold BoxAt at *; simp [World.setCell, Array.getElem?_modify, h]
theorem BoxAt.alloc (h : BoxAt w b s e) (o : Obj) : BoxAt (w.alloc o) b s e := h.next ((Below.refl _ _).alloc (Nat.le_refl _) o)
theorem box_new (w : World) (s : ByteArray) (e : Int) : BoxAt (w.alloc (.cells #[.string s, .int .i64 e] 75)) w.heap.size s e := by
  unfold BoxAt; simp [World.alloc, -World.alloc_eq]
theorem box_new1 (w : World) (o : Obj) (s : ByteArray) (e : Int) : BoxAt ((w.alloc o).alloc (.cells #[.string s, .int .i64 e] 75)) (w.heap.size + 1) s e := by
  have h := box_new (w.alloc o) s e
  have hz : (w.alloc o).heap.size = w.heap.size + 1 := by simp [World.alloc, -World.alloc_eq]
  rwa [hz] at h
end
theorem end_box {w W : World} {b : Nat} {s0 : ByteArray} {e0 : Int} (hB : BoxAt W b s0 e0) (hb : Below w.heap.size w W) (hge : w.heap.size ≤ b) (s' : ByteArray) (e' : Int) :
    ∃ w2, w2 = (W.setCell ⟨b, 0, none⟩ (.string s')).setCell ⟨b, 1, none⟩ (.int .i64 e') ∧ w2.cell? ⟨b, 0, none⟩ = some (.string s') ∧ w2.cell? ⟨b, 1, none⟩ = some (.int .i64 e') ∧ Below w.heap.size w w2 :=
  ⟨_, rfl, hB.set.c0, hB.set.c1, (hb.setCell (p := ⟨b, 0, none⟩) hge (.string s')).setCell (p := ⟨b, 1, none⟩) hge (.int .i64 e')⟩
theorem rnumT_any (s : ByteArray) (e : Int) (hs : s.size ≤ 281474976710656) (w : World) :
    Calls Try.prog 35 #[.agg #[.string s, .int .i64 e]] w fun r w' => r = .returned (rv (tNum s e) (vNum (tNum s e))) ∧ Below w.heap.size w w' := by
  by_cases he : e = 0
  · subst he
    have HA := Lib.hid (ahead_any s hs)
    have hf := rdNum_facts s.data.toList
    rw [← Lib.size_eq] at hf
    unfold tNum
    rcases hR : rdNum s.data.toList with ⟨N, K, E⟩
    rw [hR] at HA hf
    simp only at hf
    have hk := hf.2.1
    unfold aheadV at HA
    go_enter Try.func35, Try.ntmps35
    go_wp2_with fail
    refine (HA.out _).mono ?_
    rintro r w1 ⟨rfl, b1⟩
    have B1 := ((box_new w s 0).alloc (.cells #[.string ⟨#[]⟩, .int .i64 0] 75)).next b1
    have B2 := (box_new1 w (.cells #[.string s, .int .i64 0] 75) ⟨#[]⟩ 0).next b1
    have x0 := B1.c0
    have x1 := B1.c1
    have y0 := B2.c0
    have y1 := B2.c1
    have yf0 := B2.f 0
    have yf1 := B2.f 1
    have bb : Below w.heap.size w w1 := (((Below.refl _ w).alloc (Nat.le_refl _) _).alloc (by simp) _).trans (b1.mono (by simp; omega))
    clear b1
    go_wp2_with fail
    obtain ⟨w2, hw2, z0, z1, b3⟩ := end_box B2 bb (by omega) (s.extract K s.size) E
    rw [← hw2]
    refine bodyPost_ret (by simp [results, Try.results35, go_sem, z0, z1]; try rfl) rfl ?_
    refine ⟨?_, b3⟩
    rcases hf.2.2 with rfl | ⟨rfl, rfl, rfl⟩ | ⟨rfl, rfl, rfl⟩
    · rw [tk_ok]; rfl
    · rw [tk_bad _ _ _ _ (by decide), extract_all]; rfl
    · rw [tk_bad _ _ _ _ (by decide), extract_all]; rfl
  · have heb : (e != 0) = true := by simp [he]
    have ht := Lib.hid (tk_stays 0 s (rdNum s.data.toList) he)
    go_enter Try.func35, Try.ntmps35
    go_wp2_with fail
    go_returns
    unfold tNum
    rw [ht.out]
    exact ⟨rfl, ((Below.refl _ w).alloc (Nat.le_refl _) _).alloc (by simp) _⟩
theorem tInt_of (s : ByteArray) (e : Int) : tInt s e = (unz (tNum s e).1, (tNum s e).2) := by
  unfold tInt tNum tk rdInt
  split
  · simp [unz]
  · dsimp only
    split
    · simp [unz]
    · rfl
theorem tNum_lt (s : ByteArray) (e : Int) : (tNum s e).1 < 18446744073709551616 := by
  have hf := (rdNum_facts s.data.toList).1
  unfold tNum tk
  split
  · exact (by decide : (0 : Nat) < 18446744073709551616)
  · split
    · exact (by decide : (0 : Nat) < 18446744073709551616)
    · exact hf
end Go.Proofs.Ytlcgicgdlhnfoaa.Bt
