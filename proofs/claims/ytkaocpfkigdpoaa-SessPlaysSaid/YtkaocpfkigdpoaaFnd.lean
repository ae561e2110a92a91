/-
  find: where a session stands, and whether it is there.
-/
import Derived.Test.YtkaocpfkigdpoaaTab
namespace Go.Proofs.Ytkaocpfkigdpoaa
open Go.RowKit
/-- what find answers -/
def Fnd (w : World) (id : Int) (L : List Sn) (b : Bool) (e : Ending) (w' : World) : Prop :=
  e = .returned (.tuple #[.int .i64 (pos id L), .bool b]) ∧ Below w.heap.size w w'
set_option maxHeartbeats 4000000 in
set_option maxRecDepth 100000 in
theorem find_core {w : World} {t : Nat} {v : Value} {L : List Sn} (id : Int) (h : Tab w t v L) (ok : Okt L) (b : Bool)
    (hb : Hid ((∃ hp : pos id L < L.length, (L[pos id L].1 == id) = b) ∨ (pos id L = L.length ∧ b = false))) :
    Calls Try.prog 27 #[.pointer (some ⟨t, 0, none⟩), .int .i64 id] w (Fnd w id L b) := by
  have hn := ok.n
  have hz := h.blk.lt
  obtain ⟨W0, hW0⟩ : ∃ W0, W0 = (w.alloc (.cells #[.pointer (some ⟨t, 0, none⟩)] 23)).alloc (.cells #[.int .i64 id] 3) := ⟨_, rfl⟩
  have bW : Below w.heap.size w W0 := by rw [hW0]; exact ((Below.refl _ w).alloc (Nat.le_refl _) _).alloc (by simp) _
  have k1 : Blk W0 w.heap.size 23 #[.pointer (some ⟨t, 0, none⟩)] := by
    rw [hW0]; exact (Blk.new w 23 _).next ((Below.refl _ _).alloc (Nat.le_refl _) _)
  have k2 : Blk W0 (w.heap.size + 1) 3 #[.int .i64 id] := by
    have := Blk.new (w.alloc (.cells #[.pointer (some ⟨t, 0, none⟩)] 23)) 3 #[.int .i64 id]
    rw [World.size_alloc] at this
    rw [hW0]; exact this
  have T := h.next bW
  have S := Lib.hid (search_any (w := W0) ok.s T (by omega) (k1.cell 0) (k2.cell 0))
  obtain ⟨a, c, hv, hc1, hc2⟩ := T.own.form
  have A := Lib.hid (fun (k : Nat) (hk : k < L.length) => T.own.at_ hk)
  have x1 : W0.cell? ⟨w.heap.size, 0, none⟩ = some (.pointer (some ⟨t, 0, none⟩)) := k1.cell 0
  have x2 : W0.cell? ⟨w.heap.size + 1, 0, none⟩ = some (.int .i64 id) := k2.cell 0
  have x3 : W0.cell? ⟨t, 0, none⟩ = some v := T.cell
  have x0 : w.cell? ⟨t, 0, none⟩ = some v := h.cell
  have BW := Lib.hid bW
  have HP := Lib.hid (pos_le id L)
  have HW := Lib.hid hW0
  have X1 := Lib.hid x1
  have X2 := Lib.hid x2
  have X3 := Lib.hid x3
  clear h k1 k2 T bW x1 x2 x3 hW0
  unfold Fnd
  subst hv
  rcases hb.out with ⟨hp, hq⟩ | ⟨hp, hq⟩
  · obtain ⟨g, c', hv, -, -, f1, -, -⟩ := A.out _ hp
    injection hv with e1 e2 e3
    subst e1; subst e3
    clear A HP hb
    generalize L[pos id L].1 = y at *
    generalize pos id L = p at *
    generalize L.length = n at *
    have hpI : (p : Int) < (n : Int) := by omega
    go_enter Try.func27, Try.ntmps27
    go_wp2_with (go_at_call 39; rw [← HW.out]; refine S.out.mono ?_; rintro e w' ⟨rfl, nq, rfl⟩)
    have y1 : (W0.drewN nq).cell? ⟨w.heap.size, 0, none⟩ = some (.pointer (some ⟨t, 0, none⟩)) := X1.out
    have y2 : (W0.drewN nq).cell? ⟨w.heap.size + 1, 0, none⟩ = some (.int .i64 id) := X2.out
    have y3 : (W0.drewN nq).cell? ⟨t, 0, none⟩ = some (.slice (some ⟨g, 0, none⟩) n c) := X3.out
    have y4 : (W0.drewN nq).cell? ⟨g, p * 2, none⟩ = some (.int .i64 y) := f1
    have BD := Lib.hid (below_drewN BW.out nq)
    clear f1 BW S HW x0 X1 X2 X3
    generalize W0.drewN nq = W1 at *
    go_quiet (fail)
    go_wp2_with fail
    go_ret2
    exact ⟨rfl, below_drewN BD.out _⟩
  · subst hq
    clear A HP hb
    generalize pos id L = p at *
    generalize L.length = n at *
    subst hp
    go_enter Try.func27, Try.ntmps27
    go_wp2_with (go_at_call 39; rw [← HW.out]; refine S.out.mono ?_; rintro e w' ⟨rfl, nq, rfl⟩)
    have y1 : (W0.drewN nq).cell? ⟨w.heap.size, 0, none⟩ = some (.pointer (some ⟨t, 0, none⟩)) := X1.out
    have y2 : (W0.drewN nq).cell? ⟨w.heap.size + 1, 0, none⟩ = some (.int .i64 id) := X2.out
    have y3 : (W0.drewN nq).cell? ⟨t, 0, none⟩ = some (.slice a p c) := X3.out
    have BD := Lib.hid (below_drewN BW.out nq)
    clear BW S HW x0 X1 X2 X3
    generalize W0.drewN nq = W1 at *
    go_quiet (fail)
    go_wp2_with fail
    go_ret2
    exact ⟨rfl, below_drewN BD.out _⟩
theorem find_yes {w : World} {t : Nat} {v : Value} {L : List Sn} {id : Int} (h : Tab w t v L) (ok : Okt L) (hq : 0 ≤ sq id L) : Calls Try.prog 27 #[.pointer (some ⟨t, 0, none⟩), .int .i64 id] w (Fnd w id L true) := by
  obtain ⟨hp, e, _⟩ := th_yes ok hq
  exact find_core id h ok true (Lib.hid (.inl ⟨hp, by rw [e]; simp⟩))
theorem find_no {w : World} {t : Nat} {v : Value} {L : List Sn} {id : Int} (h : Tab w t v L) (ok : Okt L) (hq : sq id L < 0) : Calls Try.prog 27 #[.pointer (some ⟨t, 0, none⟩), .int .i64 id] w (Fnd w id L false) := by
  have no := th_no ok hq
  by_cases hp : pos id L < L.length
  · exact find_core id h ok false (Lib.hid (.inl ⟨hp, by simpa using no _ hp⟩))
  · have := pos_le id L
    exact find_core id h ok false (Lib.hid (.inr ⟨by omega, rfl⟩))
end Go.Proofs.Ytkaocpfkigdpoaa
