/-
  Read: the document's.
-/
import Derived.Test.YtkaocpfkigdpoaaRed2
import Derived.Test.YtkaocpfkigdpoaaSme
namespace Go.Proofs.Ytkaocpfkigdpoaa
open Go.RowKit
theorem rn_any (t : Tp) (hs : t.1.size ≤ 281474976710656) (w : World) : Calls Try.prog 37 #[.agg #[.string t.1, .int .i64 t.2]] w fun r w' => r = .returned (.tuple #[.agg #[.string (pn t).2.1, .int .i64 (pn t).2.2], .int .u64 ((pn t).1 : Int)]) ∧ Below w.heap.size w w' := Bt.rnumT_any t.1 t.2 hs w
set_option maxHeartbeats 2000000 in
theorem rend_any (s : ByteArray) (e : Int) (w : World) : Calls Try.prog 38 #[.agg #[.string s, .int .i64 e]] w fun r w' => r = .returned (.int .i64 (Bt.endE s e)) ∧ Below w.heap.size w w' := by
  have bA := Lib.hid ((Below.refl w.heap.size w).alloc (Nat.le_refl _) (.cells #[.string s, .int .i64 e] 73))
  have K := Blk.new w 73 #[.string s, .int .i64 e]
  have c0 : (w.alloc (.cells #[.string s, .int .i64 e] 73)).cell? ⟨w.heap.size, 0, none⟩ = some (.string s) := K.cell 0
  have c1 : (w.alloc (.cells #[.string s, .int .i64 e] 73)).cell? ⟨w.heap.size, 1, none⟩ = some (.int .i64 e) := K.cell 1
  clear K
  by_cases he : e = 0
  · subst he
    by_cases hs : s.size = 0
    · have e0 : s = ⟨#[]⟩ := ByteArray.ext (Array.eq_empty_of_size_eq_zero hs)
      subst e0
      go_enter Try.func38, Try.ntmps38
      go_wp2_with fail
      go_ret
      exact ⟨rfl, bA.out⟩
    · have R : Bt.endE s 0 = 3 := by unfold Bt.endE; rw [if_neg (by simp), if_neg hs]
      have hne : s.toList.isEmpty = false := by
        rw [Lib.toList_data, Bt.head_drop s (by omega)]; rfl
      have hne2 : (!s.toList.isEmpty) = true := by rw [hne]; rfl
      rw [R]
      go_enter Try.func38, Try.ntmps38
      go_wp2_with fail
      go_ret
      exact ⟨rfl, bA.out⟩
  · have R : Bt.endE s e = e := by unfold Bt.endE; rw [if_pos he]
    have h1 : (e == 0) = false := by simpa using he
    rw [R]
    go_enter Try.func38, Try.ntmps38
    go_wp2_with fail
    go_ret
    exact ⟨rfl, bA.out⟩
/-- what the document's Read answers -/
def Rdr (w : World) (o : Option (List Sn)) (e : Ending) (w' : World) : Prop :=
  match o with
  | none => e = .returned (.tuple #[.agg #[.slice none 0 0], .int .i64 3]) ∧ Below w.heap.size w w'
  | some L => ∃ v, e = .returned (.tuple #[.agg #[v], .int .i64 0]) ∧ OwnR w' w.heap.size v L ∧ Below w.heap.size w w'
/-- the walk's blocks: the result, the tape, the table -/
structure Ds (w0 w : World) (b4 b6 : Nat) (t : Tp) (v : Value) (L : List Sn) : Prop where
  k2 : Blk w w0.heap.size 27 #[.slice none 0 0]
  k4 : Blk w b4 73 #[.string t.1, .int .i64 t.2]
  k6 : Blk w b6 27 #[v]
  own : OwnR w (b6 + 1) v L
  h4 : w0.heap.size < b4
  h6 : b4 < b6
  bel : Below w0.heap.size w0 w
theorem Ds.next {w0 w w' : World} {b4 b6 : Nat} {t : Tp} {v : Value} {L : List Sn} (h : Ds w0 w b4 b6 t v L) (hb : Below w.heap.size w w') : Ds w0 w' b4 b6 t v L :=
  ⟨h.k2.next hb, h.k4.next hb, h.k6.next hb, h.own.next hb, h.h4, h.h6, h.bel.trans (hb.mono h.bel.size)⟩
theorem ownr_ne {w : World} {B : Nat} {v : Value} {L : List Sn} (h : OwnR w B v L) : ∀ q, v.ownBlock = some q → B ≤ q ∧ q < w.heap.size := fun q hq => World.ownsRow.lt h q hq
theorem Ds.tape {w0 w : World} {b4 b6 : Nat} {t : Tp} {v : Value} {L : List Sn} (h : Ds w0 w b4 b6 t v L) (u : Tp) : Ds w0 ((w.setCell ⟨b4, 0, none⟩ (.string u.1)).setCell ⟨b4, 1, none⟩ (.int .i64 u.2)) b4 b6 u v L := by
  have f := (fr_set w b4 0 (.string u.1)).on (fr_set _ b4 1 (.int .i64 u.2))
  have := h.h4
  have := h.h6
  refine ⟨h.k2.fr f (by omega), (h.k4.set 0 _).set 1 _, h.k6.fr f (by omega), Fr.own h.own f (fun q hq e => by have := (ownr_ne h.own q hq).1; omega), h.h4, h.h6, h.bel.trans (f.below (fun q e => by omega) h.bel.size)⟩
theorem Ds.push {w0 w w1 : World} {b4 b6 : Nat} {t : Tp} {v v' : Value} {L : List Sn} {x : Sn} (h : Ds w0 w b4 b6 t v L) (ho : w1.ownsRow (b6 + 1) 58 2 v' (L.length + 1) (cells L ++ enc x)) (hg : w.grownBy w1 v.ownBlock) :
    Ds w0 (w1.setCell ⟨b6, 0, none⟩ v') b4 b6 t v' (L ++ [x]) := by
  have f1 : Fr w w1 (fun q => v.ownBlock = some q) := (Fr.of_grown hg).mono (fun q _ e => e.symm)
  have n : ∀ q, q ≤ b6 → ¬ (v.ownBlock = some q) := fun q hq e => by have := (ownr_ne h.own q e).1; omega
  have h4 := h.h4
  have h6 := h.h6
  have O1 : OwnR w1 (b6 + 1) v' (L ++ [x]) := by
    unfold OwnR
    rw [List.length_append, cells_append, show cells [x] = enc x from by unfold cells; simp]
    exact ho
  have f2 := fr_set w1 b6 0 v'
  refine ⟨(h.k2.fr f1 (n _ (by omega))).fr f2 (by omega), (h.k4.fr f1 (n _ (by omega))).fr f2 (by omega), ((h.k6.fr f1 (n _ (by omega))).set 0 v'), Fr.own O1 f2 (fun q hq e => by have := (ownr_ne O1 q hq).1; omega), h4, h6, ?_⟩
  refine h.bel.trans ((f1.below (B := w0.heap.size) (fun q hq => by have := (ownr_ne h.own q hq).1; omega) h.bel.size).trans (f2.below (fun q hq => by omega) (Nat.le_trans h.bel.size f1.size)))
theorem OwnR.form {w : World} {B : Nat} {v : Value} {L : List Sn} (h : OwnR w B v L) : ∃ a c, v = .slice a L.length c := by
  rcases h.2 with ⟨rfl, e⟩ | ⟨g, cap, cur, rfl, _⟩
  · exact ⟨none, 0, by rw [e]⟩
  · exact ⟨_, _, rfl⟩
theorem OwnR.le {w : World} {B C : Nat} {v : Value} {L : List Sn} (h : OwnR w B v L) (hC : C ≤ B) : OwnR w C v L := by
  refine ⟨h.1, ?_⟩
  rcases h.2 with h | ⟨g, cap, cur, e, hb, r⟩
  · exact .inl h
  · exact .inr ⟨g, cap, cur, e, Nat.le_trans hC hb, r⟩
theorem OwnR.at_ {w : World} {B : Nat} {v : Value} {L : List Sn} (h : OwnR w B v L) {k : Nat} (hk : k < L.length) : ∃ g c, v = .slice (some ⟨g, 0, none⟩) L.length c ∧ w.cell? ⟨g, k * 2, none⟩ = some (.int .i64 L[k].1) := by
  have h0 := h
  unfold OwnR at h0
  rcases h.2 with ⟨rfl, e⟩ | ⟨g, cap, cur, rfl, hb, hg, _⟩
  · omega
  · exact ⟨g, cap, rfl, by rw [h0.cellAt _ (by omega), (cells_get hk).1]⟩
end Go.Proofs.Ytkaocpfkigdpoaa
