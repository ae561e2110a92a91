/-
  net: Cut.
-/
import Derived.Test.YtkdaifcnlobhkaaNaw
namespace Go.Proofs.Ytkdaifcnlobhkaa
open Go.RowKit
def put1 (C : Int → Int → Bool) (a b : Int) (v : Bool) : Int → Int → Bool := fun f t => if f = a ∧ t = b then v else C f t
/-- who is cut off behind Cut -/
def setC (C : Int → Int → Bool) (a b : Int) (v : Bool) : Int → Int → Bool := fun f t => if f = a ∧ t = b ∨ f = b ∧ t = a then v else C f t
theorem put2_eq (C : Int → Int → Bool) (a b : Int) (v : Bool) : put1 (put1 C a b v) b a v = setC C a b v := by
  funext f t
  unfold put1 setC
  by_cases h1 : f = b ∧ t = a
  · rw [if_pos h1, if_pos (.inr h1)]
  · rw [if_neg h1]
    by_cases h2 : f = a ∧ t = b
    · rw [if_pos h2, if_pos (.inl h2)]
    · rw [if_neg h2, if_neg (fun h => h.elim h2 h1)]
theorem put2_eq' (C : Int → Int → Bool) (a b : Int) (v : Bool) : put1 (put1 C b a v) a b v = setC C a b v := by
  rw [put2_eq]
  funext f t
  unfold setC
  by_cases h : f = a ∧ t = b ∨ f = b ∧ t = a
  · rw [if_pos h, if_pos h.symm]
  · rw [if_neg h, if_neg (fun k => h k.symm)]
theorem NetP.put1 {w0 w : World} {N A M : Nat} {Z : Int} {R : List Ag.It} {C : Int → Int → Bool} {r : Option Nat} {F : Lf} {cs : Array Value} (h : NetP w0 N Z R C A r M F cs w) (a b : Nat) (hb : b < 7) (v : Bool) :
    NetP w0 N Z R (put1 C a b v) A r M F (cs.setIfInBounds (2 + a * 7 + b) (.bool v)) (w.setCell ⟨N, 2 + a * 7 + b, none⟩ (.bool v)) := by
  have f := fr_set w N (2 + a * 7 + b) (.bool v)
  refine ⟨h.k.set _ _, ?_, ?_, ?_, ?_, h.l.fr f (fun e => h.nM e.symm), h.hN, h.hA, h.hM, h.nA, h.nM, h.mA, h.rN, h.rM, h.b.trans (f.below (fun q e => by rw [e]; exact h.hN) h.b.size), h.z⟩
  · rw [Array.getElem?_setIfInBounds, if_neg (by omega)]; exact h.k0
  · rw [Array.getElem?_setIfInBounds, if_neg (by omega)]; exact h.k1
  · intro f' t' hf' ht'
    have hk := h.kc f' t' hf' ht'
    unfold Go.Proofs.Ytkdaifcnlobhkaa.put1
    rw [Array.getElem?_setIfInBounds]
    by_cases e : f' = a ∧ t' = b
    · obtain ⟨rfl, rfl⟩ := e
      rw [if_pos rfl, if_pos (Array.getElem?_eq_some_iff.1 hk).1, if_pos ⟨rfl, rfl⟩]
    · rw [if_neg (by omega), if_neg (by omega)]
      exact hk
  · obtain ⟨v2, l, h1, h2, h3⟩ := h.a
    exact ⟨v2, l, h1, ⟨(f.block A h2.lt (fun e => h.nA e.symm)).trans h2.blk, Fr.own h2.own f (fun q hq e => h.rN (by rw [← h1, hq, e])), h2.small⟩, h3⟩
theorem nnode_yes {n : Int} (h : 0 ≤ n ∧ n < 7) (w : World) : Calls Try.prog 33 #[.int .i64 n] w fun e w' => e = .returned (.bool true) ∧ w = w' := by
  obtain ⟨h1, h2⟩ := h
  go_enter Try.func33, Try.ntmps33
  go_wp2_with fail
  go_ret
  exact ⟨ret_bool (by simp [*]), rfl⟩
set_option maxHeartbeats 4000000 in
set_option maxRecDepth 100000 in
theorem net_cut {w0 w : World} {N : Nat} {Z : Int} {R : List Ag.It} {G : Int → Ask} {C : Int → Int → Bool} (h : NetS w0 N Z R G C w) (a b : Nat) (ha : a < 7) (hb : b < 7) (hne : a ≠ b) (v : Bool) :
    Calls Try.prog 15 #[.pointer (some ⟨N, 0, none⟩), .int .i64 (a : Int), .int .i64 (b : Int), .bool v] w fun e w' => e = .returned (.tuple #[]) ∧ NetS w0 N Z R G (setC C a b v) w' := by
  obtain ⟨A, r, M, F, cs, h, hG⟩ := h.outS
  have c1 := h.cc a b ha hb
  have c2 := h.cc b a hb ha
  have fz := h.k.free
  have F1 := Lib.hid (show NetS w0 N Z R G (setC C a b v) ((w.setCell ⟨N, 2 + a * 7 + b, none⟩ (.bool v)).setCell ⟨N, 2 + b * 7 + a, none⟩ (.bool v)) by
    rw [← put2_eq]; exact ((h.put1 a b hb v).put1 b a ha v).mkS hG)
  have F2 := Lib.hid (show NetS w0 N Z R G (setC C a b v) ((w.setCell ⟨N, 2 + b * 7 + a, none⟩ (.bool v)).setCell ⟨N, 2 + a * 7 + b, none⟩ (.bool v)) by
    rw [← put2_eq']; exact ((h.put1 b a ha v).put1 a b hb v).mkS hG)
  obtain ⟨u1, d1⟩ := cell?_setCell_some (w := w) (p := ⟨N, 2 + a * 7 + b, none⟩) (x := .bool v) c2
  obtain ⟨u2, d2⟩ := cell?_setCell_some (w := w) (p := ⟨N, 2 + b * 7 + a, none⟩) (x := .bool v) c1
  have NA := Lib.hid (nnode_yes (n := (a : Int)) (by omega))
  have NB := Lib.hid (nnode_yes (n := (b : Int)) (by omega))
  have hab : ((a : Int) == (b : Int)) = false := by simp; omega
  have i1 : (0 : Int) ≤ (a : Int) := by omega
  have i2 : (a : Int) < 7 := by omega
  have i3 : (0 : Int) ≤ (b : Int) := by omega
  have i4 : (b : Int) < 7 := by omega
  have g1 := fz (2 + a * 7 + b)
  have g2 := fz (2 + b * 7 + a)
  clear h hG fz
  go_enter Try.func15, Try.ntmps15
  go_wp2_with fail
  refine (NA.out _).mono ?_
  rintro e w1 ⟨rfl, rfl⟩
  go_wp2_with fail
  refine (NB.out _).mono ?_
  rintro e w1 ⟨rfl, rfl⟩
  go_wp2_with fail
  go_region
  all_goals go_end0
  all_goals first | exact ⟨rfl, F1.out.next ((Below.refl _ _).drew)⟩ | exact ⟨rfl, F2.out.next ((Below.refl _ _).drew)⟩
end Go.Proofs.Ytkdaifcnlobhkaa
