/-
  FOR THE DOCUMENT's OWN Decode: limited, the tape's End, and what lies in memory.
-/
import Derived.Test.YtgenefamhhncbaaDeci
import Derived.Test.YtgenefamhhncbaaBRefs2
namespace Go.Proofs.Ytgenefamhhncbaa
open Go.RowKit
theorem limited_any (n m : Nat) (hn : n < 18446744073709551616) (hm : m < 9223372036854775808) (w : World) : Calls Try.prog 47 #[.int .u64 (n : Int), .int .u64 (m : Int)] w fun e w' => e = .returned (.int .i64 (lim n m)) ∧ w = w' := by
  have HN := Lib.hid hn
  have HM := Lib.hid hm
  unfold lim
  by_cases h : m < n
  · rw [if_pos h]
    have h' : (m : Int) < (n : Int) := by omega
    clear hn hm
    go_enter Try.func47, Try.ntmps47
    go_wp2_with fail
    go_ret
    exact ⟨rfl, rfl⟩
  · rw [if_neg h]
    have h' : ¬ (m : Int) < (n : Int) := by omega
    have ew : IntKind.i64.wrap (n : Int) = (n : Int) := IntWalk.i64_in _ (by omega)
    clear hn hm
    go_enter Try.func47, Try.ntmps47
    go_wp2_with fail
    go_ret
    exact ⟨rfl, rfl⟩
theorem rend_any (s : ByteArray) (e : Int) (w : World) :
    Calls Try.prog 50 #[.agg #[.string s, .int .i64 e]] w fun r w' => r = .returned (.int .i64 (Bt.endE s e)) ∧ Below w.heap.size w w' := by
  by_cases he : e = 0
  · subst he
    by_cases hs : s.size = 0
    · have e0 : s = ⟨#[]⟩ := by
        apply ByteArray.ext
        exact Array.eq_empty_of_size_eq_zero hs
      subst e0
      go_enter Try.func50, Try.ntmps50
      go_wp2_with fail
      go_ret
      exact ⟨rfl, (Below.refl _ w).alloc (Nat.le_refl _) _⟩
    · have hne : s.toList.isEmpty = false := by
        rw [Lib.toList_data, Bt.head_drop s (by omega)]; rfl
      have hne2 : (!s.toList.isEmpty) = true := by rw [hne]; rfl
      go_enter Try.func50, Try.ntmps50
      go_wp2_with fail
      go_ret
      exact ⟨Bt.ret_i64 (by unfold Bt.endE; rw [if_neg (by simp), if_neg hs]), (Below.refl _ w).alloc (Nat.le_refl _) _⟩
  · have hEb : (e == 0) = false := by simp [he]
    go_enter Try.func50, Try.ntmps50
    go_wp2_with fail
    go_ret
    exact ⟨Bt.ret_i64 (by unfold Bt.endE; rw [if_pos he]), (Below.refl _ w).alloc (Nat.le_refl _) _⟩
def decR (s : ByteArray) : Ev := if okR s = true then ⟨lim (d1 s).1 549755813888, lim (d2 s).1 549755813888, lim (d3 s).1 549755813888, (d4 s).1, (rF s).1⟩ else evNil
theorem decR_same (s : ByteArray) : decR s = decC s := by
  obtain ⟨h1, h2⟩ := ok_alike s
  unfold decR decC
  rw [← h1]
  cases h : okC s
  · rfl
  · obtain ⟨a, b, c, d, _⟩ := h2 h
    rw [if_pos rfl, if_pos rfl, a, b, c, d]
/-- at the head of the loop: Y the answer's block, T the tape's, E the event's -/
structure RecI (w W : World) (Y T E : Nat) (a1 a2 a3 : Int) (k : ByteArray) (L : List Fld) (j : Nat) (u : Value) (s : ByteArray) (e : Int) : Prop where
  y : Blk W Y 32 #[.int .i64 0, .int .i64 0, .int .i64 0, .string ⟨#[]⟩, .slice none 0 0]
  x : Blk W E 32 #[.int .i64 a1, .int .i64 a2, .int .i64 a3, .string k, u]
  t : Blk W T 78 #[.string s, .int .i64 e]
  o : W.ownsRow (E + 1) 62 5 u j (cellsF L)
  b : Below Y w W
theorem RecI.alloc {w W : World} {Y T E : Nat} {a1 a2 a3 : Int} {k : ByteArray} {L : List Fld} {j : Nat} {u : Value} {s : ByteArray} {e : Int} (h : RecI w W Y T E a1 a2 a3 k L j u s e) (o : Obj) : RecI w (W.alloc o) Y T E a1 a2 a3 k L j u s e :=
  have b : Below W.heap.size W (W.alloc o) := (Below.refl _ _).alloc (Nat.le_refl _) o
  ⟨h.y.below b, h.x.below b, h.t.below b, h.o.alloc o, h.b.trans (b.mono (Nat.le_of_lt h.y.lt))⟩
theorem RecI.below {w W W' : World} {Y T E : Nat} {a1 a2 a3 : Int} {k : ByteArray} {L : List Fld} {j : Nat} {u : Value} {s : ByteArray} {e : Int} (h : RecI w W Y T E a1 a2 a3 k L j u s e) (b : Below W.heap.size W W') : RecI w W' Y T E a1 a2 a3 k L j u s e :=
  ⟨h.y.below b, h.x.below b, h.t.below b, World.ownsRow.kept h.o (row := none) ⟨b.os, b.tape, b.output, b.size, fun q hq _ => b.block q hq⟩ (by cases u.ownBlock <;> simp), h.b.trans (b.mono (Nat.le_of_lt h.y.lt))⟩
theorem RecI.tape {w W : World} {Y T E : Nat} {a1 a2 a3 : Int} {k : ByteArray} {L : List Fld} {j : Nat} {u : Value} {s : ByteArray} {e : Int} (h : RecI w W Y T E a1 a2 a3 k L j u s e) (hT : Y < T) (hTE : T < E) (s' : ByteArray) (e' : Int) :
    RecI w ((W.setCell ⟨T, 0, none⟩ (.string s')).setCell ⟨T, 1, none⟩ (.int .i64 e')) Y T E a1 a2 a3 k L j u s' e' :=
  have no : u.ownBlock ≠ some T := fun hq => by have := (World.ownsRow.lt h.o T hq).1; omega
  ⟨(h.y.set_other (by omega) _ _).set_other (by omega) _ _, (h.x.set_other (by omega) _ _).set_other (by omega) _ _, (h.t.set 0 _).set 1 _, ownsRow_setCell_other (ownsRow_setCell_other h.o no _) no _,
    (h.b.setCell (p := ⟨T, 0, none⟩) (by show Y ≤ T; omega) _).setCell (p := ⟨T, 1, none⟩) (by show Y ≤ T; omega) _⟩
theorem RecI.other {w W : World} {Y T E : Nat} {a1 a2 a3 : Int} {k : ByteArray} {L : List Fld} {j : Nat} {u : Value} {s : ByteArray} {e : Int} (h : RecI w W Y T E a1 a2 a3 k L j u s e) {q : Nat} (hY : Y < q) (hT : T ≠ q) (hE : E ≠ q) (hu : u.ownBlock ≠ some q) (i : Nat) (x : Value) :
    RecI w (W.setCell ⟨q, i, none⟩ x) Y T E a1 a2 a3 k L j u s e :=
  ⟨h.y.set_other (by omega) _ _, h.x.set_other hE _ _, h.t.set_other hT _ _, ownsRow_setCell_other h.o hu _, h.b.setCell (p := ⟨q, i, none⟩) (by show Y ≤ q; omega) _⟩
theorem RecI.push {w W w4 : World} {Y T E : Nat} {a1 a2 a3 : Int} {k : ByteArray} {L : List Fld} {j : Nat} {u : Value} {s : ByteArray} {e : Int} {x : Fld} {g cap : Nat} (h : RecI w W Y T E a1 a2 a3 k L j u s e) (hT : Y < T) (hTE : T < E)
    (ho : w4.ownsRow (E + 1) 62 5 (.slice (some ⟨g, 0, none⟩) (j + 1) cap) (j + 1) (cellsF L ++ encF x)) (hg4 : W.grownBy w4 u.ownBlock) :
    RecI w (w4.setCell ⟨E, 4, none⟩ (.slice (some ⟨g, 0, none⟩) (j + 1) cap)) Y T E a1 a2 a3 k (L ++ [x]) (j + 1) (.slice (some ⟨g, 0, none⟩) (j + 1) cap) s e ∧ w4.frozen? ⟨E, 4, none⟩ = false ∧ w4.cell? ⟨E, 4, none⟩ = some u := by
  have nu : ∀ {q : Nat}, q < E + 1 → some q ≠ u.ownBlock := fun hq e => by have := (World.ownsRow.lt h.o _ e.symm).1; omega
  have y4 := blk_kept hg4 (nu (by omega)) h.y
  have x4 := blk_kept hg4 (nu (by omega)) h.x
  have t4 := blk_kept hg4 (nu (by omega)) h.t
  have hgb : E + 1 ≤ g := (World.ownsRow.lt ho g rfl).1
  have hl := h.y.lt
  refine ⟨⟨y4.set_other (by omega) _ _, x4.set 4 _, t4.set_other (by omega) _ _, ?_, ?_⟩, x4.free 4, x4.cell 4⟩
  · rw [cellsF_one]
    exact ownsRow_setCell_other ho (by simp [Value.ownBlock]; omega) _
  · have b4 : Below Y w w4 := h.b.trans ⟨hg4.os, hg4.tape, hg4.output, hg4.size, fun q hq => hg4.block q (by omega) (nu (by omega))⟩
    exact b4.setCell (p := ⟨E, 4, none⟩) (by show Y ≤ E; omega) _
end Go.Proofs.Ytgenefamhhncbaa
