/-
  THE METHODS OF A ROW BEHIND A POINTER, as the heap calls them: which function is entered, with what.
-/
import Derived.Test.YtkdaifcnlobhkaaAMem
namespace Go.Proofs.Ytkdaifcnlobhkaa.Ag
open Go.RowKit
theorem wrap_some {P : Program} (ts : Array TypeId) (t : TypeId) (a : Addr) (s m : String) (w : World) : (Builtin.ssaWrapNilChk_ ts t #[.pointer (some a), strVal s, strVal m]).run P w = .ok (.pointer (some a)) w := rfl
theorem meth_deref {P : Program} {t elem : TypeId} {f : FuncId} {name : String} {sig : TypeId} (fuel : Nat) (a : Addr) (v : Value) (w : World)
    (hm : (P.info? t).bind (fun I => I.methods.find? (·.name == name)) = some ⟨name, sig, #[], some (f, false)⟩) (hu : P.underlying t = some (.pointer elem))
    (hg : ∀ w, (isAgg elem).run P w = .ok false w) (hc : w.cell? a = some v) : (method (fuel + 1) t (.pointer (some a)) name).run P w = .ok (f, v) w := by
  obtain ⟨I, hI, hM⟩ := Option.bind_eq_some_iff.1 hm
  simp [method, typeInfo, hI, hM, follow, Place.get, receiverAt, run_underlying hu, wrap_some, asAddr, loadVar, hg, hc, go_sem]
theorem agg54 : ∀ w, (isAgg 90).run Try.prog w = .ok false w := fun _ => by kernel_rfl
theorem meth_len (A : Nat) (v : Value) (w : World) (h : w.cell? ⟨A, 0, none⟩ = some v) : (method 273 103 (.pointer (some ⟨A, 0, none⟩)) "Len").run Try.prog w = .ok (103, v) w :=
  meth_deref (sig := 40) 272 _ v w (by kernel_rfl) Try.underlying103 agg54 h
theorem meth_less (A : Nat) (v : Value) (w : World) (h : w.cell? ⟨A, 0, none⟩ = some v) : (method 273 103 (.pointer (some ⟨A, 0, none⟩)) "Less").run Try.prog w = .ok (104, v) w :=
  meth_deref (sig := 94) 272 _ v w (by kernel_rfl) Try.underlying103 agg54 h
theorem meth_swap (A : Nat) (v : Value) (w : World) (h : w.cell? ⟨A, 0, none⟩ = some v) : (method 273 103 (.pointer (some ⟨A, 0, none⟩)) "Swap").run Try.prog w = .ok (105, v) w :=
  meth_deref (sig := 125) 272 _ v w (by kernel_rfl) Try.underlying103 agg54 h
/-- an agenda's row behind a pointer: block A holds the slice, block g the items, N of them -/
structure HA (w : World) (B A g cap N : Nat) (Z : Int) (l : List It) : Prop where
  blk : w.heap[A]? = some (.cells #[.slice (some ⟨g, 0, none⟩) N cap, .int .i64 Z] 92 (0, 0))
  row : RowG w B g cap l
  ne : A ≠ g
  small : N ≤ 4097
  len : l.length = N
theorem HA.cell {w : World} {B A g cap N : Nat} {Z : Int} {l : List It} (h : HA w B A g cap N Z l) : w.cell? ⟨A, 0, none⟩ = some (.slice (some ⟨g, 0, none⟩) N cap) := by
  rw [cell_of_row w A 0 _ 92 (0, 0) h.blk]; rfl
theorem HA.lt {w : World} {B A g cap N : Nat} {Z : Int} {l : List It} (h : HA w B A g cap N Z l) : A < w.heap.size ∧ g < w.heap.size ∧ B ≤ g :=
  ⟨World.block_lt_of_cell? _ _ h.cell, (h.row.lt g rfl).2, (h.row.lt g rfl).1⟩
theorem HA.grown {w w' : World} {B A g cap N : Nat} {Z : Int} {l l' : List It} (h : HA w B A g cap N Z l) (hg : w.grownBy w' (some g)) (hr : RowG w' B g cap l') (hl : l'.length = l.length) : HA w' B A g cap N Z l' :=
  ⟨(hg.block A h.lt.1 (by simpa using h.ne)).trans h.blk, hr, h.ne, h.small, hl.trans h.len⟩
theorem grown_refl (w : World) (row : Option Nat) : w.grownBy w row := ⟨rfl, rfl, rfl, Nat.le_refl _, fun _ _ _ => rfl⟩
theorem grown_below {w w' : World} (h : Below w.heap.size w w') (row : Option Nat) : w.grownBy w' row := ⟨h.os, h.tape, h.output, h.size, fun k hk _ => h.block k hk⟩
theorem HA.below {w w' : World} {B A g cap N : Nat} {Z : Int} {l : List It} (h : HA w B A g cap N Z l) (hb : Below w.heap.size w w') : HA w' B A g cap N Z l :=
  h.grown (grown_below hb _) (World.ownsRow.kept h.row (grown_below hb none) (.inr (by simp [Value.ownBlock]))) rfl
/-- Less, as the heap calls it -/
theorem less_i {w : World} {B A g cap N : Nat} {Z : Int} {l : List It} (h : HA w B A g cap N Z l) {x y : Int} (i j : Nat) (hx : x = i) (hy : y = j) (hi : i < N) (hj : j < N) (b : Bool) (hb : decide ((at_ l i).lt (at_ l j)) = b) :
    Calls Try.prog 104 #[.slice (some ⟨g, 0, none⟩) N cap, .int .i64 x, .int .i64 y] w fun e w' => e = .returned (.bool b) ∧ Below w.heap.size w w' := by
  subst hx; subst hy; subst hb
  obtain rfl := h.len
  exact less_any B g cap l i j hi hj (by have := h.small; omega) w h.row
theorem swap_i {w : World} {B A g cap N : Nat} {Z : Int} {l : List It} (h : HA w B A g cap N Z l) {x y : Int} (i j : Nat) (hx : x = i) (hy : y = j) (hi : i < N) (hj : j < N) :
    Calls Try.prog 105 #[.slice (some ⟨g, 0, none⟩) N cap, .int .i64 x, .int .i64 y] w fun e w' => e = .returned (.tuple #[]) ∧ HA w' B A g cap N Z (swp l i j) ∧ w.grownBy w' (some g) := by
  subst hx; subst hy
  obtain rfl := h.len
  refine (swap_any B g cap l i j hi hj (by have := h.small; omega) w h.row).mono ?_
  rintro e w' ⟨rfl, hr, hg⟩
  exact ⟨rfl, h.grown hg hr (swp_len _ _ _), hg⟩
/-- what a mending leaves -/
def Mended (w : World) (B A g cap N : Nat) (Z : Int) (l : List It) (n : Nat) (e : Ending) (w' : World) : Prop :=
  ∃ l' : List It, e = .returned (.tuple #[]) ∧ l'.Perm l ∧ HeapOn l' n ∧ (∀ k, n ≤ k → at_ l' k = at_ l k) ∧ HA w' B A g cap N Z l' ∧ w.grownBy w' (some g)
set_option maxHeartbeats 1000000 in
set_option maxRecDepth 100000 in
theorem up_any (B A g cap N : Nat) (Z : Int) (l : List It) (n j : Nat) (w : World) (h : HA w B A g cap N Z l) (hu : UpInv l n j) :
    Calls Try.prog 62 #[.iface 103 (.pointer (some ⟨A, 0, none⟩)), .int .i64 j] w (Mended w B A g cap N Z l n) := by
  have hsm := h.small
  have u1 : j < n := hu.1
  have u2 : n ≤ N := by have := h.len; have := hu.2.1; omega
  have HU := Lib.hid hu
  clear hu
  go_enter Try.func62, Try.ntmps62
  go_wp2_with fail
  go_loopw [1] (fun x wr => ∃ (k : Nat) (l' : List It), x = .int .i64 k ∧ k < n ∧ HA wr B A g cap N Z l' ∧ UpInv l' n k ∧ l'.Perm l ∧ (∀ k, n ≤ k → at_ l' k = at_ l k) ∧ w.grownBy wr (some g)) (fun x _ => (intOf x).toNat)
  case atStart => exact ⟨j, l, rfl, u1, h, HU.out, List.Perm.refl _, fun _ _ => rfl, grown_refl _ _⟩
  case round =>
    obtain ⟨k, l', rfl, hk, hA, hI, hP, hE, hG⟩ := hrel
    by_cases hk0 : k = 0
    · subst hk0
      have HI := Lib.hid (up_stop hI (.inl rfl))
      have HE := Lib.hid hE
      clear hI hE
      go_wp2_with fail
      go_end0
      exact ⟨l', rfl, hP, HI.out, HE.out, hA, hG⟩
    · have hk1 : (1 : Int) ≤ k := by omega
      have hk2 : (k : Int) ≤ 4097 := by omega
      have ne : (((k : Int) - 1) / 2 == (k : Int)) = false := by simp; omega
      have M := meth_less A _ wr hA.cell
      have ll : k < l'.length := by have := hA.len; omega
      by_cases c : (at_ l' k).lt (at_ l' ((k - 1) / 2))
      · have L := less_i hA (x := k) (y := ((k : Int) - 1) / 2) k ((k - 1) / 2) rfl (by omega) (by omega) (by omega) true (decide_eq_true c)
        have HI := Lib.hid (up_step hI (by omega) c)
        have HP := Lib.hid ((swp_perm (l := l') (i := (k - 1) / 2) (j := k) (by omega) (by omega)).trans hP)
        have HE : Hid (∀ m, n ≤ m → at_ (swp l' ((k - 1) / 2) k) m = at_ l m) := Lib.hid (fun m hm => by rw [at_swp (by omega) (by omega), if_neg (by omega), if_neg (by omega)]; exact hE m hm)
        have HG := Lib.hid hG
        clear hI hP hE hG c HU
        go_wp2_with fail
        refine L.mono ?_
        rintro r w1 ⟨rfl, b1⟩
        have hA1 := hA.below b1
        have G1 := Lib.hid (World.grownBy.trans' HG.out (grown_below b1 _))
        have M1 := meth_swap A _ w1 hA1.cell
        have S := swap_i hA1 (x := ((k : Int) - 1) / 2) (y := k) ((k - 1) / 2) k (by omega) rfl (by omega) (by omega)
        clear b1 M L
        go_wp2_with fail
        refine S.mono ?_
        rintro r w2 ⟨rfl, hA2, g2⟩
        have G2 := Lib.hid (World.grownBy.trans' G1.out g2)
        clear g2 M1 S
        go_wp2_with fail
        go_roundw
        case rel => exact ⟨(k - 1) / 2, _, by go_num, by omega, hA2, HI.out, HP.out, HE.out, G2.out⟩
        case measure => simp [intOf]; omega
      · have L := less_i hA (x := k) (y := ((k : Int) - 1) / 2) k ((k - 1) / 2) rfl (by omega) (by omega) (by omega) false (decide_eq_false c)
        have HI := Lib.hid (up_stop hI (.inr c))
        have HP := Lib.hid hP
        have HE := Lib.hid hE
        have HG := Lib.hid hG
        clear hI hP hE hG c HU
        go_wp2_with fail
        refine L.mono ?_
        rintro r w1 ⟨rfl, b1⟩
        have hA1 := hA.below b1
        have G1 := Lib.hid (World.grownBy.trans' HG.out (grown_below b1 _))
        clear b1 M L
        go_wp2_with fail
        go_end0
        exact ⟨l', rfl, HP.out, HI.out, HE.out, hA1, G1.out⟩
end Go.Proofs.Ytkdaifcnlobhkaa.Ag
