/-
  A MASK's NODES AS A SLICE.
-/
import Derived.Test.YtnlpmapnlhkpkaaCen
import Derived.Below
import Derived.Laws.OwnMore
import Derived.Deep.AppendLies
namespace Go.Proofs.Ytnlpmapnlhkpkaa
open Go.RowKit
theorem info3 : (Try.prog.info? 3).map (fun i => (i.zero, i.size, i.bytes)) = some (some (.int .i64 0), 1, 8) := by kernel_rfl
/-- a slice's numbers -/
def Ints (w : World) (B : Nat) (a : Option Addr) (xs : List Int) : Prop := ∀ i (h : i < xs.length), ∃ g o, a = some ⟨g, o, none⟩ ∧ B ≤ g ∧ g < w.heap.size ∧ w.cell? ⟨g, o + i, none⟩ = some (.int .i64 xs[i])
/-- a slice of whole numbers that the call owns, from block B on -/
def OwnI (w : World) (B : Nat) (v : Value) (xs : List Int) : Prop := w.ownsRow B 3 1 v xs.length (xs.map (Value.int .i64))
theorem OwnI.below {w w' : World} {B : Nat} {v : Value} {xs : List Int} (h : OwnI w B v xs) (hb : Below w.heap.size w w') : OwnI w' B v xs := by
  refine World.ownsRow.kept (row := none) h ⟨hb.os, hb.tape, hb.output, hb.size, fun k hk _ => hb.block k hk⟩ ?_
  cases v.ownBlock <;> simp
theorem OwnI.ints {w : World} {B : Nat} {v : Value} {xs : List Int} (h : OwnI w B v xs) : ∃ a c, v = .slice a xs.length c ∧ Ints w B a xs ∧ xs.length ≤ c := by
  rcases h.2 with ⟨rfl, hn⟩ | ⟨g, cap, cur, rfl, hb, hgg, hc, _, _, _⟩
  · exact ⟨none, 0, by rw [hn], fun i hi => by omega, by omega⟩
  · refine ⟨some ⟨g, 0, none⟩, cap, rfl, fun i hi => ?_, hc⟩
    have e := World.ownsRow.cellAt h i (by omega)
    refine ⟨g, 0, rfl, hb, (Array.getElem?_eq_some_iff.1 hgg).1, ?_⟩
    rw [Nat.zero_add, e]
    simp
theorem append_int {ops : Array Oper} {rest : List Oper} {o : Oper} {a : Act} {Q : Exit → Act → World → Prop} (W : World) (hgd : o.guard = none) (s x : Operand)
    (ho : o.op = .call { callee := .builtin .append, args := #[s, x], argTypes := #[22, 22] })
    (B : Nat) (v : Value) (xs : List Int) (hs : a.eval s = v) (hown : OwnI W B v xs) (c : Int)
    (hx : a.eval x = .slice (some ⟨W.heap.size, 0, none⟩) 1 1) (hlen : (xs.length + 1) * 8 ≤ 140737488355328) (hB : B ≤ W.heap.size)
    (h : ∀ v' w', OwnI w' B v' (xs ++ [c]) → Below B W w' → wpList Try.prog ops Q rest (a.put o.dst v') w') :
    wpList Try.prog ops Q (o :: rest) a (W.alloc (.cells #[.int .i64 c] 3)) := by
  obtain ⟨i, hi, hz0, hz1, hz2⟩ := info_parts info3
  refine wpList_append_own _ hgd s x 22 ho B 3 i (.int .i64 0) 1 8 Try.underlying22 hi hz0 hz1 hz2 rfl (by decide) v xs.length (xs.map (Value.int .i64)) hs (hown.alloc _) ⟨W.heap.size, 0, none⟩ 1 1 [.int .i64 c] hx rfl ?_ ?_ ?_ ?_ ?_ ?_
  · exact World.news_of_block (cs := #[.int .i64 c]) (heap_alloc_new W _)
  · intro u hu; simp at hu; subst hu; rfl
  · unfold maxLen; omega
  · omega
  · simp; omega
  · intro v' w' ho' hg _
    refine h v' w' ?_ ?_
    · simpa [OwnI] using ho'
    · refine (((Below.refl B W).alloc hB _).grown hg (by simp; omega) ?_)
      intro q hq
      exact (World.ownsRow.lt hown q hq).1
/-- the first nodes, as whole numbers -/
def ndTo (k i : Nat) : List Int := (nodesTo k i).map (fun (x : Nat) => (x : Int))
def ndL (k : Nat) : List Int := ndTo k 7
theorem ndTo_len (k i : Nat) : (ndTo k i).length = szTo k i := by unfold ndTo; rw [List.length_map, nodesTo_len]
theorem ndL_len (k : Nat) : (ndL k).length = sz k := ndTo_len k 7
theorem ndTo_yes {k i : Nat} (h : decide (bt k i = 1) = true) : ndTo k (i + 1) = ndTo k i ++ [(i : Int)] := by
  show (nodesTo k i ++ _).map _ = _
  rw [if_pos (of_decide_eq_true h), List.map_append]; rfl
theorem ndTo_no {k i : Nat} (h : decide (bt k i = 1) = false) : ndTo k (i + 1) = ndTo k i := by
  show (nodesTo k i ++ _).map _ = _
  rw [if_neg (of_decide_eq_false h), List.append_nil]; rfl
def Nodd (m : Int) (w : World) (e : Ending) (w' : World) : Prop := ∃ v, e = .returned v ∧ OwnI w' w.heap.size v (ndL (kn m)) ∧ Below w.heap.size w w'
set_option maxHeartbeats 1000000 in
theorem nodes_any (m : Int) (w : World) : Calls Try.prog 9 #[.int .i64 m] w (Nodd m w) := by
  go_enter Try.func9, Try.ntmps9
  go_wp2_with fail
  go_loopw [3, 5] (fun l i wq => ∃ k : Nat, k ≤ 7 ∧ i = .int .i64 k ∧ OwnI wq w.heap.size l (ndTo (kn m) k) ∧ Below w.heap.size w wq) (fun _ i _ => 7 - (intOf i).toNat)
  case atStart => exact ⟨0, by omega, rfl, ⟨rfl, .inl ⟨rfl, rfl⟩⟩, Below.refl _ _⟩
  case round =>
    obtain ⟨k, hk, rfl, ho, hb⟩ := hrel
    have O := Lib.hid ho
    have B := Lib.hid hb
    clear ho hb
    by_cases hlt : k < 7
    · have H := hasB_bt m k hlt
      rcases hd : decide (bt (kn m) k = 1) with _ | _
      · rw [hd] at H
        have S := Lib.hid (ndTo_no hd)
        clear hd
        go_wp2_with ((with_reducible refine (has_any _ _ _).mono ?_); rintro e w' ⟨rfl, rfl⟩)
        go_roundw
        case rel => exact ⟨k + 1, by omega, by go_num, by rw [S.out]; exact O.out, B.out⟩
        case measure => simp [intOf]; omega
      · rw [hd] at H
        have S := Lib.hid (ndTo_yes hd)
        have L := Lib.hid (ndTo_len (kn m) k)
        have L2 := szTo_le (kn m) k
        have hl : ((ndTo (kn m) k).length + 1) * 8 ≤ 140737488355328 := by rw [L.out]; omega
        have z := B.out.size
        clear hd
        go_wp2_with (first
          | ((with_reducible refine (has_any _ _ _).mono ?_); rintro e w' ⟨rfl, rfl⟩)
          | (at_builtin; refine append_int _ rfl _ _ rfl w.heap.size _ _ rfl O.out _ rfl hl z ?_; intro v3 w3 o3 b3))
        go_roundw
        case rel => exact ⟨k + 1, by omega, by go_num, by rw [S.out]; exact o3, B.out.trans b3⟩
        case measure => simp [intOf]; omega
    · obtain rfl : k = 7 := by omega
      go_wp2_with fail
      go_ret
      exact ⟨_, rfl, O.out, B.out⟩
end Go.Proofs.Ytnlpmapnlhkpkaa
