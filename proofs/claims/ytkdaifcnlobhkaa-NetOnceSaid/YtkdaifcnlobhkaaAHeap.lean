/-
  THE WALKS OF row.Push, row.Pop.
-/
import Derived.Test.YtkdaifcnlobhkaaADown
import Derived.Deep.AppendLies
import Derived.Deep.RegionLaw
namespace Go.Proofs.Ytkdaifcnlobhkaa.Ag
open Go.RowKit
/-- an agenda in memory: its block, and the row that it owns -/
structure AG (w : World) (B A : Nat) (Z : Int) (v : Value) (l : List It) : Prop where
  blk : w.heap[A]? = some (.cells #[v, .int .i64 Z] 92 (0, 0))
  own : w.ownsRow B 87 3 v l.length (cells l)
  small : l.length ≤ 4097
/-- what a call on it may have turned: its block, its row; and where its row is then -/
structure Tch (w w' : World) (A : Nat) (r r' : Option Nat) : Prop where
  os : w'.os = w.os
  tape : w'.tape = w.tape
  output : w'.output = w.output
  size : w.heap.size ≤ w'.heap.size
  block : ∀ k, k < w.heap.size → k ≠ A → some k ≠ r → w'.heap[k]? = w.heap[k]?
  own : r' = r ∨ ∃ k, r' = some k ∧ w.heap.size ≤ k
theorem Tch.refl (w : World) (A : Nat) (r : Option Nat) : Tch w w A r r := ⟨rfl, rfl, rfl, Nat.le_refl _, fun _ _ _ _ => rfl, .inl rfl⟩
theorem Tch.trans {a b c : World} {A : Nat} {r s t : Option Nat} (h : Tch a b A r s) (k : Tch b c A s t) : Tch a c A r t := by
  refine ⟨k.os.trans h.os, k.tape.trans h.tape, k.output.trans h.output, Nat.le_trans h.size k.size, fun i hi hA hr => ?_, ?_⟩
  · refine (k.block i (Nat.lt_of_lt_of_le hi h.size) hA ?_).trans (h.block i hi hA hr)
    rcases h.own with e | ⟨q, e, hq⟩
    · rw [e]; exact hr
    · rw [e]; simp; omega
  · rcases k.own with e | ⟨q, e, hq⟩
    · rw [e]; exact h.own
    · exact .inr ⟨q, e, Nat.le_trans h.size hq⟩
theorem Tch.of_grown {w w' : World} {A : Nat} {r : Option Nat} (h : w.grownBy w' r) : Tch w w' A r r := ⟨h.os, h.tape, h.output, h.size, fun k hk _ hr => h.block k hk hr, .inl rfl⟩
theorem Tch.of_below {w w' : World} {A : Nat} {r : Option Nat} (h : Below w.heap.size w w') : Tch w w' A r r := Tch.of_grown (grown_below h r)
theorem AG.cell {w : World} {B A : Nat} {Z : Int} {v : Value} {l : List It} (h : AG w B A Z v l) : w.cell? ⟨A, 0, none⟩ = some v := by rw [cell_of_row w A 0 _ 92 (0, 0) h.blk]; rfl
theorem AG.last {w : World} {B A : Nat} {Z : Int} {v : Value} {l : List It} (h : AG w B A Z v l) : w.cell? ⟨A, 1, none⟩ = some (.int .i64 Z) := by rw [cell_of_row w A 1 _ 92 (0, 0) h.blk]; rfl
theorem AG.free {w : World} {B A : Nat} {Z : Int} {v : Value} {l : List It} (h : AG w B A Z v l) (j : Nat) : w.frozen? ⟨A, j, none⟩ = false := by
  simp [World.frozen?, h.blk]
theorem AG.lt {w : World} {B A : Nat} {Z : Int} {v : Value} {l : List It} (h : AG w B A Z v l) : A < w.heap.size := World.block_lt_of_cell? _ _ h.cell
theorem AG.ne {w : World} {B A : Nat} {Z : Int} {v : Value} {l : List It} (h : AG w B A Z v l) : some A ≠ v.ownBlock := by
  intro e
  rcases h.own.2 with ⟨rfl, _⟩ | ⟨g, cap, cur, rfl, _, hg, _⟩
  · simp [Value.ownBlock] at e
  · simp [Value.ownBlock] at e
    subst e
    rw [h.blk] at hg
    cases hg
theorem AG.ha {w : World} {B A : Nat} {Z : Int} {v : Value} {l : List It} (h : AG w B A Z v l) (hl : 0 < l.length) : ∃ g cap, v = .slice (some ⟨g, 0, none⟩) l.length cap ∧ HA w B A g cap l.length Z l := by
  obtain ⟨g, cap, rfl, _, _⟩ := h.own.form hl
  exact ⟨g, cap, rfl, h.blk, h.own, fun e => h.ne (by rw [e]; rfl), h.small, rfl⟩
theorem HA.ag {w : World} {B A g cap N : Nat} {Z : Int} {l : List It} (h : HA w B A g cap N Z l) : AG w B A Z (.slice (some ⟨g, 0, none⟩) N cap) l := by
  obtain rfl := h.len
  exact ⟨h.blk, h.row, h.small⟩
theorem AG.below {w w' : World} {B A : Nat} {Z : Int} {v : Value} {l : List It} (h : AG w B A Z v l) (hb : Below w.heap.size w w') : AG w' B A Z v l :=
  ⟨(hb.block A h.lt).trans h.blk, World.ownsRow.kept h.own (grown_below hb none) (by cases v.ownBlock <;> simp), h.small⟩
theorem info46 : (Try.prog.info? 87).map (fun i => (i.zero, i.size, i.bytes)) = some (some (.agg #[.int .i64 0, .int .i64 0, .int .i64 0]), 3, 24) := by kernel_rfl
theorem assert_item (t i x : Int) (w : World) : (Instr.typeAssert (.iface 87 (.agg #[.int .i64 t, .int .i64 i, .int .i64 x])) 20 87 false).run Try.prog w = .ok (.agg #[.int .i64 t, .int .i64 i, .int .i64 x]) w := by kernel_rfl
def Pushed (w : World) (B A : Nat) (Z : Int) (v : Value) (l : List It) (e : Ending) (w' : World) : Prop :=
  ∃ g cap, e = .returned (.tuple #[]) ∧ AG w' B A Z (.slice (some ⟨g, 0, none⟩) l.length cap) l ∧ Tch w w' A v.ownBlock (some g)
theorem pushed {w w1 : World} {B A g cap n : Nat} {Z : Int} {v : Value} {l : List It} (hn : n = l.length) (h : AG w B A Z v l) (x : It) (hl : l.length ≤ 4096) (W0 : World) (hW : Below w.heap.size w W0)
    (ho : w1.ownsRow B 87 3 (.slice (some ⟨g, 0, none⟩) (n + 1) cap) (n + 1) (cells l ++ [.int .i64 x.t, .int .i64 x.i, .int .i64 x.x])) (hg : W0.grownBy w1 v.ownBlock) (hat : v.ownBlock = some g ∨ w.heap.size ≤ g) :
    Pushed w B A Z v (l ++ [x]) (.returned (.tuple #[])) (w1.setCell ⟨A, 0, none⟩ (.slice (some ⟨g, 0, none⟩) (n + 1) cap)) := by
  subst hn
  have hA : w1.heap[A]? = some (.cells #[v, .int .i64 Z] 92 (0, 0)) := by
    rw [hg.block A (Nat.lt_of_lt_of_le h.lt hW.size) h.ne, hW.block A h.lt]; exact h.blk
  have hne : A ≠ g := by
    rcases hat with e | e
    · rintro rfl; exact h.ne e.symm
    · have := h.lt; omega
  have hs := heap_setCell_same w1 A 0 #[v, .int .i64 Z] 92 (.slice (some ⟨g, 0, none⟩) (l.length + 1) cap) hA
  refine ⟨g, cap, rfl, ⟨?_, ?_, by simp; omega⟩, ⟨?_, ?_, ?_, ?_, ?_, ?_⟩⟩
  · rw [List.length_append]; exact hs
  · rw [List.length_append, cells_append]
    exact ownsRow_setCell_other ho (by simp [Value.ownBlock]; exact fun e => hne e.symm) _
  · exact (hg.os.trans hW.os)
  · exact (hg.tape.trans hW.tape)
  · exact (hg.output.trans hW.output)
  · rw [World.size_setCell]; exact Nat.le_trans hW.size hg.size
  · intro k hk hkA hkr
    rw [Below.heap_setCell _ _ _ _ hkA, hg.block k (Nat.lt_of_lt_of_le hk hW.size) hkr, hW.block k hk]
  · rcases hat with e | e
    · exact .inl e.symm
    · exact .inr ⟨g, rfl, e⟩
theorem Pushed.drew {w w' : World} {B A : Nat} {Z : Int} {v : Value} {l : List It} {e : Ending} (h : Pushed w B A Z v l e w') : Pushed w B A Z v l e w'.drew := by
  obtain ⟨g, cap, he, a, t⟩ := h
  exact ⟨g, cap, he, ⟨a.blk, World.ownsRow.kept a.own (grown_drewN _ 1 none) (.inr (by simp [Value.ownBlock])), a.small⟩, ⟨t.os, t.tape, t.output, t.size, t.block, t.own⟩⟩
set_option maxHeartbeats 1000000 in
set_option maxRecDepth 100000 in
theorem rowpush_any (B A : Nat) (Z : Int) (v : Value) (l : List It) (x : It) (w : World) (h : AG w B A Z v l) (hl : l.length ≤ 4096) (hB : B ≤ w.heap.size) :
    Calls Try.prog 111 #[.pointer (some ⟨A, 0, none⟩), .iface 87 (agg x)] w (Pushed w B A Z v (l ++ [x])) := by
  have hc := h.cell
  have fA := h.free 0
  have HG := Lib.hid h
  have HL := Lib.hid hl
  have lt := h.lt
  obtain ⟨i46, hi, hz0, hz1, hz2⟩ := info_parts info46
  have ta := assert_item x.t x.i x.x

  unfold agg
  clear h hl
  go_enter Try.func111, Try.ntmps111
  go_wp2_with fail
  have h1c : ∀ u ∈ [Value.int .i64 x.t, .int .i64 x.i, .int .i64 x.x], u.oneCell' = true := by
    intro u hu
    simp at hu
    rcases hu with rfl | rfl | rfl <;> rfl
  have H1C := Lib.hid h1c
  clear h1c
  go_region_law ((refine step_append_lies _ rfl (.tmp 7) (.tmp 10) 90 rfl B 87 i46 (.agg #[.int .i64 0, .int .i64 0, .int .i64 0]) 3 24 Try.underlying90 hi hz0 hz1 hz2 rfl (by decide) v l.length (cells l) rfl ((World.ownsRow.alloc HG.out.own _)) ⟨w.heap.size, 0, none⟩ 1 1 [.int .i64 x.t, .int .i64 x.i, .int .i64 x.x] rfl rfl (World.news_of_block (cs := #[.int .i64 x.t, .int .i64 x.i, .int .i64 x.x]) (heap_alloc_new w _)) H1C.out (by decide) (by have := HL.out; unfold maxLen; omega) (by have := HL.out; omega) (by show B ≤ (w.alloc _).heap.size; simp; omega) _ rfl ?_; intro g cap w1 ho hg hat _; have FIN := Lib.hid (pushed rfl HG.out x HL.out _ (((Below.refl _ w).alloc (Nat.le_refl _) _).drew) ho hg (hat.imp id (fun e => by rw [e]; show w.heap.size ≤ (w.alloc _).heap.size; simp))); have hcA : w1.cell? ⟨A, 0, none⟩ = some v := hg.cell (by show (w.alloc _).cell? _ = _; rw [((Below.refl _ w).alloc (Nat.le_refl _) _).cell lt]; exact hc) HG.out.ne; have hfA : w1.frozen? ⟨A, 0, none⟩ = false := (hg.frozen_far ⟨A, 0, none⟩ (by show A < (w.alloc _).heap.size; simp; omega) HG.out.ne).trans (by show (w.alloc _).frozen? _ = _; rw [((Below.refl _ w).alloc (Nat.le_refl _) _).frozen lt]; exact fA); clear ho hg hat))
  all_goals go_end0
  all_goals first | exact FIN.out | exact FIN.out.drew
end Go.Proofs.Ytkdaifcnlobhkaa.Ag
