/-
  slices.Insert of one session.
-/
import Derived.Test.YtkaocpfkigdpoaaTab
import Derived.Lib.Overlaps
import Derived.Lib.AppendZerosOnto
import Derived.Laws.NewBlocks
import Derived.Laws.Externs
import Derived.Lib.SliceRun
import Derived.Shelf.RegionOpenPlain
namespace Go.Proofs.Ytkaocpfkigdpoaa
open Go.RowKit
/-- what a call that rewrites a slice leaves -/
def Insd (w : World) (B : Nat) (v : Value) (L' : List Sn) (e : Ending) (w' : World) : Prop :=
  ∃ v', e = .returned v' ∧ Own w' B v' L' ∧ Fr w w' (fun q => v.ownBlock = some q) ∧ (v'.ownBlock = v.ownBlock ∨ ∀ q, v'.ownBlock = some q → w.heap.size ≤ q)
theorem info62 : (Try.prog.info? 62).map (fun i => (i.zero, i.size, i.bytes)) = some (some (.agg #[.int .i64 0, .int .i64 0]), 2, 16) := by kernel_rfl
theorem enc_at {w : World} {vb : Nat} {x : Sn} (h : Blk w vb 62 (enc x).toArray) : ∀ j u, (enc x)[j]? = some u → w.cell? ((⟨vb, 0, none⟩ : Addr).add j) = some u := by
  intro j u hj
  have e : (⟨vb, 0, none⟩ : Addr).add j = ⟨vb, j, none⟩ := by unfold Addr.add; split <;> simp_all
  rw [e, h.cell]
  simpa using hj
theorem enc_one (x : Sn) : ∀ u ∈ enc x, u.oneCell' = true := by
  have := cells_one [x]
  unfold cells at this
  simpa using this
set_option maxHeartbeats 4000000 in
set_option maxRecDepth 100000 in
theorem insert_end {w : World} {B vb : Nat} {v : Value} {L : List Sn} {x : Sn} (h : Own w B v L) (hB : B ≤ w.heap.size) (hv : Blk w vb 62 (enc x).toArray) (hl : L.length ≤ 1000) :
    Calls Try.prog 28 #[v, .int .i64 L.length, .slice (some ⟨vb, 0, none⟩) 1 1] w (Insd w B v (L ++ [x])) := by
  obtain ⟨i0, hi, hz0, hz1, hz2⟩ := info_parts info62
  obtain ⟨a, c, rfl, hc1, hc2⟩ := h.form
  have H := Lib.hid h
  have N := Lib.hid (enc_at hv)
  have FIN : Hid (∀ g cap w1, w1.ownsRow B 62 2 (.slice (some ⟨g, 0, none⟩) (L.length + 1) cap) (L.length + 1) (cells L ++ enc x) → w.grownBy w1 (Value.slice a L.length c).ownBlock → ((Value.slice a L.length c).ownBlock = some g ∨ g = w.heap.size) → Insd w B (.slice a L.length c) (L ++ [x]) (.returned (.slice (some ⟨g, 0, none⟩) (L.length + 1) cap)) w1) := Lib.hid fun g cap w1 ho hg ha => by
    refine ⟨_, rfl, ?_, (Fr.of_grown hg).mono (fun q _ e => e.symm), ?_⟩
    · unfold Own
      rw [List.length_append, cells_append, show cells [x] = enc x from by unfold cells; simp]
      exact ho
    · rcases ha with ha | ha
      · exact .inl (by rw [ha]; rfl)
      · exact .inr (fun q hq => by
          have : g = q := by simpa [Value.ownBlock] using hq
          omega)
  have hl2 : (L.length : Int) ≤ 1000 := by omega
  unfold Own at H
  clear h hv
  generalize cells L = cl at *
  generalize L.length = n at *
  generalize Insd w B (Value.slice a n c) (L ++ [x]) = Q at *
  go_enter Try.func28, Try.ntmps28
  go_wp2_with (at_builtin; refine wpList_append_lies _ rfl _ _ 44 rfl B 62 i0 _ 2 16 Try.underlying44 hi hz0 hz1 hz2 rfl (by decide) _ n cl rfl H.out ⟨vb, 0, none⟩ 1 1 (enc x) rfl rfl N.out (enc_one x) (by decide) (by unfold maxLen; omega) (by omega) hB _ rfl ?_; intro g cap w1 ho hg ha _)
  all_goals exact FIN.out g cap w1 ho hg ha
/-- copy of elements of two cells, into a block that is known whole -/
theorem run_copy2 (w : World) (ty : TypeId) (g o dLen dCap : Nat) (a : Addr) (sLen sCap : Nat) (cur : Array Value) (t : TypeId) (cs : List Value)
    (hg : Blk w g t cur) (hn : cs.length = Nat.min sLen dLen * 2)
    (hsrc : ∀ j v, cs[j]? = some v → w.cell? (a.add j) = some v) (hfit : o + cs.length ≤ cur.size) (h1 : ∀ v ∈ cs, v.oneCell' = true) :
    (Builtin.copy_ #[44, 44] ty #[.slice (some ⟨g, o, none⟩) dLen dCap, .slice (some a) sLen sCap]).run Try.prog w =
      .ok (goInt (Nat.min sLen dLen)) (w.setRow g (cur.toList.take o ++ cs ++ cur.toList.drop (o + cs.length)).toArray) := by
  have hl := run_loadCells_list (P := Try.prog) w a cs hsrc
  have hst := run_storeCells_at Try.prog g o t cs 0 cur w hg (by simpa using hfit) h1
  obtain ⟨i0, hi, hz0, hz1, hz2⟩ := info_parts info62
  rw [hn] at hl
  simp [Builtin.copy_, run_underlying Try.underlying44, Builtin.lenOf, Builtin.firstCells, sizeOf, typeInfo, hi, hz1, hl, hst]
theorem zero_one (n : Nat) : ∀ v ∈ (Builtin.zeroCells (Value.agg #[.int .i64 0, .int .i64 0]).cells n).toList, v.oneCell' = true := by
  intro v hv
  unfold Builtin.zeroCells at hv
  simp only [Array.toList_map, List.mem_map] at hv
  obtain ⟨i, _, rfl⟩ := hv
  have e : (Value.agg #[.int .i64 0, .int .i64 0]).cells = #[.int .i64 0, .int .i64 0] := rfl
  rw [e, show (#[Value.int .i64 0, Value.int .i64 0] : Array Value).size = 2 from rfl]
  rcases (by omega : i % 2 = 0 ∨ i % 2 = 1) with h | h <;> rw [h] <;> rfl
theorem run_clear2 (w : World) (ty : TypeId) (g o n c : Nat) (cur : Array Value) (t : TypeId) (hg : Blk w g t cur) (hn : 0 < n) (hfit : o + n * 2 ≤ cur.size) :
    (Builtin.clear_ #[44] ty #[.slice (some ⟨g, o, none⟩) n c]).run Try.prog w =
      .ok (.tuple #[]) (w.setRow g (cur.toList.take o ++ (Builtin.zeroCells (Value.agg #[.int .i64 0, .int .i64 0]).cells n).toList ++ cur.toList.drop (o + n * 2)).toArray) := by
  obtain ⟨i0, hi, hz0, hz1, hz2⟩ := info_parts info62
  have hl : (Builtin.zeroCells (Value.agg #[.int .i64 0, .int .i64 0]).cells n).toList.length = n * 2 := by
    rw [Array.length_toList, size_zeroCells]; rfl
  have hst := run_storeCells_at Try.prog g o t _ 0 cur w hg (by rw [hl]; simpa using hfit) (zero_one n)
  rw [hl] at hst
  obtain ⟨m, rfl⟩ : ∃ m, n = m + 1 := ⟨n - 1, by omega⟩
  obtain ⟨Z, hZ⟩ : ∃ Z, Z = Builtin.zeroCells (Value.agg #[.int .i64 0, .int .i64 0]).cells (m + 1) := ⟨_, rfl⟩
  rw [← hZ] at hst ⊢
  have hzc : ∀ w, (zeroValue 62).run Try.prog w = .ok (.agg #[.int .i64 0, .int .i64 0]) w := fun w => by simp [zeroValue, typeInfo, hi, hz0]
  simp [Builtin.clear_, run_underlying Try.underlying44, hzc]
  rw [← hZ, hst]
  simp
end Go.Proofs.Ytkaocpfkigdpoaa
