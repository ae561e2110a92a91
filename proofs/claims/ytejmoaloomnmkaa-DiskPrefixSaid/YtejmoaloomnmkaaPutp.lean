/-
  BYTES THAT ARE LAID AT A PLACE: copy, and append behind.
-/
import Derived.Test.YtejmoaloomnmkaaFiles
import Derived.Lib.BufferWrite
import Derived.Lib.AppendStr
namespace Go.Proofs.Ytejmoaloomnmkaa
open Go.RowKit
def bl (s : ByteArray) : List UInt8 := s.data.toList
theorem bl_len (s : ByteArray) : (bl s).length = s.size := by unfold bl; rw [Array.length_toList]; rfl
/-- bytes laid at a place -/
def splice (l : List UInt8) (at_ : Nat) (b : List UInt8) : List UInt8 := l.take at_ ++ b ++ l.drop (at_ + b.length)
theorem splice_len {l b : List UInt8} {at_ : Nat} (h : at_ ≤ l.length) : (splice l at_ b).length = max l.length (at_ + b.length) := by
  unfold splice
  simp
  omega
theorem splice_parts {l b : List UInt8} {at_ k : Nat} (h : at_ ≤ l.length) (hk : k = min b.length (l.length - at_)) : (l.take at_ ++ b.take k ++ l.drop (at_ + k)) ++ b.drop k = splice l at_ b := by
  unfold splice
  by_cases hb : b.length ≤ l.length - at_
  · have e : k = b.length := by omega
    subst e
    rw [List.take_length, List.drop_length, List.append_nil]
  · have e1 : at_ + k = l.length := by omega
    rw [e1, List.drop_length, List.append_nil, List.drop_eq_nil_of_le (by omega : l.length ≤ at_ + b.length), List.append_nil, List.append_assoc, List.take_append_drop]
theorem bcells_append (a b : List UInt8) : bcells (a ++ b) = bcells a ++ bcells b := by simp [bcells]
theorem byteCells_eq (l : List UInt8) : Lib.byteCells l = bcells l := rfl
theorem strCells_eq (s : ByteArray) : Lib.strCells s = bcells (bl s) := rfl
section
variable {P : Program}
/-- 'copy(dst, s)', s a string, as far as it goes -/
theorem run_copy_some (w : World) (dT sT ty elem : TypeId) (g o dLen dCap k : Nat) (s : ByteArray) (cur : Array Value) (t : TypeId)
    (hu : P.underlying dT = some (.slice elem)) (hs : (P.info? elem).map (·.size) = some 1) (hg : w.heap[g]? = some (.cells cur t (0, 0))) (hk : Nat.min s.size dLen = k) (hfit : o + k ≤ cur.size) :
    (Builtin.copy_ #[dT, sT] ty #[.slice (some ⟨g, o, none⟩) dLen dCap, .string s]).run P w =
      .ok (.int .i64 k) (w.setRow g (cur.toList.take o ++ bcells ((bl s).take k) ++ cur.toList.drop (o + k)).toArray) := by
  have hks : k ≤ s.size := by rw [← hk]; exact Nat.min_le_left _ _
  have hlen : (bcells ((bl s).take k)).length = k := by rw [bcells_len, List.length_take, bl_len]; omega
  have hone : ∀ v ∈ bcells ((bl s).take k), v.oneCell' = true := by
    intro v hv
    unfold bcells at hv
    obtain ⟨b, _, rfl⟩ := List.mem_map.1 hv
    rfl
  have hst := run_storeCells_at P g o t (bcells ((bl s).take k)) 0 cur w hg (by rw [hlen]; simpa using hfit) hone
  have htk : List.take k (List.map (fun b : UInt8 => Value.int IntKind.u8 (b.toNat : Int)) s.data.toList) = bcells ((bl s).take k) := by
    unfold bcells bl
    rw [List.map_take]
  rw [hlen] at hst
  simp only [Nat.add_zero] at hst
  cases hq : P.info? elem with
  | none => simp [hq] at hs
  | some i =>
    simp [Builtin.copy_, run_underlying hu, Builtin.lenOf, Builtin.firstCells, sizeOf, typeInfo, hq, hk]
    rw [htk, hst]
    simp [Result.andThen, goInt]
theorem run_copy_zero (w : World) (dT sT ty elem : TypeId) (d : Option Addr) (dLen dCap : Nat) (s : ByteArray)
    (hu : P.underlying dT = some (.slice elem)) (hs : ((P.info? elem).map (·.size)).isSome = true) (h0 : Nat.min s.size dLen = 0) :
    (Builtin.copy_ #[dT, sT] ty #[.slice d dLen dCap, .string s]).run P w = .ok (.int .i64 0) w := by
  cases hq : P.info? elem with
  | none => simp [hq] at hs
  | some i =>
    cases d <;> simp [Builtin.copy_, run_underlying hu, Builtin.lenOf, Builtin.firstCells, sizeOf, typeInfo, hq, h0, storeCells, goInt]
end
theorem info5 : (Try.prog.info? 5).map (fun i => (i.zero, i.size, i.bytes)) = some (some (.int .u8 0), 1, 1) := by kernel_rfl
theorem info5s : (Try.prog.info? 5).map (·.size) = some 1 := by kernel_rfl
set_option maxRecDepth 100000 in
/-- behind the copy -/
theorem copy_own {w : World} {B g m cv at_ k : Nat} {l : List UInt8} {s : ByteArray} (h : w.ownsRow B 5 1 (.slice (some ⟨g, 0, none⟩) m cv) m (bcells l)) (hm : l.length = m) (ha : at_ ≤ m) (hk : Nat.min s.size (m - at_) = k) (dCap : Nat) :
    ∃ w', (Builtin.copy_ #[55, 9] 3 #[.slice (some ⟨g, at_, none⟩) (m - at_) dCap, .string s]).run Try.prog w = .ok (.int .i64 k) w' ∧ w'.ownsRow B 5 1 (.slice (some ⟨g, 0, none⟩) m cv) m (bcells (l.take at_ ++ (bl s).take k ++ l.drop (at_ + k))) ∧ w.grownBy w' (some g) ∧ w'.heap.size = w.heap.size := by
  rcases h.2 with ⟨e, _⟩ | ⟨g', cap, cur, e, hB, hg, hmc, hcm, hcs, htk⟩
  · cases e
  · cases e
    have hks : k ≤ m - at_ := by rw [← hk]; exact Nat.min_le_right _ _
    have hks2 : k ≤ s.size := by rw [← hk]; exact Nat.min_le_left _ _
    have hrun := run_copy_some (P := Try.prog) w 55 9 3 5 g at_ (m - at_) dCap k s cur 5 Try.underlying55 info5s hg hk (by omega)
    refine ⟨_, hrun, ⟨by rw [bcells_len]; simp [bl_len]; omega, .inr ⟨g, cv, _, rfl, hB, setRow_heap w g cur _ 5 _ hg, hmc, hcm, ?_, ?_⟩⟩, ⟨rfl, rfl, rfl, by simp, fun q _ hne => setRow_other w g q _ (fun e => hne (by rw [e]))⟩, by simp⟩
    · simp [bcells_len, bl_len]
      omega
    · have h1 : cur.toList.take m = bcells l := by simpa using htk
      have h2 : cur.toList.take at_ = bcells (l.take at_) := by
        have : cur.toList.take at_ = (cur.toList.take m).take at_ := by rw [List.take_take]; congr 1; omega
        rw [this, h1]; unfold bcells; rw [List.map_take]
      rw [h2, bcells_append, bcells_append]
      have hl1 : (bcells (l.take at_) ++ bcells ((bl s).take k)).length = at_ + k := by simp [bcells_len, bl_len]; omega
      rw [List.take_append, hl1]
      simp only [Nat.mul_one]
      rw [List.take_of_length_le (by rw [hl1]; omega)]
      congr 1
      have h3 : (cur.toList.drop (at_ + k)).take (m - (at_ + k)) = (cur.toList.take m).drop (at_ + k) := by
        rw [List.drop_take]
      rw [h3, h1]
      unfold bcells
      rw [List.map_drop]
/-- behind the append -/
theorem append_own {w : World} {B : Nat} {v : Value} {n : Nat} {l : List UInt8} (h : w.ownsRow B 5 1 v n (bcells l)) (s : ByteArray) (hn : n + s.size ≤ 100000000) (hB : B ≤ w.heap.size) :
    ∃ v' w', (Builtin.append_ #[55, 9] 55 #[v, .string s]).run Try.prog w = .ok v' w' ∧ w'.ownsRow B 5 1 v' (n + s.size) (bcells (l ++ bl s)) ∧ w.grownBy w' v.ownBlock ∧ (v'.ownBlock = none ∨ v'.ownBlock = v.ownBlock ∨ v'.ownBlock = some w.heap.size) := by
  obtain ⟨i, hi, hz0, hz1, hz2⟩ := info_parts info5
  obtain ⟨v', w', hr, ho, hg, hnil⟩ := Lib.run_append_own_string (P := Try.prog) w B 55 9 55 5 i Try.underlying55 Try.underlying9 hi hz0 hz1 hz2 v n (bcells l) h s (by unfold maxLen; omega) (by omega) hB
  refine ⟨v', w', hr, by rw [bcells_append, ← strCells_eq]; exact ho, hg, ?_⟩
  rcases h.2 with ⟨rfl, rfl⟩ | ⟨g, cap, cur, rfl, _, hg', hnc, hcm, hcs, _⟩
  · by_cases h0 : s.size = 0
    · have := (hnil).2 ⟨rfl, h0⟩
      rw [this]; exact .inl rfl
    · have hr2 := run_append_nil_string (P := Try.prog) w 55 9 55 5 i (.int .u8 0) Try.underlying55 Try.underlying9 hi hz0 s (by omega) (by omega) (by rw [hz2]; omega)
      rw [hr] at hr2
      injection hr2 with e1 _
      rw [e1]; exact .inr (.inr rfl)
  · by_cases hroom : n + s.size ≤ cap
    · have hr2 := Lib.run_append_room_string (P := Try.prog) w 55 9 55 5 i Try.underlying55 Try.underlying9 hi hz1 g n cap cur hg' s hroom (by omega)
      rw [hr] at hr2
      injection hr2 with e1 _
      rw [e1]; exact .inr (.inl rfl)
    · have holds : ∀ j u, (bcells l)[j]? = some u → w.cell? ((⟨g, 0, none⟩ : Addr).add j) = some u := h.cells (g := g) rfl
      have hr2 := Lib.run_append_grow_string (P := Try.prog) w 55 9 55 5 i (.int .u8 0) Try.underlying55 Try.underlying9 hi hz0 ⟨g, 0, none⟩ n cap (bcells l) (by rw [hz1]; exact h.1) holds s (by omega) (by omega) (by rw [hz2]; exact growslice_fits (by omega) (by omega))
      rw [hr] at hr2
      injection hr2 with e1 _
      rw [e1]; exact .inr (.inr rfl)
end Go.Proofs.Ytejmoaloomnmkaa
