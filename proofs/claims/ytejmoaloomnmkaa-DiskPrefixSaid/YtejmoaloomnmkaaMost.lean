/-
  THE ACTS THAT ARE LOOKED AT: most.
-/
import Derived.Test.YtejmoaloomnmkaaOpen
import Derived.Test.YtejmoaloomnmkaaNil
namespace Go.Proofs.Ytejmoaloomnmkaa
open Go.RowKit
def encA (x : Act) : List Value := [.int .i64 x.kd, .string x.nm, .int .i64 x.n, .int .i64 x.k, .string x.s]
def cellsA (l : List Act) : List Value := l.flatMap encA
theorem cellsA_one (l : List Act) (x : Act) : cellsA (l ++ [x]) = cellsA l ++ encA x := by unfold cellsA; rw [List.flatMap_append]; simp
theorem cellsA_get : ∀ {l : List Act} {k : Nat} (h : k < l.length) (j : Nat), j < 5 → (cellsA l)[k * 5 + j]? = (encA l[k])[j]?
  | x :: l, 0, _, j, hj => by
    show (encA x ++ cellsA l)[0 * 5 + j]? = _
    rw [Nat.zero_mul, Nat.zero_add, List.getElem?_append_left (show j < (encA x).length from hj)]; rfl
  | x :: l, k + 1, h, j, hj => by
    have ih := cellsA_get (l := l) (k := k) (by simpa using h) j hj
    show (encA x ++ cellsA l)[(k + 1) * 5 + j]? = _
    have e : (encA x).length = 5 := rfl
    rw [List.getElem?_append_right (by omega), e, show (k + 1) * 5 + j - 5 = k * 5 + j by omega]
    exact ih
theorem acts_own {w : World} {B g cap n : Nat} {l : List Act} (hn : n = l.length) (h : w.ownsRow B 31 5 (.slice (some ⟨g, 0, none⟩) n cap) n (cellsA l)) : Acts w (some ⟨g, 0, none⟩) l := fun p hp => by
  have hg : g < w.heap.size := (World.ownsRow.lt h g rfl).2
  subst hn
  refine ⟨g, 0, rfl, hg, ?_, ?_, ?_, ?_, ?_⟩
  · have := cellsA_get hp 0 (by decide); rw [Nat.zero_add, World.ownsRow.cellAt h _ (by omega)]; simpa [encA] using this
  · have := cellsA_get hp 1 (by decide); rw [Nat.zero_add, World.ownsRow.cellAt h _ (by omega)]; simpa [encA] using this
  · have := cellsA_get hp 2 (by decide); rw [Nat.zero_add, World.ownsRow.cellAt h _ (by omega)]; simpa [encA] using this
  · have := cellsA_get hp 3 (by decide); rw [Nat.zero_add, World.ownsRow.cellAt h _ (by omega)]; simpa [encA] using this
  · have := cellsA_get hp 4 (by decide); rw [Nat.zero_add, World.ownsRow.cellAt h _ (by omega)]; simpa [encA] using this
theorem info31 : (Try.prog.info? 31).map (fun i => (i.zero, i.size, i.bytes)) = some (some (.agg #[.int .i64 0, .string ⟨#[]⟩, .int .i64 0, .int .i64 0, .string ⟨#[]⟩]), 5, 56) := by kernel_rfl
theorem act_form {w : World} {B : Nat} {v : Value} {n : Nat} {xs : List Value} (h : w.ownsRow B 31 5 v n xs) : ∃ a c, v = .slice a n c := by
  rcases h.2 with ⟨rfl, e⟩ | ⟨g, cap, cur, rfl, _⟩
  · exact ⟨none, 0, by rw [e]⟩
  · exact ⟨_, _, rfl⟩
def Mosted (w : World) (L : List Act) (e : Ending) (w' : World) : Prop := ∃ a c M, e = .returned (.slice a (List.length M) c) ∧ Acts w' a M ∧ M.length ≤ 60 ∧ (∀ x ∈ M, x ∈ L ∧ x.s.size ≤ 3000) ∧ Below w.heap.size w w' ∧ ∀ ad : Addr, a = some ad → w.heap.size ≤ ad.block
set_option maxHeartbeats 2000000 in
set_option maxRecDepth 100000 in
theorem most_any (a : Option Addr) (c : Nat) (L : List Act) (w : World) (hl : L.length ≤ 9223372036854775807) (hx : Acts w a L) (hwf : ∀ x ∈ L, x.Wf) :
    Calls Try.prog 11 #[.slice a L.length c] w (Mosted w L) := by
  have HX := Lib.hid hx
  have HW := Lib.hid hwf
  clear hx hwf
  generalize hn : L.length = n at *
  have HN := Lib.hid hn
  clear hn
  obtain ⟨i31, hi, hz0, hz1, hz2⟩ := info_parts info31
  go_enter Try.func11, Try.ntmps11
  go_wp2_with fail
  go_loopw [3, 4] (fun u i wq => ∃ (k : Nat) (M : List Act), i = .int .i64 k ∧ k ≤ n ∧ M.length ≤ 60 ∧ (∀ x ∈ M, x ∈ L ∧ x.s.size ≤ 3000) ∧ wq.ownsRow w.heap.size 31 5 u M.length (cellsA M) ∧ Below w.heap.size w wq) (fun _ i _ => n - (intOf i).toNat)
  case atStart => exact ⟨0, [], rfl, Nat.zero_le _, Nat.zero_le _, fun x hx => by simp at hx, World.ownsRow_nil _ _ _ _, Below.refl _ _⟩
  case round =>
    obtain ⟨k, M, rfl, hk, hM, hin, hO, hB⟩ := hrel
    obtain ⟨va, vc, hv⟩ := act_form hO
    subst hv
    have HO := Lib.hid hO
    have HB := Lib.hid hB
    have HIN := Lib.hid hin
    clear hO hB hin
    have FIN : Hid (Mosted w L (.returned (.slice va M.length vc)) wr) := Lib.hid (by
      refine ⟨va, vc, M, rfl, ?_, hM, HIN.out, HB.out, ?_⟩
      · rcases HO.out.2 with ⟨e, e0⟩ | ⟨g, cap, cur, e, _⟩
        · intro p hp; omega
        · cases e
          exact acts_own rfl HO.out
      · rcases HO.out.2 with ⟨e, e0⟩ | ⟨g, cap, cur, e, _⟩
        · simp only [Value.slice.injEq] at e
          intro ad h
          rw [e.1] at h
          cases h
        · cases e
          intro ad h
          cases h
          exact (World.ownsRow.lt HO.out g rfl).1)
    generalize hm : M.length = m at *
    by_cases hkn : k < n
    · have hkL : k < L.length := by rw [HN.out]; exact hkn
      by_cases hm60 : m < 60
      · obtain ⟨ba, o, rfl, hbl, c0, c1, c2, c3, c4⟩ := HX.out k hkL
        rw [← HB.out.cell (p := ⟨ba, _, none⟩) hbl] at c0 c1 c2 c3 c4
        have hxw := HW.out L[k] (List.getElem_mem hkL)
        have HXL := Lib.hid (show L[k] ∈ L from List.getElem_mem hkL)
        generalize L[k] = x at *
        obtain ⟨xk, xn, xa, xb, xs⟩ := x
        have hs := hxw.s
        simp only at c0 c1 c2 c3 c4 hs
        clear hxw
        by_cases h3 : (xs.size : Int) ≤ 3000
        · have H1C : Hid (∀ u ∈ [Value.int .i64 xk, .string xn, .int .i64 xa, .int .i64 xb, .string xs], u.oneCell' = true) := Lib.hid (by
            intro u hu
            simp at hu
            rcases hu with rfl | rfl | rfl | rfl | rfl <;> rfl)
          go_wp2_with (at_builtin; refine wpList_append_lies _ rfl (.tmp 23) (.tmp 28) 22 rfl w.heap.size 31 i31 (.agg #[.int .i64 0, .string ⟨#[]⟩, .int .i64 0, .int .i64 0, .string ⟨#[]⟩]) 5 56 Try.underlying22 hi hz0 hz1 hz2 rfl (by decide) (.slice va m vc) m (cellsA M) rfl (World.ownsRow.alloc HO.out _) ⟨wr.heap.size, 0, none⟩ 1 1 [.int .i64 xk, .string xn, .int .i64 xa, .int .i64 xb, .string xs] rfl rfl (World.news_of_block (cs := #[.int .i64 xk, .string xn, .int .i64 xa, .int .i64 xb, .string xs]) (heap_alloc_new wr _)) H1C.out (by decide) (by unfold maxLen; omega) (by omega) (by have := HB.out.size; simp; omega) _ rfl ?_; intro g4 cap w4 ho4 hg4 _ _)
          have B4 : Hid (Below w.heap.size w w4) := Lib.hid (by
            have b3 := HB.out.alloc HB.out.size (Obj.cells #[.int .i64 xk, .string xn, .int .i64 xa, .int .i64 xb, .string xs] 31)
            exact b3.trans ⟨hg4.os, hg4.tape, hg4.output, hg4.size, fun q hq => hg4.block q (Nat.lt_of_lt_of_le hq b3.size) (fun e => by have := (HO.out.lt q e.symm).1; omega)⟩)
          have O4 : Hid (w4.ownsRow w.heap.size 31 5 (.slice (some ⟨g4, 0, none⟩) (m + 1) cap) (M ++ [(⟨xk, xn, xa, xb, xs⟩ : Act)]).length (cellsA (M ++ [(⟨xk, xn, xa, xb, xs⟩ : Act)]))) := Lib.hid (by rw [cellsA_one, List.length_append, hm]; exact ho4)
          have I4 : Hid (∀ x ∈ M ++ [(⟨xk, xn, xa, xb, xs⟩ : Act)], x ∈ L ∧ x.s.size ≤ 3000) := Lib.hid (fun x hx => by
            rcases List.mem_append.1 hx with hx | hx
            · exact HIN.out x hx
            · obtain rfl := List.mem_singleton.1 hx
              exact ⟨HXL.out, by simp only; omega⟩)
          clear ho4 hg4 c0 c1 c2 c3 c4 HO FIN
          go_wp2_with fail
          go_roundw
          case rel => exact ⟨k + 1, M ++ [⟨xk, xn, xa, xb, xs⟩], by go_num, by omega, by rw [List.length_append, hm]; simp; omega, I4.out, O4.out, B4.out⟩
          case measure => simp [intOf]; omega
        · clear FIN
          go_wp2_with fail
          go_roundw
          case rel => exact ⟨k + 1, M, by go_num, by omega, by omega, HIN.out, by rw [hm]; exact HO.out, HB.out⟩
          case measure => simp [intOf]; omega
      · go_wp2_with fail
        go_ret
        exact FIN.out
    · have hkn' : (n : Int) ≤ k := by omega
      go_wp2_with fail
      go_ret
      exact FIN.out
end Go.Proofs.Ytejmoaloomnmkaa
