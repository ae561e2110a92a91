/-
  THE WALK OF crc.All: packs are cut off till none stands at the front.
-/
import Derived.Test.YtpnkdpmhphhenabSame
import Derived.Laws.AppendOwn
import Derived.Laws.OwnMore
import Derived.OwnWalk
import Derived.Lib.SmallJoins
namespace Go.Proofs.Ytpnkdpmhphhenab
open Go.RowKit Go.Sort
theorem info9 : (Try.prog.info? 9).map (fun i => (i.zero, i.size, i.bytes)) = some (some (.string ⟨#[]⟩), 1, 16) := by kernel_rfl
/-- a slice of texts that the call owns, from block B on -/
def Own (w : World) (B : Nat) (v : Value) (xs : List ByteArray) : Prop := w.ownsRow B 9 1 v xs.length (xs.map Value.string)
theorem Own.nil (w : World) (B : Nat) : Own w B (.slice none 0 0) [] := World.ownsRow_nil _ _ _ _
theorem append_str {ops : Array Oper} {rest : List Oper} {o : Oper} {a : Act} {Q : Exit → Act → World → Prop} (W : World) (hgd : o.guard = none) (s x : Operand)
    (ho : o.op = .call { callee := .builtin .append, args := #[s, x], argTypes := #[35, 35] })
    (B : Nat) (v : Value) (xs : List ByteArray) (hs : a.eval s = v) (hown : Own W B v xs) (c : ByteArray)
    (hx : a.eval x = .slice (some ⟨W.heap.size, 0, none⟩) 1 1) (hlen : (xs.length + 1) * 16 ≤ 140737488355328) (hB : B ≤ W.heap.size)
    (h : ∀ v' w', Own w' B v' (xs ++ [c]) → Below B W w' → wpList Try.prog ops Q rest (a.put o.dst v') w') :
    wpList Try.prog ops Q (o :: rest) a (W.alloc (.cells #[.string c] 9)) := by
  obtain ⟨i, hi, hz0, hz1, hz2⟩ := info_parts info9
  refine wpList_append_own _ hgd s x 35 ho B 9 i (.string ⟨#[]⟩) 1 16 Try.underlying35 hi hz0 hz1 hz2 rfl (by decide) v xs.length (xs.map Value.string) hs (hown.alloc _) ⟨W.heap.size, 0, none⟩ 1 1 [.string c] hx rfl ?_ ?_ ?_ ?_ ?_ ?_
  · exact cell_one_new _ _ _
  · intro u hu; simp at hu; subst hu; rfl
  · unfold maxLen; omega
  · omega
  · simp; omega
  · intro v' w' ho' hg _
    refine h v' w' ?_ ?_
    · simpa [Own] using ho'
    · refine (((Below.refl B W).alloc hB _).grown hg (by simp; omega) ?_)
      intro k hk
      obtain ⟨_, h2⟩ := hown
      rcases h2 with ⟨rfl, _⟩ | ⟨g, cap, cur, rfl, hg', _⟩
      · simp [Value.ownBlock] at hk
      · simp [Value.ownBlock] at hk; omega
/-- what is owned can be read -/
theorem Own.strs {w : World} {B : Nat} {v : Value} {xs : List ByteArray} (h : Own w B v xs) : ∃ a c, v = .slice a xs.length c ∧ Strs w a xs := by
  rcases Joins.ownsRow_forms h with ⟨rfl, hn⟩ | ⟨g, cap, rfl⟩
  · exact ⟨none, 0, by rw [hn], fun i hi => by omega⟩
  · refine ⟨some ⟨g, 0, none⟩, cap, rfl, fun i hi => ⟨g, 0, rfl, ?_, ?_⟩⟩
    · obtain ⟨_, h2⟩ := h
      rcases h2 with ⟨h3, _⟩ | ⟨g', cap', cur, h3, _, hh, _⟩
      · simp at h3
      · simp only [Value.slice.injEq, Option.some.injEq, Addr.mk.injEq, and_true] at h3
        obtain ⟨rfl, _⟩ := h3
        rcases Nat.lt_or_ge g w.heap.size with h' | h'
        · exact h'
        · rw [Array.getElem?_eq_none h'] at hh; simp at hh
    · have e := World.ownsRow.cellAt h i (by omega)
      rw [Nat.zero_add, e]
      simp [List.getElem?_eq_getElem hi]
theorem Own.below {w w' : World} {B : Nat} {v : Value} {xs : List ByteArray} (h : Own w B v xs) (hb : Below w.heap.size w w') : Own w' B v xs := by
  refine World.ownsRow.kept (row := none) h ⟨hb.os, hb.tape, hb.output, hb.size, fun k hk _ => hb.block k hk⟩ ?_
  cases v.ownBlock <;> simp
/-- all packs from the front on -/
def alls : Nat → ByteArray → List ByteArray × ByteArray
  | 0, s => ([], s)
  | k + 1, s => if (unp s).2.2 ≠ 0 then ([], s) else ((unp s).1 :: (alls k (unp s).2.1).1, (alls k (unp s).2.1).2)
def allS (s : ByteArray) : List ByteArray × ByteArray := alls (s.size + 1) s
theorem unp_less (s : ByteArray) (h : (unp s).2.2 = 0) : (unp s).2.1.size + 7 ≤ s.size := by
  unfold unp at h ⊢
  split at h
  · simp at h
  · split at h
    · simp at h
    · split at h
      · simp at h
      · split at h
        · simp at h
        · rename_i h1 h2 h3 h4
          rw [if_neg h1, if_neg h2, if_neg h3, if_neg h4]
          simp; omega
theorem alls_end (k : Nat) (s : ByteArray) (h : (unp s).2.2 ≠ 0) : alls k s = ([], s) := by
  cases k with
  | zero => rfl
  | succ k => simp only [alls]; rw [if_pos h]
theorem alls_step (k : Nat) (s : ByteArray) (h : (unp s).2.2 = 0) : alls (k + 1) s = ((unp s).1 :: (alls k (unp s).2.1).1, (alls k (unp s).2.1).2) := by
  simp only [alls]; rw [if_neg (by simpa using h)]
/-- where a loop over the packs of s stands: it has found xs, t is left -/
structure At (s : ByteArray) (xs : List ByteArray) (t : ByteArray) : Prop where
  less : 7 * xs.length + t.size ≤ s.size
  rest : allS s = (xs ++ (alls (s.size + 1 - xs.length) t).1, (alls (s.size + 1 - xs.length) t).2)
theorem At.start (s : ByteArray) : At s [] s := ⟨by simp, by simp [allS]⟩
theorem At.next {s t : ByteArray} {xs : List ByteArray} (h : At s xs t) (ht : (unp t).2.2 = 0) : At s (xs ++ [(unp t).1]) (unp t).2.1 := by
  have hl := unp_less t ht
  have h1 := h.less
  refine ⟨by simp; omega, ?_⟩
  rw [h.rest, show s.size + 1 - xs.length = (s.size - xs.length) + 1 by omega, alls_step _ _ ht]
  simp only [List.append_assoc, List.cons_append, List.nil_append, List.length_append, List.length_singleton]
  rw [show s.size + 1 - (xs.length + 1) = s.size - xs.length by omega]
theorem At.stop {s t : ByteArray} {xs : List ByteArray} (h : At s xs t) (ht : (unp t).2.2 ≠ 0) : allS s = (xs, t) := by
  rw [h.rest, alls_end _ _ ht]; simp
theorem At.small {s t : ByteArray} {xs : List ByteArray} (h : At s xs t) : t.size ≤ s.size ∧ xs.length ≤ s.size := by have := h.less; omega
/-- the length of a text in a slot -/
def strLen : Value → Nat
  | .string s => s.size
  | _ => 0
set_option maxHeartbeats 1000000 in
theorem all_any (s : ByteArray) (hs : s.size ≤ 1048576) (w : World) :
    Calls Try.prog 15 #[.string s] w fun e w' => ∃ v, e = .returned (.tuple #[v, .string (allS s).2]) ∧ Own w' w.heap.size v (allS s).1 ∧ Below w.heap.size w w' := by
  go_enter Try.func15, Try.ntmps15
  go_wp2_with fail
  go_loopw [2, 0] (fun v t wr => ∃ (xs : List ByteArray) (u : ByteArray), t = .string u ∧ At s xs u ∧ Own wr w.heap.size v xs ∧ Below w.heap.size w wr) (fun _ t _ => strLen t)
  case atStart => exact ⟨[], s, rfl, At.start s, Own.nil _ _, Below.refl _ _⟩
  case round =>
    obtain ⟨xs, u, rfl, hat, hown, hb⟩ := hrel
    have hsm := hat.small
    have hu : u.size ≤ 281474976710656 := by omega
    have hcut := Lib.hid (cut_any u hu wr)
    have hle := unp_le u
    rcases hx : unp u with ⟨a, b, e⟩
    rw [hx] at hcut hle
    have hlen : (xs.length + 1) * 16 ≤ 140737488355328 := by omega
    by_cases he : e = 0
    · subst he
      have hnx := hat.next (by rw [hx])
      have hls := unp_less u (by rw [hx])
      rw [hx] at hnx hls
      clear hx
      have la : a.size ≤ 281474976710656 := Nat.le_trans hle.1 hu
      go_wp2_with fail
      refine hcut.out.mono ?_
      rintro r w1 ⟨rfl, b1⟩
      unfold unpV
      go_wp2_with fail
      refine (clone_any _ _ la).mono ?_
      rintro r w2 ⟨rfl, b2⟩
      have o1 := (hown.below b1).below b2
      have s0 := hb.size
      have s1 := b1.size
      have s2 := b2.size
      have hB : w.heap.size ≤ w2.heap.size := by omega
      have b3 : Below w.heap.size w w2 := (hb.trans (b1.mono s0)).trans (b2.mono (by omega))
      go_wp2_with (at_builtin; refine append_str _ rfl _ _ rfl w.heap.size _ _ rfl o1 _ rfl hlen hB ?_; intro v3 w3 o3 b4)
      go_roundw
      case rel => exact ⟨xs ++ [a], b, rfl, hnx, o3, b3.trans b4⟩
      case measure => simp only [strLen]; omega
    · have hst := hat.stop (by rw [hx]; exact he)
      clear hx
      have hEb : (e != 0) = true := by simp [he]
      have Hst := Lib.hid hst
      clear hst
      go_wp2_with fail
      refine hcut.out.mono ?_
      rintro r w1 ⟨rfl, b1⟩
      unfold unpV
      go_wp2_with fail
      refine (clone_any _ _ hu).mono ?_
      rintro r w2 ⟨rfl, b2⟩
      have o1 := (hown.below b1).below b2
      have s0 := hb.size
      have s1 := b1.size
      go_wp2_with fail
      go_ret2
      exact ⟨_, by rw [Hst.out]; rfl, by rw [Hst.out]; exact o1, (hb.trans (b1.mono s0)).trans (b2.mono (by omega))⟩
end Go.Proofs.Ytpnkdpmhphhenab
