/-
  THE WALK OF THE DOCUMENT'S OWN Num (auspiceref01): the bytes are appended one by one to a slice of its own.
-/
import Derived.Test.YtkdaifcnlobhkaaBNum
import Derived.Laws.AppendOwn
import Derived.Laws.OwnMore
import Derived.OwnWalk
import Derived.Lib.SmallJoins
namespace Go.Proofs.Ytkdaifcnlobhkaa.Bt
open Go.RowKit

theorem info5 : (Try.prog.info? 5).map (fun i => (i.zero, i.size, i.bytes)) = some (some (.int .u8 0), 1, 1) := by kernel_rfl
/-- a slice of bytes that the call owns, from block B on -/
def Bytes (w : World) (B : Nat) (v : Value) (xs : List Int) : Prop := w.ownsRow B 5 1 v xs.length (xs.map (Value.int .u8))

theorem Bytes.lit (w : World) (B : Nat) (hb : B ≤ w.heap.size) (xs : List Int) (hm : xs.length ≤ maxLen) :
    Bytes (w.alloc (.cells (xs.map (Value.int .u8)).toArray 5)) B (.slice (some ⟨w.heap.size, 0, none⟩) xs.length xs.length) xs := by
  have h := World.ownsRow_lit (base := B) (e := 5) (size := 1) w (xs.map (Value.int .u8)).toArray xs.length hb hm (by simp)
  simpa [Bytes] using h

theorem Bytes.drew {w : World} {B : Nat} {v : Value} {xs : List Int} (h : Bytes w B v xs) : Bytes w.drew B v xs := h

theorem append_byte {ops : Array Oper} {rest : List Oper} {o : Oper} {a : Act} {Q : Exit → Act → World → Prop} (W : World) (hgd : o.guard = none) (s x : Operand)
    (ho : o.op = .call { callee := .builtin .append, args := #[s, x], argTypes := #[133, 133] })
    (B : Nat) (v : Value) (xs : List Int) (hs : a.eval s = v) (hown : Bytes W B v xs) (c : Int)
    (hx : a.eval x = .slice (some ⟨W.heap.size, 0, none⟩) 1 1) (hlen : xs.length + 1 ≤ 140737488355328) (hB : B ≤ W.heap.size)
    (h : ∀ v' w', Bytes w' B v' (xs ++ [c]) → Below B W w' → wpList Try.prog ops Q rest (a.put o.dst v') w') :
    wpList Try.prog ops Q (o :: rest) a (W.alloc (.cells #[.int .u8 c] 5)) := by
  obtain ⟨i, hi, hz0, hz1, hz2⟩ := info_parts info5
  refine wpList_append_own _ hgd s x 133 ho B 5 i (.int .u8 0) 1 1 Try.underlying133 hi hz0 hz1 hz2 rfl (by decide) v xs.length (xs.map (Value.int .u8)) hs (hown.alloc _) ⟨W.heap.size, 0, none⟩ 1 1 [.int .u8 c] hx rfl ?_ ?_ ?_ ?_ ?_ ?_
  · exact cell_one_new _ _ _
  · intro u hu; simp at hu; subst hu; rfl
  · unfold maxLen; omega
  · omega
  · simp; omega
  · intro v' w' ho' hg _
    refine h v' w' ?_ ?_
    · simpa [Bytes] using ho'
    · refine (((Below.refl B W).alloc hB _).grown hg (by simp; omega) ?_)
      intro k hk
      obtain ⟨_, h2⟩ := hown
      rcases h2 with ⟨rfl, _⟩ | ⟨g, cap, cur, rfl, hg', _⟩
      · simp [Value.ownBlock] at hk
      · simp [Value.ownBlock] at hk; omega


theorem conv_own {W : World} {B : Nat} {v : Value} {xs : List Int} (h : Bytes W B v xs) : (convert 133 9 v).run Try.prog W = .ok (.string (strOfNums xs)) W := by
  rcases Joins.ownsRow_forms h with ⟨rfl, hn⟩ | ⟨g, cap, rfl⟩
  · rw [run_convert_bytes_nil (P := Try.prog) W 133 5 Try.underlying133 Try.underlying5 0 0 9 Try.underlying9]
    rw [List.eq_nil_of_length_eq_zero hn]; rfl
  · refine run_convert_bytes_arg (P := Try.prog) W 133 5 Try.underlying133 Try.underlying5 g 0 xs.length cap xs rfl ?_ 9 Try.underlying9
    intro i hi
    have e := World.ownsRow.cellAt h i (by omega)
    rw [Nat.zero_add, e]
    simp [List.getD, List.getElem?_eq_getElem hi]



theorem ret_nums {a b : List Int} {e : Ending} (h : a = b) (he : e = .returned (.string (strOfNums a))) : e = .returned (.string (strOfNums b)) := by rw [he, h]
end Go.Proofs.Ytkdaifcnlobhkaa.Bt
