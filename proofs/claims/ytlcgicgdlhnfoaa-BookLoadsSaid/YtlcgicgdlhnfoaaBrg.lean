/-
  BookLoads: the document's End 36; the state of its Load 21.
-/
import Derived.Test.YtlcgicgdlhnfoaaBdl
import Derived.Test.YtlcgicgdlhnfoaaBel
namespace Go.Proofs.Ytlcgicgdlhnfoaa
open Go.RowKit
theorem rend_any (s : ByteArray) (e : Int) (w : World) : Calls Try.prog 36 #[.agg #[.string s, .int .i64 e]] w fun r w' => r = .returned (.int .i64 (Bt.endE s e)) ∧ Below w.heap.size w w' := by
  have b1 : Below w.heap.size w (w.alloc (.cells #[.string s, .int .i64 e] 75)) := BN1 _ _
  have z0 := (Bt.box_new w s e).c0
  have z1 := (Bt.box_new w s e).c1
  by_cases he : e = 0
  · subst he
    by_cases hs : s.size = 0
    · have e0 : s = ⟨#[]⟩ := by
        apply ByteArray.ext
        exact Array.eq_empty_of_size_eq_zero hs
      subst e0
      go_enter Try.func36, Try.ntmps36
      go_wp2_with fail
      go_ret
      exact ⟨rfl, b1⟩
    · have hne : s.toList.isEmpty = false := by
        rw [Lib.toList_data, Bt.head_drop s (by omega)]; rfl
      have hne2 : (!s.toList.isEmpty) = true := by rw [hne]; rfl
      go_enter Try.func36, Try.ntmps36
      go_wp2_with fail
      go_ret
      exact ⟨Bt.ret_i64 (by unfold Bt.endE; rw [if_neg (by simp), if_neg hs]), b1⟩
  · have hEb : (e == 0) = false := by simp [he]
    go_enter Try.func36, Try.ntmps36
    go_wp2_with fail
    go_ret
    exact ⟨Bt.ret_i64 (by unfold Bt.endE; rw [if_pos he]), b1⟩
/-- a number off a tape of the document -/
theorem rpn_any (t : Tp) (hs : t.1.size ≤ 281474976710656) (w : World) : Calls Try.prog 35 #[.agg #[.string t.1, .int .i64 t.2]] w fun r w' => r = .returned (.tuple #[.agg #[.string (pn t).2.1, .int .i64 (pn t).2.2], .int .u64 ((pn t).1 : Int)]) ∧ Below w.heap.size w w' := Bt.rnumT_any t.1 t.2 hs w
/-- the document's Load, between two matches: its result, its tape, its book -/
structure Lst (w wr : World) (b6 b8 B : Nat) (base : Int) (t : Tp) (v : Value) (ms : List Mv) : Prop where
  r : Blk wr w.heap.size 27 #[.int .i64 0, .slice none 0 0]
  x : Bt.BoxAt wr b6 t.1 t.2
  y : Blk wr b8 27 #[.int .i64 base, v]
  o : OwnR wr B v ms
  f : Below w.heap.size w wr
  g : B ≤ wr.heap.size
  h : w.heap.size < b6 ∧ b6 < b8 ∧ b8 < B
section
variable {w wr w' : World} {b6 b8 B : Nat} {base : Int} {t : Tp} {v : Value} {ms : List Mv}
theorem box_fr {b : Nat} {s : ByteArray} {e : Int} {P : Nat → Prop} (h : Bt.BoxAt wr b s e) (f : Fr wr w' P) (hP : ¬ P b) : Bt.BoxAt w' b s e := (f.block b h.lt hP).trans h
theorem OwnR.next (h : OwnR wr B v ms) (b : Below wr.heap.size wr w') : OwnR w' B v ms := h.fr (Fr.of_below b (fun _ => False)) (fun _ _ h => h)
theorem Lst.next (h : Lst w wr b6 b8 B base t v ms) (b : Below wr.heap.size wr w') : Lst w w' b6 b8 B base t v ms :=
  ⟨h.r.next b, h.x.next b, h.y.next b, h.o.next b, h.f.trans (b.mono h.f.size), Nat.le_trans h.g b.size, h.h⟩
/-- another tape is laid in -/
theorem Lst.tape (h : Lst w wr b6 b8 B base t v ms) (s' : ByteArray) (e' : Int) : Lst w ((wr.setCell ⟨b6, 0, none⟩ (.string s')).setCell ⟨b6, 1, none⟩ (.int .i64 e')) b6 b8 B base (s', e') v ms := by
  have f : Fr wr ((wr.setCell ⟨b6, 0, none⟩ (.string s')).setCell ⟨b6, 1, none⟩ (.int .i64 e')) (fun q => q = b6) := ((Fr.refl wr (fun q => q = b6)).set b6 0 _ (.inl rfl)).set b6 1 _ (.inl rfl)
  have hh := h.h
  exact ⟨h.r.fr f (by omega), h.x.set, h.y.fr f (by omega), h.o.fr f (fun q hq e => by omega), h.f.trans (f.below (fun q e => by omega) h.f.size), Nat.le_trans h.g f.size, h.h⟩
/-- what the tape and what is new behind ws changes leaves the rest -/
theorem Lst.fr {t' : Tp} (h : Lst w wr b6 b8 B base t v ms) (f : Fr wr w' (fun q => q = b6)) (x : Bt.BoxAt w' b6 t'.1 t'.2) : Lst w w' b6 b8 B base t' v ms := by
  have hh := h.h
  exact ⟨h.r.fr f (by omega), x, h.y.fr f (by omega), h.o.fr f (fun q hq e => by omega), h.f.trans (f.below (fun q e => by omega) h.f.size), Nat.le_trans h.g f.size, h.h⟩
/-- a match is put behind the others -/
theorem Lst.row {w3 : World} {u v' : Value} {xs : List Int} (h : Lst w wr b6 b8 B base t v ms) (hu : OwnN wr B u xs)
    (hown : w3.ownsRow B 29 1 v' (ms.length + 1) (ms.map (·.1) ++ [u])) (hg : (wr.alloc (.cells #[u] 29)).grownBy w3 v.ownBlock) :
    Blk w3 b8 27 #[.int .i64 base, v] ∧ Lst w (w3.setCell ⟨b8, 1, none⟩ v') b6 b8 B base t v' (ms ++ [(u, xs)]) := by
  have hh := h.h
  have bA : Below wr.heap.size wr (wr.alloc (.cells #[u] 29)) := BN1 _ _
  have f3 : Fr wr w3 (fun q => v.ownBlock = some q) := (Fr.of_below bA _).on ((Fr.of_grown hg).mono (fun q _ e => e.symm))
  have hv : ∀ q, v.ownBlock = some q → B ≤ q := fun q hq => (own_ty h.o.1 q hq).1
  have fs := fr_set w3 b8 1 v'
  have f : Fr wr (w3.setCell ⟨b8, 1, none⟩ v') (fun q => q = b8 ∨ v.ownBlock = some q) := (f3.mono (fun q _ e => .inr e)).on (fs.mono (fun q _ e => .inl e))
  have y3 : Blk w3 b8 27 #[.int .i64 base, v] := h.y.fr f3 (fun e => by have := hv _ e; omega)
  have el : ∀ x : Value, ∀ ys, OwnN wr B x ys → OwnN (w3.setCell ⟨b8, 1, none⟩ v') B x ys := fun x ys hx => hx.fr f (fun q hq e => by
    obtain ⟨g1, c2, k2⟩ := own_ty hx q hq
    rcases e with e | e
    · omega
    · obtain ⟨_, c, k⟩ := own_ty h.o.1 q e
      exact absurd (k.ty k2) (by decide))
  refine ⟨y3, h.r.fr f (fun e => by rcases e with e | e; omega; have := hv _ e; omega), box_fr h.x f (fun e => by rcases e with e | e; omega; have := hv _ e; omega), y3.set 1 v', ⟨?_, fun z hz => ?_⟩, h.f.trans (f.below (fun q e => by rcases e with e | e; omega; have := hv _ e; omega) h.f.size), Nat.le_trans h.g f.size, h.h⟩
  · have := Fr.own hown fs (fun q hq e => by have := (own_ty hown q hq).1; omega)
    rw [List.map_append, List.length_append]
    exact this
  · rcases List.mem_append.1 hz with hz | hz
    · exact el _ _ (h.o.2 z hz)
    · rw [List.mem_singleton.1 hz]
      exact el _ _ hu
end
end Go.Proofs.Ytlcgicgdlhnfoaa
