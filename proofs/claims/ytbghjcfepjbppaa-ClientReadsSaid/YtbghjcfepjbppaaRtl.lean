/-
  A READER IS TOLD: Told; Late.
-/
import Derived.Test.YtbghjcfepjbppaaRtk
namespace Go.Proofs.Ytbghjcfepjbppaa
open Go.RowKit
section
variable {w : World} {U : Nat → Prop} {t : Nat} {nodes to : Int} {nm : ByteArray} {most at_ gone : Int} {LG : List (Int × List Int)}
theorem rch_put {w' : World} {to' at' gone' : Int} (h : RdM w U t nodes to nm most at_ gone LG) (k : ∀ gv, Blk w t 119 (rdr nodes to nm most at_ gone gv) → Blk w' t 119 (rdr nodes to' nm most at' gone' gv)) (f : Fr w w' (fun q => q = t)) : Rch w U t nodes to' nm most at' gone' LG w' := by
  obtain ⟨gv, cs, A⟩ := h
  exact ⟨U, ⟨gv, cs, A.put (k gv A.blk) f⟩, f.mono (fun q _ e => by subst e; exact A.ut), fun q hq => .inl hq⟩
theorem rlate_ch (h : RdM w U t nodes to nm most at_ gone LG) (ht : 0 ≤ to ∧ to ≤ 100) (hn : nodes ≤ 100) :
    Calls Try.prog 22 #[.pointer (some ⟨t, 0, none⟩)] w fun e w' => e = .returned (.tuple #[]) ∧ Rch w U t nodes (nextN to nodes) nm most at_ gone LG w' := by
  obtain ⟨gv, cs, A⟩ := h
  exact (rlate_any A.blk ht hn).mono fun e w' ⟨he, T, f⟩ => ⟨he, U, ⟨gv, cs, A.put T f⟩, f.mono (fun q _ e => by subst e; exact A.ut), fun q hq => .inl hq⟩
set_option maxHeartbeats 2000000 in
set_option maxRecDepth 100000 in
theorem told_take {a : Option Addr} {LL : List (List Int)} (c : Nat) (n : Int)
    (h : RdM w U t nodes to nm most at_ gone LG) (RW : ∀ w', Fr w w' U → Bk.Rws w' a LL) (hS : Small LL) (hl : LL.length ≤ 20) (hg : LG.length ≤ 5000) (ha : 0 ≤ at_) (hn : n ≤ 9223372036854775807) (h1 : n - at_ = (LL.length : Int)) :
    Calls Try.prog 21 #[.pointer (some ⟨t, 0, none⟩), .slice a LL.length c, .int .i64 n, .int .i64 0] w fun e w' => e = .returned (.tuple #[]) ∧ Rch w U t nodes to nm most n gone (LG ++ numb at_ LL) w' := by
  have TK := Lib.hid (take_any c h RW hS hl hg ⟨ha, by omega⟩)
  rw [show at_ + (LL.length : Int) = n by omega] at TK
  obtain ⟨gv, cs, A⟩ := h
  have AH := Lib.hid (ahead_any A.blk n ha hn)
  rw [show aheadN at_ n = (LL.length : Int) by unfold aheadN; rw [if_neg (by omega)]; exact h1] at AH
  clear A RW hS
  generalize Rch w U t nodes to nm most n gone (LG ++ numb at_ LL) = Q at *
  generalize LL.length = m at *
  go_enter Try.func21, Try.ntmps21
  go_wp2_with fail
  refine AH.out.mono ?_
  rintro e w1 ⟨rfl, rfl⟩
  go_wp2_with fail
  refine TK.out.mono ?_
  rintro e w2 ⟨rfl, q2⟩
  have q2 := Lib.hid q2
  go_wp2_with fail
  go_end0
  exact ⟨rfl, q2.out⟩
set_option maxHeartbeats 2000000 in
set_option maxRecDepth 100000 in
theorem told_gone {a : Option Addr} {m : Nat} (c : Nat) (n : Int) (h : RdM w U t nodes to nm most at_ gone LG) (ha : 0 ≤ at_ ∧ 0 ≤ gone ∧ gone ≤ at_) (hn : n ≤ 9223372036854775807) (h1 : at_ < n) :
    Calls Try.prog 21 #[.pointer (some ⟨t, 0, none⟩), .slice a m c, .int .i64 n, .int .i64 180] w fun e w' => e = .returned (.tuple #[]) ∧ Rch w U t nodes to nm most n (gone + (n - at_)) LG w' := by
  have FIN := Lib.hid (fun (w' : World) => rch_put (w' := w') (to' := to) (at' := n) (gone' := gone + (n - at_)) h)
  obtain ⟨gv, cs, A⟩ := h
  have AH := Lib.hid (ahead_any A.blk n ha.1 hn)
  have AD := Lib.hid (ahead_any (w := w.drew) (show Blk w.drew t 119 _ from A.blk) n ha.1 hn)
  rw [show aheadN at_ n = n - at_ by unfold aheadN; rw [if_neg (by omega)]] at AH AD
  obtain ⟨ha0, ha1, ha2⟩ := ha
  have hp : decide (0 < n - at_) = true := by simp; omega
  have hw : wrap64 (gone + (n - at_)) = gone + (n - at_) := by unfold wrap64; omega
  have c5 : w.drew.cell? ⟨t, 5, none⟩ = some (.int .i64 gone) := A.blk.cell 5
  have c4 : w.drew.cell? ⟨t, 4, none⟩ = some (.int .i64 at_) := A.blk.cell 4
  have fz : ∀ i, w.drew.frozen? ⟨t, i, none⟩ = false := A.blk.free
  have fz0 : ∀ i, w.frozen? ⟨t, i, none⟩ = false := A.blk.free
  have c40 : w.cell? ⟨t, 4, none⟩ = some (.int .i64 at_) := A.blk.cell 4
  have F9 := Lib.hid (FIN.out ((w.drew.setCell ⟨t, 5, none⟩ (.int .i64 (gone + (n - at_)))).setCell ⟨t, 4, none⟩ (.int .i64 n)) (fun gv T => (show Blk w.drew t 119 _ from T).set 5 _ |>.set 4 _) (((fr_drew w (fun q => q = t)).set t 5 _ (.inl rfl)).set t 4 _ (.inl rfl)))
  clear A FIN
  generalize Rch w U t nodes to nm most n (gone + (n - at_)) LG = Q at *
  go_enter Try.func21, Try.ntmps21
  go_wp2_with fail
  refine AH.out.mono ?_
  rintro e w1 ⟨rfl, rfl⟩
  go_wp2_with fail
  go_region_law (go_simp; go_at_call 54; refine AD.out.mono ?_; rintro r9 v2 ⟨rfl, rfl⟩)
  all_goals (
    go_wp2_with fail
    go_end0
    exact ⟨rfl, F9.out⟩)
set_option maxHeartbeats 2000000 in
set_option maxRecDepth 100000 in
theorem told_next {a : Option Addr} {m : Nat} (c : Nat) (n e : Int) (h : RdM w U t nodes to nm most at_ gone LG) (ht : 0 ≤ to ∧ to ≤ 100) (hno : nodes ≤ 100) (ha : 0 ≤ at_) (hn : n ≤ 9223372036854775807)
    (h0 : e = 0 → ¬ (at_ ≤ n ∧ n - at_ = (m : Int))) (h1 : e = 180 → ¬ at_ < n) :
    Calls Try.prog 21 #[.pointer (some ⟨t, 0, none⟩), .slice a m c, .int .i64 n, .int .i64 e] w fun e w' => e = .returned (.tuple #[]) ∧ Rch w U t nodes (nextN to nodes) nm most at_ gone LG w' := by
  have FIN := Lib.hid (fun (w' : World) => rch_put (w' := w') (to' := nextN to nodes) (at' := at_) (gone' := gone) h)
  obtain ⟨gv, cs, A⟩ := h
  have AH := Lib.hid (ahead_any A.blk n ha hn)
  have NX := Lib.hid (next_any A.blk rfl rfl ht hno)
  have F9 := Lib.hid (fun (w1 : World) (T : Blk w1 t 119 (rdr nodes (nextN to nodes) nm most at_ gone gv)) (f : Fr w w1 (fun q => q = t)) => show Rch w U t nodes (nextN to nodes) nm most at_ gone LG w1 from ⟨U, ⟨gv, cs, A.put T f⟩, f.mono (fun q _ e => by subst e; exact A.ut), fun q hq => .inl hq⟩)
  clear A FIN
  by_cases he : e = 0
  · subst he
    have hq : (aheadN at_ n == (m : Int)) = false := by
      have := h0 rfl
      unfold aheadN
      rw [beq_eq_false_iff_ne]
      split <;> omega
    generalize aheadN at_ n = z at *
    clear h0 h1
    generalize Rch w U t nodes (nextN to nodes) nm most at_ gone LG = Q at *
    go_enter Try.func21, Try.ntmps21
    go_wp2_with fail
    refine AH.out.mono ?_
    rintro e w1 ⟨rfl, rfl⟩
    go_wp2_with fail
    refine NX.out.mono ?_
    rintro e w2 ⟨rfl, T2, f2⟩
    have q2 := Lib.hid (F9.out _ T2 f2)
    clear T2 f2
    go_wp2_with fail
    go_end0
    exact ⟨rfl, q2.out⟩
  · have he0 : (e == 0) = false := by rw [beq_eq_false_iff_ne]; exact he
    by_cases he1 : e = 180
    · subst he1
      have hq : decide (0 < aheadN at_ n) = false := by
        have := h1 rfl
        unfold aheadN
        rw [decide_eq_false_iff_not]
        split <;> omega
      generalize aheadN at_ n = z at *
      clear h0 h1 he he0
      generalize Rch w U t nodes (nextN to nodes) nm most at_ gone LG = Q at *
      go_enter Try.func21, Try.ntmps21
      go_wp2_with fail
      refine AH.out.mono ?_
      rintro e w1 ⟨rfl, rfl⟩
      go_wp2_with fail
      refine NX.out.mono ?_
      rintro e w2 ⟨rfl, T2, f2⟩
      have q2 := Lib.hid (F9.out _ T2 f2)
      clear T2 f2
      go_wp2_with fail
      go_end0
      exact ⟨rfl, q2.out⟩
    · have he2 : (e == 180) = false := by rw [beq_eq_false_iff_ne]; exact he1
      clear h0 h1 he he1
      generalize Rch w U t nodes (nextN to nodes) nm most at_ gone LG = Q at *
      go_enter Try.func21, Try.ntmps21
      go_wp2_with fail
      refine NX.out.mono ?_
      rintro e w2 ⟨rfl, T2, f2⟩
      have q2 := Lib.hid (F9.out _ T2 f2)
      clear T2 f2
      go_wp2_with fail
      go_end0
      exact ⟨rfl, q2.out⟩
end
end Go.Proofs.Ytbghjcfepjbppaa
