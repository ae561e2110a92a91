/-
  THE WALK OF Drop.
-/
import Derived.Test.YtkdaifcnlobhkaaAAwake
namespace Go.Proofs.Ytkdaifcnlobhkaa.Ag
open Go.RowKit
theorem clos_any (x : It) (id : Int) (c : Nat) (w : World) (hc : w.cell? ⟨c, 0, none⟩ = some (.int .i64 id)) :
    Calls Try.prog 49 #[agg x, .pointer (some ⟨c, 0, none⟩)] w fun e w' => e = .returned (.bool (x.i == id)) ∧ Below w.heap.size w w' := by
  have lt := World.block_lt_of_cell? _ _ hc
  simp only at lt
  unfold agg
  go_enter Try.func49, Try.ntmps49
  go_wp2_with fail
  go_ret
  exact ⟨rfl, (Below.refl _ _).alloc (Nat.le_refl _) _⟩
/-- the first place of a number -/
def Found (l : List It) (id : Int) (res : Int) : Prop := (res = -1 ∧ ∀ x ∈ l, x.i ≠ id) ∨ ∃ i : Nat, i < l.length ∧ res = i ∧ (at_ l i).i = id
def Founds (w : World) (l : List It) (id : Int) (e : Ending) (w' : World) : Prop := ∃ res, e = .returned (.int .i64 res) ∧ Found l id res ∧ Below w.heap.size w w'
set_option maxHeartbeats 1000000 in
theorem index_nil (id : Int) (a : Option Addr) (cap c : Nat) (w : World) : Calls Try.prog 48 #[.slice a 0 cap, .func (.func 49) #[] #[.pointer (some ⟨c, 0, none⟩)]] w (Founds w [] id) := by
  go_enter Try.func48, Try.ntmps48
  go_wp2_with fail
  go_rounds 1
  go_ret
  exact ⟨-1, rfl, .inl ⟨rfl, fun x hx => by simp at hx⟩, Below.refl _ _⟩
set_option maxHeartbeats 1000000 in
theorem index_any (B g cap c : Nat) (l : List It) (id : Int) (w : World) (h : RowG w B g cap l) (hsm : l.length ≤ 4097) (hc : w.cell? ⟨c, 0, none⟩ = some (.int .i64 id)) :
    Calls Try.prog 48 #[.slice (some ⟨g, 0, none⟩) l.length cap, .func (.func 49) #[] #[.pointer (some ⟨c, 0, none⟩)]] w (Founds w l id) := by
  have H := Lib.hid h
  have hcl := World.block_lt_of_cell? _ _ hc
  simp only at hcl
  have HC := Lib.hid hc
  clear h hc
  go_enter Try.func48, Try.ntmps48
  go_wp2_with fail
  go_loopw [8] (fun i wr => ∃ k : Nat, i = .int .i64 k ∧ k ≤ l.length ∧ Below w.heap.size w wr ∧ ∀ q, q < k → (at_ l q).i ≠ id) (fun i _ => l.length - (intOf i).toNat)
  case atStart => exact ⟨0, rfl, Nat.zero_le _, Below.refl _ _, fun q hq => by omega⟩
  case round =>
    obtain ⟨k, rfl, hk, hb, hq⟩ := hrel
    by_cases hlt : k < l.length
    · have hg : g < w.heap.size := (World.ownsRow.lt H.out g rfl).2
      obtain ⟨c1, c2, c3⟩ := H.out.cell hlt
      rw [← hb.cell (p := ⟨g, _, none⟩) hg] at c1 c2 c3
      have C := clos_any l[k] id c wr (by rw [hb.cell hcl]; exact HC.out)
      unfold agg at C
      have hx := Lib.hid (at_get hlt)
      have HQ := Lib.hid hq
      have HBB := Lib.hid hb
      clear hq hb
      generalize l[k] = x at *
      by_cases e : x.i = id
      · have e' : (x.i == id) = true := by simpa using e
        rw [e'] at C
        have FIN : Hid (∀ w', Below w.heap.size w w' → Founds w l id (.returned (.int .i64 k)) w') := Lib.hid (fun w' h => ⟨k, rfl, .inr ⟨k, hlt, rfl, by rw [hx.out]; exact e⟩, h⟩)
        clear e e'
        go_wp2_with fail
        refine C.mono ?_
        rintro r w1 ⟨rfl, b1⟩
        go_wp2_with fail
        go_ret
        exact FIN.out _ (HBB.out.trans (b1.mono HBB.out.size))
      · have e' : (x.i == id) = false := by simpa using e
        rw [e'] at C
        have HQ2 : Hid (∀ q, q < k + 1 → (at_ l q).i ≠ id) := Lib.hid (fun q hq => by
          by_cases e2 : q = k
          · subst e2; rw [hx.out]; exact e
          · exact HQ.out q (by omega))
        clear e e'
        go_wp2_with fail
        refine C.mono ?_
        rintro r w1 ⟨rfl, b1⟩
        go_wp2_with fail
        go_roundw
        case rel => exact ⟨k + 1, by go_num, by omega, HBB.out.trans (b1.mono HBB.out.size), HQ2.out⟩
        case measure => simp [intOf]; omega
    · obtain rfl : k = l.length := by omega
      have FIN : Hid (Founds w l id (.returned (.int .i64 (-1))) wr) := Lib.hid ⟨-1, rfl, .inl ⟨rfl, fun x hx => by
        obtain ⟨q, hq1, rfl⟩ := List.getElem_of_mem hx
        rw [← at_get hq1]
        exact hq q hq1⟩, hb⟩
      clear hq hb
      go_wp2_with fail
      go_ret
      exact FIN.out
/-- what Drop leaves -/
def Dropd (w : World) (B A : Nat) (Z : Int) (r : Option Nat) (R : List It) (id : Int) (e : Ending) (w' : World) : Prop :=
  ∃ r', e = .returned (.bool (decide (∃ x ∈ R, x.i = id))) ∧ Agd w' B A Z r' (R.filter (fun x => x.i != id)) ∧ Tch w w' A r r'
theorem filter_out {l l2 R : List It} {x : It} {id : Int} (hp : l.Perm R) (h2 : (x :: l2).Perm l) (hx : x.i = id) (hd : R.Pairwise (fun x y => x.i ≠ y.i)) : l2.Perm (R.filter (fun x => x.i != id)) := by
  have hd2 : (x :: l2).Pairwise (fun x y => x.i ≠ y.i) := (List.Perm.pairwise_iff (fun h => Ne.symm h) (h2.trans hp)).2 hd
  have e1 : l2.filter (fun x => x.i != id) = l2 := List.filter_eq_self.2 (fun y hy => by
    have := List.rel_of_pairwise_cons hd2 hy
    simp
    rw [← hx]
    exact fun e => this e.symm)
  have e2 : (x :: l2).filter (fun x => x.i != id) = l2 := by
    rw [List.filter_cons, if_neg (by simp [hx]), e1]
  rw [← e2]
  exact (h2.trans hp).filter _
theorem filter_none {R : List It} {id : Int} (h : ∀ x ∈ R, x.i ≠ id) : R.filter (fun x => x.i != id) = R := List.filter_eq_self.2 (fun y hy => by simp; exact h y hy)
set_option maxHeartbeats 2000000 in
set_option maxRecDepth 100000 in
theorem drop_any (w : World) (B A : Nat) (Z : Int) (r : Option Nat) (R : List It) (id : Int) (h : Agd w B A Z r R) :
    Calls Try.prog 34 #[.pointer (some ⟨A, 0, none⟩), .int .i64 id] w (Dropd w B A Z r R id) := by
  have HAG := Lib.hid h
  obtain ⟨v, l, rfl, h2, h3, hp, hs, hi, hd⟩ := h
  have hlt := h2.lt
  have b0 := (Below.refl w.heap.size w).alloc (Nat.le_refl _) (Obj.cells #[.int .i64 id] 3)
  have hc : (w.alloc (Obj.cells #[.int .i64 id] 3)).cell? ⟨w.heap.size, 0, none⟩ = some (.int .i64 id) := by go_simp
  -- what is looked for
  have hI : ∀ a n cap, v = .slice a n cap → Calls Try.prog 48 #[v, .func (.func 49) #[] #[.pointer (some ⟨w.heap.size, 0, none⟩)]] (w.alloc (Obj.cells #[.int .i64 id] 3)) (Founds (w.alloc (Obj.cells #[.int .i64 id] 3)) l id) := by
    intro a n cap hv
    rcases h2.own.2 with ⟨rfl, e⟩ | ⟨g, cap', cur, rfl, _⟩
    · have : l = [] := List.eq_nil_of_length_eq_zero e
      subst this
      exact index_nil id none 0 _ _
    · exact index_any B g cap' _ l id _ (World.ownsRow.alloc h2.own _) h2.small hc
  obtain ⟨a, cap, hv⟩ := own_slice h2.own
  have I := hI _ _ _ hv
  have A1 := h2.below b0
  have c0 := A1.cell
  rw [hv] at I c0
  have HI := Lib.hid I
  have HA1 := Lib.hid A1
  have HP := Lib.hid hp
  have HS := Lib.hid hs
  have HII := Lib.hid hi
  have HD := Lib.hid hd
  have H3 := Lib.hid h3
  have HV := Lib.hid hv
  clear h2 h3 hp hs hi hd hv I A1 hI hc
  go_enter Try.func34, Try.ntmps34
  go_wp2_with fail
  refine HI.out.mono ?_
  rintro e w1 ⟨res, rfl, hF, b1⟩
  have A2 := Lib.hid (HA1.out.below b1)
  have T2 : Hid (Tch w w1 A v.ownBlock v.ownBlock) := Lib.hid (Tch.of_below (b0.trans (b1.mono b0.size)))
  have HG2 : Hid (Agd w1 B A Z v.ownBlock R) := Lib.hid (HAG.out.below (b0.trans (b1.mono b0.size)))
  clear HI b1 c0 HA1
  rcases hF with ⟨rfl, hno⟩ | ⟨i, hil, rfl, hid⟩
  · have hno2 : ∀ x ∈ R, x.i ≠ id := fun x hx => hno x (HP.out.mem_iff.2 hx)
    have FIN : Hid (Dropd w B A Z v.ownBlock R id (.returned (.bool false)) w1) := Lib.hid ⟨_, by rw [decide_eq_false (by rintro ⟨x, hx, e⟩; exact hno2 x hx e)], by rw [filter_none hno2]; exact HG2.out, T2.out⟩
    clear hno hno2
    go_wp2_with fail
    go_ret
    exact FIN.out
  · have hi0 : (0 : Int) ≤ i := by omega
    obtain ⟨g, cap', hv', ha⟩ := A2.out.ha (by omega)
    have hyes : ∃ x ∈ R, x.i = id := ⟨at_ l i, HP.out.mem_iff.1 (by rw [at_get hil]; exact List.getElem_mem hil), hid⟩
    have R1 : Calls Try.prog 50 #[.iface 103 (.pointer (some ⟨A, 0, none⟩)), .int .i64 i] w1 (HPopped w1 B A Z (some g) (at_ l i) l) := by
      obtain ⟨n, hn⟩ : ∃ n, l.length = n + 1 := ⟨l.length - 1, by omega⟩
      rw [hn] at ha
      by_cases e : i = n
      · subst e
        exact hrem_last B A g cap' i Z l w1 ha (by rw [← hn]; exact H3.out)
      · exact hrem_in B A g cap' n i Z l w1 ha (by rw [← hn]; exact H3.out) (by omega)
    have FIN : Hid (∀ e w', HPopped w1 B A Z (some g) (at_ l i) l e w' → Dropd w B A Z v.ownBlock R id (.returned (.bool true)) w') := Lib.hid (by
      rintro e w' ⟨v2, l2, _, a2, hh2, p2, t2⟩
      refine ⟨v2.ownBlock, by rw [decide_eq_true hyes], ⟨v2, l2, rfl, a2, hh2, filter_out HP.out p2 hid HD.out, List.Pairwise.filter _ HS.out, fun y hy => HII.out y (List.mem_filter.1 hy).1, List.Pairwise.filter _ HD.out⟩, T2.out.trans ?_⟩
      rw [hv']
      exact t2)
    clear hyes hid ha hv'
    go_wp2_with fail
    refine R1.mono ?_
    rintro e w2 hpp
    have F2 := Lib.hid (FIN.out _ _ hpp)
    obtain ⟨v2, l2, rfl, _⟩ := hpp
    go_wp2_with fail
    go_ret
    exact F2.out
end Go.Proofs.Ytkdaifcnlobhkaa.Ag
