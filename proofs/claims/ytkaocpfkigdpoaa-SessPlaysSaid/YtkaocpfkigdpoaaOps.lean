/-
  Open, May, Take, Close, All.
-/
import Derived.Test.YtkaocpfkigdpoaaFnd
import Derived.Test.YtkaocpfkigdpoaaIns3
import Derived.Test.YtkaocpfkigdpoaaDlt
import Derived.Test.YtkaocpfkigdpoaaCle
namespace Go.Proofs.Ytkaocpfkigdpoaa
open Go.RowKit
/-- what a table's call leaves -/
def Tch (w : World) (t : Nat) (v : Value) (L' : List Sn) (w' : World) : Prop :=
  ∃ v', Tab w' t v' L' ∧ Fr w w' (Foot t v) ∧ (v'.ownBlock = v.ownBlock ∨ ∀ q, v'.ownBlock = some q → w.heap.size ≤ q)
def Res (w : World) (t : Nat) (v : Value) (L' : List Sn) (r : Value) (e : Ending) (w' : World) : Prop := e = .returned r ∧ Tch w t v L' w'
theorem Tch.below {w w' : World} {t : Nat} {v : Value} {L : List Sn} (h : Tab w t v L) (b : Below w.heap.size w w') : Tch w t v L w' := ⟨v, h.next b, Fr.of_below b _, .inl rfl⟩
theorem own_ne {w : World} {t : Nat} {v : Value} {L : List Sn} (h : Own w (t + 1) v L) : ∀ q, v.ownBlock = some q → t + 1 ≤ q ∧ q < w.heap.size := fun q hq => World.ownsRow.lt h q hq
/-- the list is stored -/
theorem Tch.store {w w3 : World} {t : Nat} {v v' : Value} {L' : List Sn} (hb : Blk w3 t 54 #[v]) (ho : Own w3 (t + 1) v' L') (hf : Fr w w3 (Foot t v)) (hq : v'.ownBlock = v.ownBlock ∨ ∀ q, v'.ownBlock = some q → w.heap.size ≤ q) :
    Tch w t v L' (w3.setCell ⟨t, 0, none⟩ v') :=
  ⟨v', ⟨hb.set 0 v', ho.fr (fr_set w3 t 0 v') (fun q hq e => by have := own_ne ho q hq; omega)⟩, hf.set t 0 v' (.inl (.inl rfl)), hq⟩
theorem open_nil (id : Int) (w : World) : Calls Try.prog 12 #[.pointer none, .int .i64 id] w fun e w' => e = .returned (.int .i64 1) ∧ w = w' := by
  go_enter Try.func12, Try.ntmps12
  go_wp2_with fail
  go_ret
  exact ⟨rfl, rfl⟩
theorem close_nil (id : Int) (w : World) : Calls Try.prog 17 #[.pointer none, .int .i64 id] w fun e w' => e = .returned (.int .i64 1) ∧ w = w' := by
  go_enter Try.func17, Try.ntmps17
  go_wp2_with fail
  go_ret
  exact ⟨rfl, rfl⟩
theorem may_nil (id s : Int) (w : World) : Calls Try.prog 13 #[.pointer none, .int .i64 id, .int .i64 s] w fun e w' => e = .returned (.tuple #[.bool false, .int .i64 1]) ∧ w = w' := by
  go_enter Try.func13, Try.ntmps13
  go_wp2_with fail
  go_ret2
  exact ⟨rfl, rfl⟩
theorem take_nil (id s : Int) (w : World) : Calls Try.prog 14 #[.pointer none, .int .i64 id, .int .i64 s] w fun e w' => e = .returned (.tuple #[.bool false, .int .i64 1]) ∧ w = w' := by
  go_enter Try.func14, Try.ntmps14
  go_wp2_with fail
  refine (may_nil _ _ _).mono ?_
  rintro e w' ⟨rfl, rfl⟩
  go_wp2_with fail
  go_ret2
  exact ⟨rfl, rfl⟩
theorem all_nil (w : World) : Calls Try.prog 22 #[.pointer none] w fun e w' => e = .returned (.slice none 0 0) ∧ w = w' := by
  go_enter Try.func22, Try.ntmps22
  go_wp2_with fail
  go_ret
  exact ⟨rfl, rfl⟩
theorem all_any {w : World} {t : Nat} {v : Value} {L : List Sn} (h : Tab w t v L) (hl : L.length ≤ 1000) : Calls Try.prog 22 #[.pointer (some ⟨t, 0, none⟩)] w (Cle w L) := by
  have c0 := h.cell
  have H := Lib.hid (clone_any h.own hl)
  clear h
  go_enter Try.func22, Try.ntmps22
  go_wp2_with fail
  refine H.out.mono ?_
  rintro e w1 ⟨v', rfl, o1, b1⟩
  go_wp2_with fail
  go_ret
  exact ⟨v', rfl, o1, b1⟩
set_option maxHeartbeats 1000000 in
set_option maxRecDepth 100000 in
theorem open_any {w : World} {t : Nat} {v : Value} {L : List Sn} (id : Int) (h : Tab w t v L) (ok : Okt L) :
    Calls Try.prog 12 #[.pointer (some ⟨t, 0, none⟩), .int .i64 id] w (Res w t v (opT id L).1 (.int .i64 (opT id L).2)) := by
  have hn := ok.n
  have SELF := Lib.hid (fun w' (b : Below w.heap.size w w') => Tch.below h b)
  have hpl := pos_le id L
  by_cases h1 : id < 1
  · have E : opT id L = (L, 1) := by unfold opT; rw [if_pos (.inl h1)]
    rw [E]
    go_enter Try.func12, Try.ntmps12
    go_wp2_with fail
    go_ret
    exact ⟨rfl, SELF.out _ (Below.refl _ _)⟩
  by_cases h2 : 549755813888 < id
  · have E : opT id L = (L, 1) := by unfold opT; rw [if_pos (.inr h2)]
    rw [E]
    have h0 : 1 ≤ id := by omega
    go_enter Try.func12, Try.ntmps12
    go_wp2_with fail
    go_ret
    exact ⟨rfl, SELF.out _ (Below.refl _ _)⟩
  have h1' : 1 ≤ id := by omega
  have h2' : id ≤ 549755813888 := by omega
  by_cases h3 : 0 ≤ sq id L
  · have E : opT id L = (L, 9) := by unfold opT; rw [if_neg (by omega), if_pos h3]
    rw [E]
    have F := Lib.hid (find_yes h ok h3)
    clear h ok h3 E
    go_enter Try.func12, Try.ntmps12
    go_wp2_with fail
    refine F.out.mono ?_
    rintro e w1 ⟨rfl, b1⟩
    go_wp2_with fail
    go_ret
    exact ⟨rfl, SELF.out _ b1⟩
  have F := Lib.hid (find_no h ok (by omega : sq id L < 0))
  by_cases h4 : 32 ≤ L.length
  · have E : opT id L = (L, 7) := by unfold opT; rw [if_neg (by omega), if_neg h3, if_pos h4]
    rw [E]
    have HH := Lib.hid h
    have h4' : L.length = 32 := by omega
    clear h ok h3 E
    go_enter Try.func12, Try.ntmps12
    go_wp2_with fail
    refine F.out.mono ?_
    rintro e w1 ⟨rfl, b1⟩
    have T1 := HH.out.next b1
    have c0 := T1.cell
    obtain ⟨a, c, rfl, -, -⟩ := T1.own.form
    clear T1
    rw [h4'] at c0
    go_wp2_with fail
    go_ret
    exact ⟨rfl, SELF.out _ b1⟩
  · have E : opT id L = (ins id 0 L, 0) := by unfold opT; rw [if_neg (by omega), if_neg h3, if_neg h4]
    rw [E]
    have HH := Lib.hid h
    have h4' : L.length < 32 := by omega
    have h4I : (L.length : Int) < 32 := by omega
    have HT := Lib.hid h.blk.lt
    clear h ok h3 E h4 hn SELF
    go_enter Try.func12, Try.ntmps12
    go_wp2_with fail
    refine F.out.mono ?_
    rintro e w1 ⟨rfl, b1⟩
    have T1 := HH.out.next b1
    have c0 := T1.cell
    obtain ⟨a, c, hv, hc1, hc2⟩ := T1.own.form
    have TT := Lib.hid T1
    have B1 := Lib.hid b1
    obtain ⟨w2, hw2⟩ : ∃ w2, w2 = w1.alloc (.cells #[.int .i64 id, .int .i64 0] 62) := ⟨_, rfl⟩
    have b2 : Below w1.heap.size w1 w2 := by rw [hw2]; exact (Below.refl _ _).alloc (Nat.le_refl _) _
    have T2 := T1.next b2
    have K2 : Blk w2 w1.heap.size 62 (enc (id, 0)).toArray := by rw [hw2]; exact Blk.new w1 62 _
    have hz1 : w1.heap.size < w2.heap.size := K2.lt
    have I := Lib.hid (insert_any (p := pos id L) T2.own (by have := T2.blk.lt; omega) K2 (fun e => by have := own_ne T1.own _ e; omega) (by omega) hpl)
    have HW := Lib.hid hw2
    have TT2 := Lib.hid T2
    have B2 := Lib.hid b2
    subst hv
    clear T1 T2 K2 b1 b2 hw2 hz1
    go_wp2_with (go_at_call 28; rw [← HW.out]; refine I.out.mono ?_; rintro e w3 ⟨v', rfl, o3, f3, q3⟩; have k3 := TT2.out.blk.fr f3 (fun e => by have := own_ne TT2.out.own _ e; omega); have c3 := k3.cell 0; have f3c := k3.free 0; simp only [List.getElem?_toArray, List.getElem?_cons_zero] at c3; have O3 := Lib.hid o3; have F3 := Lib.hid f3; have Q3 := Lib.hid q3; have K3 := Lib.hid k3; clear f3 q3 k3; obtain ⟨a3, d3, hv3, -, -⟩ := o3.form; clear o3; generalize (List.take (pos id L) L ++ (id, 0) :: List.drop (pos id L) L).length = n3 at hv3; subst hv3)
    go_ret
    refine ⟨rfl, Tch.store K3.out O3.out ?_ ?_⟩
    · exact ((Fr.of_below B1.out _).on ((Fr.of_below B2.out _).on ((F3.out.mono (Q := Foot t (Value.slice a L.length c)) (fun q _ e => .inr e)))))
    · rcases Q3.out with e | e
      · exact .inl e
      · exact .inr (fun q hq => Nat.le_trans B1.out.size (Nat.le_trans B2.out.size (e q hq)))
set_option maxHeartbeats 1000000 in
set_option maxRecDepth 100000 in
theorem close_any {w : World} {t : Nat} {v : Value} {L : List Sn} (id : Int) (h : Tab w t v L) (ok : Okt L) :
    Calls Try.prog 17 #[.pointer (some ⟨t, 0, none⟩), .int .i64 id] w (Res w t v (clT id L).1 (.int .i64 (clT id L).2)) := by
  have hn := ok.n
  by_cases h3 : sq id L < 0
  · have E : clT id L = (L, 4) := by unfold clT; rw [if_pos h3]
    rw [E]
    have SELF := Lib.hid (fun w' (b : Below w.heap.size w w') => Tch.below h b)
    have F := Lib.hid (find_no h ok h3)
    clear h ok h3 E
    go_enter Try.func17, Try.ntmps17
    go_wp2_with fail
    refine F.out.mono ?_
    rintro e w1 ⟨rfl, b1⟩
    go_wp2_with fail
    go_ret
    exact ⟨rfl, SELF.out _ b1⟩
  · have E : clT id L = (del id L, 0) := by unfold clT; rw [if_neg h3]
    rw [E]
    obtain ⟨hp, _, _⟩ := th_yes (id := id) ok (by omega)
    have F := Lib.hid (find_yes h ok (by omega : 0 ≤ sq id L))
    have HH := Lib.hid h
    have hw1 : IntKind.i64.wrap ((pos id L : Int) + 1) = (pos id L : Int) + 1 := by rw [IntKind.wrap_i64]; omega
    clear h ok h3 E
    go_enter Try.func17, Try.ntmps17
    go_wp2_with fail
    refine F.out.mono ?_
    rintro e w1 ⟨rfl, b1⟩
    have T1 := HH.out.next b1
    have c0 := T1.cell
    have TT := Lib.hid T1
    have B1 := Lib.hid b1
    have I := Lib.hid (delete_any T1.own (by omega) hp)
    obtain ⟨a, c, hv, hc1, hc2⟩ := T1.own.form
    subst hv
    clear T1 b1
    go_wp2_with (go_at_call 30; refine I.out.mono ?_; rintro e w3 ⟨v', rfl, o3, f3, q3⟩; have k3 := TT.out.blk.fr f3 (fun e => by have := own_ne TT.out.own _ e; omega); have c3 := k3.cell 0; have f3c := k3.free 0; simp only [List.getElem?_toArray, List.getElem?_cons_zero] at c3; have O3 := Lib.hid o3; have F3 := Lib.hid f3; have Q3 := Lib.hid q3; have K3 := Lib.hid k3; clear f3 q3 k3; obtain ⟨a3, d3, hv3, -, -⟩ := o3.form; clear o3; generalize (List.take (pos id L) L ++ List.drop (pos id L + 1) L).length = n3 at hv3; subst hv3)
    go_ret
    refine ⟨rfl, Tch.store K3.out O3.out ?_ ?_⟩
    · exact ((Fr.of_below B1.out _).on ((F3.out.mono (Q := Foot t (Value.slice a L.length c)) (fun q _ e => .inr e))))
    · rcases Q3.out with e | e
      · exact .inl e
      · exact .inr (fun q hq => Nat.le_trans B1.out.size (e q hq))
set_option maxHeartbeats 1000000 in
set_option maxRecDepth 100000 in
theorem may_any {w : World} {t : Nat} {v : Value} {L : List Sn} (id s : Int) (h : Tab w t v L) (ok : Okt L) :
    Calls Try.prog 13 #[.pointer (some ⟨t, 0, none⟩), .int .i64 id, .int .i64 s] w fun e w' => e = .returned (.tuple #[.bool (mayT id s L).1, .int .i64 (mayT id s L).2]) ∧ Below w.heap.size w w' := by
  by_cases h3 : sq id L < 0
  · have E : mayT id s L = (false, 4) := by unfold mayT; rw [if_pos h3]
    rw [E]
    have F := Lib.hid (find_no h ok h3)
    clear h ok h3 E
    go_enter Try.func13, Try.ntmps13
    go_wp2_with fail
    refine F.out.mono ?_
    rintro e w1 ⟨rfl, b1⟩
    go_wp2_with fail
    go_ret2
    exact ⟨rfl, b1⟩
  obtain ⟨hp, e1, e2⟩ := th_yes (id := id) ok (by omega)
  have F := Lib.hid (find_yes h ok (by omega : 0 ≤ sq id L))
  have hq := ok.qM L[pos id L] (List.getElem_mem _)
  by_cases h1 : s < 1
  · have E : mayT id s L = (false, 1) := by unfold mayT; rw [if_neg h3, if_pos (.inl h1)]
    rw [E]
    clear h ok h3 E
    go_enter Try.func13, Try.ntmps13
    go_wp2_with fail
    refine F.out.mono ?_
    rintro e w1 ⟨rfl, b1⟩
    go_wp2_with fail
    go_ret2
    exact ⟨rfl, b1⟩
  have h1' : 1 ≤ s := by omega
  by_cases h2 : 549755813888 < s
  · have E : mayT id s L = (false, 1) := by unfold mayT; rw [if_neg h3, if_pos (.inr h2)]
    rw [E]
    clear h ok h3 E h1
    go_enter Try.func13, Try.ntmps13
    go_wp2_with fail
    refine F.out.mono ?_
    rintro e w1 ⟨rfl, b1⟩
    go_wp2_with fail
    go_ret2
    exact ⟨rfl, b1⟩
  have h2' : s ≤ 549755813888 := by omega
  have E : mayT id s L = if sq id L + 1 < s then (false, 170) else (decide (sq id L < s), 0) := by unfold mayT; rw [if_neg h3, if_neg (by omega)]
  have HH := Lib.hid h
  have e2b := Lib.hid e2
  have hpos : 0 ≤ sq id L := by omega
  have HP := Lib.hid hp
  by_cases h4 : sq id L + 1 < s
  · rw [if_pos h4] at E
    rw [E]
    clear h ok h3 E h1 h2 e1 e2
    go_enter Try.func13, Try.ntmps13
    go_wp2_with fail
    refine F.out.mono ?_
    rintro e w1 ⟨rfl, b1⟩
    have T1 := HH.out.next b1
    have c0 := T1.cell
    obtain ⟨g, c, hv, -, -, -, c2, -⟩ := T1.own.at_ HP.out
    rw [e2b.out] at c2
    subst hv
    have hpI : ((pos id L : Nat) : Int) < (L.length : Int) := by have := HP.out; omega
    have hw1 : IntKind.i64.wrap (sq id L + 1) = sq id L + 1 := by rw [IntKind.wrap_i64]; have := e2b.out; omega
    clear T1 hp HP HH F hq e2b
    go_wp2_with fail
    go_ret2
    exact ⟨rfl, b1⟩
  · rw [if_neg h4] at E
    rw [E]
    have h4' : s ≤ sq id L + 1 := by omega
    clear h ok h3 E h1 h2 e1 e2 h4
    go_enter Try.func13, Try.ntmps13
    go_wp2_with fail
    refine F.out.mono ?_
    rintro e w1 ⟨rfl, b1⟩
    have T1 := HH.out.next b1
    have c0 := T1.cell
    obtain ⟨g, c, hv, -, -, -, c2, -⟩ := T1.own.at_ HP.out
    rw [e2b.out] at c2
    subst hv
    have hpI : ((pos id L : Nat) : Int) < (L.length : Int) := by have := HP.out; omega
    have hw1 : IntKind.i64.wrap (sq id L + 1) = sq id L + 1 := by rw [IntKind.wrap_i64]; have := e2b.out; omega
    clear T1 hp HP HH F hq e2b
    go_wp2_with fail
    go_ret2
    exact ⟨rfl, b1⟩
set_option maxHeartbeats 1000000 in
set_option maxRecDepth 100000 in
theorem take_any {w : World} {t : Nat} {v : Value} {L : List Sn} (id s : Int) (h : Tab w t v L) (ok : Okt L) :
    Calls Try.prog 14 #[.pointer (some ⟨t, 0, none⟩), .int .i64 id, .int .i64 s] w (Res w t v (tkT id s L) (.tuple #[.bool (mayT id s L).1, .int .i64 (mayT id s L).2])) := by
  have A := Lib.hid (may_any id s h ok)
  by_cases hm : (mayT id s L).1 = true
  · obtain ⟨f1, f2, f3, f4, f5, f6⟩ := may_fresh hm
    obtain ⟨hp, e1, e2⟩ := th_yes ok f1
    have HH := Lib.hid h
    have FY := Lib.hid (fun (w' : World) (T : Tab w' t v L) => find_yes T ok f1)
    have E : tkT id s L = put id s L := by unfold tkT; rw [if_pos hm]
    have HE : Hid (cells (put id s L) = (cells L).set (pos id L * 2 + 1) (.int .i64 s)) := Lib.hid (by rw [cells_set L (pos id L) hp s, e1]; rfl)
    rw [E, hm, f6]
    rw [hm, f6] at A
    have HP := Lib.hid hp
    clear h ok hm E f1 f2 f3 f4 f5 f6 e1 e2
    go_enter Try.func14, Try.ntmps14
    go_wp2_with fail
    refine A.out.mono ?_
    rintro e w1 ⟨rfl, b1⟩
    have T1 := HH.out.next b1
    go_wp2_with fail
    refine (FY.out w1 T1).mono ?_
    rintro e w2 ⟨rfl, b2⟩
    have B := Lib.hid (b1.trans (b2.mono b1.size))
    have T2 := T1.next b2
    have c0 := T2.cell
    obtain ⟨g, c, hv, -, -, -, c2, fz⟩ := T2.own.at_ HP.out
    subst hv
    have fz2 := fz (pos id L * 2 + 1)
    have hpI : ((pos id L : Nat) : Int) < (L.length : Int) := by have := HP.out; omega
    have TT := Lib.hid T2
    clear T1 T2 b1 b2 hp A FY HH fz
    go_wp2_with fail
    go_ret2
    refine ⟨rfl, _, ⟨TT.out.blk.fr (fr_set w2 g _ _) (fun e => by have := own_ne TT.out.own g rfl; omega), ?_⟩, ((Fr.of_below B.out _).on ((fr_set w2 g _ _).mono (Q := Foot t (Value.slice (some ⟨g, 0, none⟩) L.length c)) (fun q _ e => .inr (by rw [e]; rfl)))), .inl rfl⟩
    unfold Own
    rw [HE.out, show (put id s L).length = L.length by unfold put; rw [List.length_set]]
    exact (World.ownsRow.stored TT.out.own _ _).1
  · have hm2 : (mayT id s L).1 = false := by simpa using hm
    have E : tkT id s L = L := by unfold tkT; rw [if_neg hm]
    have SELF := Lib.hid (fun w' (b : Below w.heap.size w w') => Tch.below h b)
    rw [E, hm2]
    rw [hm2] at A
    clear h ok hm hm2 E
    go_enter Try.func14, Try.ntmps14
    go_wp2_with fail
    refine A.out.mono ?_
    rintro e w1 ⟨rfl, b1⟩
    go_wp2_with fail
    go_ret2
    exact ⟨rfl, SELF.out _ b1⟩
end Go.Proofs.Ytkaocpfkigdpoaa
