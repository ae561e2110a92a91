/-
  THE DOCUMENT'S SESSIONS: refs, Same.
-/
import Derived.Test.YtkaocpfkigdpoaaIns
namespace Go.Proofs.Ytkaocpfkigdpoaa
open Go.RowKit
/-- sessions that can be read -/
def Ses (w : World) (v : Value) (L : List Sn) : Prop := ∃ a c, v = .slice a L.length c ∧ ∀ p (h : p < L.length), ∃ g o, a = some ⟨g, o, none⟩ ∧ g < w.heap.size ∧ w.cell? ⟨g, o + p * 2, none⟩ = some (.int .i64 L[p].1) ∧ w.cell? ⟨g, o + p * 2 + 1, none⟩ = some (.int .i64 L[p].2)
theorem Ses.next {w w' : World} {v : Value} {L : List Sn} (h : Ses w v L) (hb : Below w.heap.size w w') : Ses w' v L := by
  obtain ⟨a, c, rfl, f⟩ := h
  refine ⟨a, c, rfl, fun p hp => ?_⟩
  obtain ⟨g, o, e, hg, c1, c2⟩ := f p hp
  exact ⟨g, o, e, Nat.lt_of_lt_of_le hg hb.size, by rw [hb.cell (p := ⟨g, _, none⟩) hg]; exact c1, by rw [hb.cell (p := ⟨g, _, none⟩) hg]; exact c2⟩
theorem ses_nil (w : World) : Ses w (.slice none 0 0) [] := ⟨none, 0, rfl, fun p hp => by simp at hp⟩
/-- sessions of the document's, of the call's own -/
def OwnR (w : World) (B : Nat) (v : Value) (L : List Sn) : Prop := w.ownsRow B 58 2 v L.length (cells L)
theorem OwnR.ses {w : World} {B : Nat} {v : Value} {L : List Sn} (h : OwnR w B v L) : Ses w v L := by
  have h0 := h
  unfold OwnR at h0
  rcases h.2 with ⟨rfl, e⟩ | ⟨g, cap, cur, rfl, hb, hg, _⟩
  · have : L = [] := List.length_eq_zero_iff.1 e
    subst this
    exact ses_nil w
  · refine ⟨_, _, rfl, fun p hp => ⟨g, 0, rfl, (Array.getElem?_eq_some_iff.1 hg).1, ?_, ?_⟩⟩
    · rw [Nat.zero_add, h0.cellAt _ (by omega), (cells_get hp).1]
    · rw [Nat.zero_add, h0.cellAt _ (by omega), (cells_get hp).2]
theorem Own.ses {w : World} {B : Nat} {v : Value} {L : List Sn} (h : Own w B v L) : Ses w v L := by
  have h0 := h
  unfold Own at h0
  rcases h.2 with ⟨rfl, e⟩ | ⟨g, cap, cur, rfl, hb, hg, _⟩
  · have : L = [] := List.length_eq_zero_iff.1 e
    subst this
    exact ses_nil w
  · refine ⟨_, _, rfl, fun p hp => ⟨g, 0, rfl, (Array.getElem?_eq_some_iff.1 hg).1, ?_, ?_⟩⟩
    · rw [Nat.zero_add, h0.cellAt _ (by omega), (cells_get hp).1]
    · rw [Nat.zero_add, h0.cellAt _ (by omega), (cells_get hp).2]
theorem OwnR.next {w w' : World} {B : Nat} {v : Value} {L : List Sn} (h : OwnR w B v L) (hb : Below w.heap.size w w') : OwnR w' B v L := Fr.own h (Fr.of_below hb (fun _ => False)) (fun _ _ h => h)
theorem info58 : (Try.prog.info? 58).map (fun i => (i.zero, i.size, i.bytes)) = some (some (.agg #[.int .i64 0, .int .i64 0]), 2, 16) := by kernel_rfl
theorem enc_at58 {w : World} {vb : Nat} {x : Sn} (h : Blk w vb 58 (enc x).toArray) : ∀ j u, (enc x)[j]? = some u → w.cell? ((⟨vb, 0, none⟩ : Addr).add j) = some u := by
  intro j u hj
  have e : (⟨vb, 0, none⟩ : Addr).add j = ⟨vb, j, none⟩ := by unfold Addr.add; split <;> simp_all
  rw [e, h.cell]
  simpa using hj
/-- what an append of one session leaves -/
theorem OwnR.snoc {w1 : World} {B : Nat} {v' : Value} {L : List Sn} {j : Nat} (hj : j < L.length) (h : w1.ownsRow B 58 2 v' ((L.take j).length + 1) (cells (L.take j) ++ enc L[j])) : OwnR w1 B v' (L.take (j + 1)) := by
  unfold OwnR
  rw [List.take_succ_eq_append_getElem hj, cells_append, show cells [L[j]] = enc L[j] from by unfold cells; simp, List.length_append]
  exact h
set_option maxHeartbeats 4000000 in
set_option maxRecDepth 100000 in
theorem refs_any {w : World} {v : Value} {L : List Sn} (h : Ses w v L) (hl : L.length ≤ 1000) : Calls Try.prog 21 #[v] w fun e w' => ∃ v', e = .returned v' ∧ OwnR w' w.heap.size v' L ∧ Below w.heap.size w w' := by
  obtain ⟨i0, hi, hz0, hz1, hz2⟩ := info_parts info58
  obtain ⟨a, c, rfl, f⟩ := h
  have F := Lib.hid f
  have hl2 : (L.length : Int) ≤ 1000 := by omega
  have O0 : OwnR w w.heap.size (.slice none 0 0) (L.take 0) := by rw [List.take_zero]; exact World.ownsRow_nil _ _ _ _
  clear f
  go_enter Try.func21, Try.ntmps21
  go_wp2_with fail
  go_loopw [4, 3] (fun i s wq => ∃ (j : Nat), i = .int .i64 j ∧ j ≤ L.length ∧ Hid (OwnR wq w.heap.size s (L.take j)) ∧ Hid (Below w.heap.size w wq)) (fun i _ _ => L.length - (intOf i).toNat)
  case atStart => exact ⟨0, rfl, Nat.zero_le _, Lib.hid O0, Lib.hid (Below.refl _ _)⟩
  case round =>
    obtain ⟨j, rfl, hj, hO, hB⟩ := hrel
    by_cases hjn : j < L.length
    · obtain ⟨g, o, rfl, hg, c1, c2⟩ := F.out j hjn
      rw [← hB.out.cell (p := ⟨g, _, none⟩) hg] at c1 c2
      have hjI : (j : Int) < (L.length : Int) := by omega
      have hjl : (L.take j).length = j := by rw [List.length_take]; omega
      have SN := Lib.hid (fun (w1 : World) v' (h : w1.ownsRow w.heap.size 58 2 v' ((L.take j).length + 1) (cells (L.take j) ++ enc L[j])) => OwnR.snoc hjn h)
      obtain ⟨w5, hw5⟩ : ∃ w5, w5 = wr.alloc (.cells (enc L[j]).toArray 58) := ⟨_, rfl⟩
      have N5 := Lib.hid (enc_at58 (x := L[j]) (show Blk w5 wr.heap.size 58 (enc L[j]).toArray by rw [hw5]; exact Blk.new _ _ _))
      have B5 : Below wr.heap.size wr w5 := by rw [hw5]; exact (Below.refl _ wr).alloc (Nat.le_refl _) _
      have O5 := Lib.hid (hO.out.next B5)
      have BB := Lib.hid (hB.out.trans (B5.mono hB.out.size))
      have W5 := Lib.hid hw5
      have hsz : w.heap.size ≤ w5.heap.size := BB.out.size
      have E1 := Lib.hid (enc_one L[j])
      unfold enc at hw5 W5
      unfold OwnR at O5
      have hz5 : w5.heap.size = wr.heap.size + 1 := by rw [hw5]; simp
      clear hw5 B5 hO hB
      generalize hx : L[j] = x at *
      obtain ⟨x1, x2⟩ := x
      simp only at c1 c2 W5
      go_wp2_with (at_builtin; rw [← W5.out]; refine wpList_append_own _ rfl _ _ 25 rfl w.heap.size 58 i0 _ 2 16 Try.underlying25 hi hz0 hz1 hz2 rfl (by decide) _ (L.take j).length (cells (L.take j)) rfl O5.out ⟨wr.heap.size, 0, none⟩ 1 1 (enc (x1, x2)) rfl rfl N5.out E1.out (by unfold maxLen; omega) (by omega) (by omega) ?_; intro v' w6 ho hg6 _; have ho2 := Lib.hid (SN.out w6 v' ho); have b6 := Lib.hid (BB.out.trans ((Fr.of_grown hg6).below (fun q hq => (World.ownsRow.lt O5.out q hq.symm).1) hsz)); clear ho hg6)
      go_roundw
      case rel => exact ⟨j + 1, by go_num, by omega, ho2, b6⟩
      case measure => simp [intOf]; omega
    · obtain rfl : j = L.length := by omega
      have OO := hO.out
      rw [List.take_length] at OO
      have BB := hB.out
      clear hO hB
      go_wp2_with fail
      go_ret
      exact ⟨_, rfl, OO, BB⟩
set_option maxHeartbeats 4000000 in
set_option maxRecDepth 100000 in
theorem same_any {w : World} {v u : Value} {L R : List Sn} (h : Ses w v L) (k : Ses w u R) (hl : L.length ≤ 1000) (hr : R.length ≤ 1000) : Calls Try.prog 20 #[v, u] w fun e w' => e = .returned (.bool (decide (L = R))) ∧ Below w.heap.size w w' := by
  obtain ⟨a, c, rfl, f⟩ := h
  obtain ⟨b, d, rfl, k⟩ := k
  have F := Lib.hid f
  have G := Lib.hid k
  clear f k
  by_cases hlr : L.length = R.length
  rotate_left
  · have E : decide (L = R) = false := decide_eq_false (fun e => hlr (by rw [e]))
    rw [E]
    have hI : ¬ (L.length : Int) = (R.length : Int) := by omega
    have hB : ((L.length : Int) != (R.length : Int)) = true := by simpa using hI
    clear F G
    go_enter Try.func20, Try.ntmps20
    go_wp2_with fail
    go_ret
    exact ⟨rfl, Below.refl _ _⟩
  have HR := Lib.hid hlr
  have HE := Lib.hid (fun (h : ∀ j (h : j < L.length), L[j] = R[j]'(Nat.lt_of_lt_of_eq h HR.out)) => show decide (L = R) = true from decide_eq_true (List.ext_getElem HR.out (fun j h1 h2 => h j h1)))
  have HN := Lib.hid (fun j (h : j < L.length) (hne : L[j] ≠ R[j]'(Nat.lt_of_lt_of_eq h HR.out)) => show decide (L = R) = false from decide_eq_false (fun e => hne (by subst e; rfl)))
  generalize decide (L = R) = E at *
  rw [← hlr]
  have hI : (L.length : Int) ≤ 1000 := by omega
  clear hlr hl hr
  go_enter Try.func20, Try.ntmps20
  go_wp2_with fail
  go_loopw [5] (fun i wq => ∃ (j : Nat), i = .int .i64 j ∧ j ≤ L.length ∧ Hid (∀ t (h : t < L.length), t < j → L[t] = R[t]'(Nat.lt_of_lt_of_eq h HR.out)) ∧ Hid (Below w.heap.size w wq)) (fun i _ => L.length - (intOf i).toNat)
  case atStart => exact ⟨0, rfl, Nat.zero_le _, Lib.hid (fun t _ h => absurd h (Nat.not_lt_zero _)), Lib.hid (Below.refl _ _)⟩
  case round =>
    obtain ⟨j, rfl, hj, hS, hB⟩ := hrel
    by_cases hjn : j < L.length
    · obtain ⟨g, o, rfl, hg, c1, c2⟩ := F.out j hjn
      obtain ⟨g2, o2, rfl, hg2, d1, d2⟩ := G.out j (Nat.lt_of_lt_of_eq hjn HR.out)
      rw [← hB.out.cell (p := ⟨g, _, none⟩) hg] at c1 c2
      rw [← hB.out.cell (p := ⟨g2, _, none⟩) hg2] at d1 d2
      have hjI : (j : Int) < (L.length : Int) := by omega
      have HX := Lib.hid (HN.out j hjn)
      have HS2 : Hid (L[j] = R[j]'(Nat.lt_of_lt_of_eq hjn HR.out) → ∀ t (h : t < L.length), t < j + 1 → L[t] = R[t]'(Nat.lt_of_lt_of_eq h HR.out)) := Lib.hid fun e t ht htj => by
        by_cases h : t = j
        · subst h; exact e
        · exact hS.out t ht (by omega)
      have BD := Lib.hid (fun n => below_drewN hB.out n)
      clear hS hB
      generalize L[j] = x at *
      generalize R[j]'(Nat.lt_of_lt_of_eq hjn HR.out) = y at *
      obtain ⟨x1, x2⟩ := x
      obtain ⟨y1, y2⟩ := y
      simp only at c1 c2 d1 d2
      by_cases e1 : x1 = y1
      · by_cases e2 : x2 = y2
        · subst e1; subst e2
          have S3 := Lib.hid (HS2.out rfl)
          clear HX HS2
          go_wp2_with fail
          go_quiet (fail)
          go_wp2_with fail
          go_roundw
          case rel => exact ⟨j + 1, by go_num, by omega, S3, Lib.hid (BD.out _)⟩
          case measure => simp [intOf]; omega
        · have e2B : (x2 == y2) = false := by simpa using e2
          have E2 := HX.out (fun e => e2 (by injection e))
          subst e1
          subst E2
          clear HX HS2
          go_wp2_with fail
          go_quiet (fail)
          go_wp2_with fail
          go_ret
          exact ⟨rfl, BD.out _⟩
      · have e1B : (x1 == y1) = false := by simpa using e1
        have E2 := HX.out (fun e => e1 (by injection e))
        subst E2
        clear HX HS2
        go_wp2_with fail
        go_quiet (fail)
        go_wp2_with fail
        go_ret
        exact ⟨rfl, BD.out _⟩
    · obtain rfl : j = L.length := by omega
      have E2 := HE.out (fun t ht => hS.out t ht ht)
      subst E2
      have BB := hB.out
      clear hS hB
      go_wp2_with fail
      go_ret
      exact ⟨rfl, BB⟩
end Go.Proofs.Ytkaocpfkigdpoaa
