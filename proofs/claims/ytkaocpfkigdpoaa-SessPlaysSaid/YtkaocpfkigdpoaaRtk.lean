/-
  THE DOCUMENT'S TABLE: Take.
-/
import Derived.Test.YtkaocpfkigdpoaaRop
namespace Go.Proofs.Ytkaocpfkigdpoaa
open Go.RowKit
/-- what Take leaves -/
def Tbt (w : World) (v : Value) (L : List Sn) (b : Bool) (n : Int) (e : Ending) (w' : World) : Prop := ∃ v', e = .returned (.tuple #[.agg #[v'], .bool b, .int .i64 n]) ∧ Ses w' v' L ∧ Below w.heap.size w w' ∧ New w v v' w'
theorem wo_okt {id : Int} {L : List Sn} : (wo id L).length ≤ L.length := wo_len id L
set_option maxHeartbeats 2000000 in
set_option maxRecDepth 100000 in
theorem rtake_any {w : World} {v : Value} {L : List Sn} (id s : Int) (h : Ses w v L) (ok : Okt L) : Calls Try.prog 15 #[.agg #[v], .int .i64 id, .int .i64 s] w (Tbt w v (tkT id s L) (mayT id s L).1 (mayT id s L).2) := by
  have hn := ok.n
  have HH := Lib.hid h
  have A := Lib.hid (as_new w v)
  obtain ⟨a, c, hv⟩ : ∃ a c, v = .slice a L.length c := by obtain ⟨a, c, e, _⟩ := h; exact ⟨a, c, e⟩
  have SQ := Lib.hid (fun W (b : Below w.heap.size w W) => seq_any id (HH.out.next b) (by omega))
  by_cases h3 : sq id L < 0
  · have M : mayT id s L = (false, 4) := by unfold mayT; rw [if_pos h3]
    have T : tkT id s L = L := by unfold tkT; rw [if_neg (by rw [M]; simp)]
    rw [M, T]
    clear h ok M T
    subst hv
    generalize sq id L = q at *
    go_enter Try.func15, Try.ntmps15
    go_wp2_with fail
    refine (SQ.out _ A.out.bel).mono ?_
    rintro e w1 ⟨rfl, b1⟩
    have A1 := Lib.hid (A.out.next b1)
    clear b1
    have c0 : w1.cell? ⟨w.heap.size, 0, none⟩ = some (.slice a L.length c) := A1.out.k0.cell 0
    have c1 : w1.cell? ⟨w.heap.size + 1, 0, none⟩ = some (.slice none 0 0) := A1.out.k1.cell 0
    have f1 := A1.out.k1.free 0
    obtain ⟨W, hW, z0, sw, bw, nw⟩ := A1.out.fin HH.out
    have HWf := Lib.hid hW
    have HO := Lib.hid sw
    have HB := Lib.hid bw
    have HZ := Lib.hid z0
    have HN := Lib.hid nw
    clear hW sw bw z0 nw A1 SQ A
    go_wp2_with fail
    rw [← HWf.out]
    have z0 := HZ.out
    clear HWf
    refine bodyPost_ret (by simp [results, Try.results15, go_sem, z0]; try rfl) rfl ?_
    exact ⟨_, rfl, HO.out, HB.out, HN.out⟩
  have h3' : 0 ≤ sq id L := by omega
  have hq : sq id L ≤ 549755813888 := by
    obtain ⟨hp, e1, e2⟩ := th_yes ok h3'
    rw [← e2]
    exact ok.qM _ (List.getElem_mem hp)
  by_cases h1 : s < 1
  · have M : mayT id s L = (false, 1) := by unfold mayT; rw [if_neg h3, if_pos (.inl h1)]
    have T : tkT id s L = L := by unfold tkT; rw [if_neg (by rw [M]; simp)]
    rw [M, T]
    clear h ok M T
    subst hv
    generalize sq id L = q at *
    go_enter Try.func15, Try.ntmps15
    go_wp2_with fail
    refine (SQ.out _ A.out.bel).mono ?_
    rintro e w1 ⟨rfl, b1⟩
    have A1 := Lib.hid (A.out.next b1)
    clear b1
    have c0 : w1.cell? ⟨w.heap.size, 0, none⟩ = some (.slice a L.length c) := A1.out.k0.cell 0
    have c1 : w1.cell? ⟨w.heap.size + 1, 0, none⟩ = some (.slice none 0 0) := A1.out.k1.cell 0
    have f1 := A1.out.k1.free 0
    obtain ⟨W, hW, z0, sw, bw, nw⟩ := A1.out.fin HH.out
    have HWf := Lib.hid hW
    have HO := Lib.hid sw
    have HB := Lib.hid bw
    have HZ := Lib.hid z0
    have HN := Lib.hid nw
    clear hW sw bw z0 nw A1 SQ A
    go_wp2_with fail
    rw [← HWf.out]
    have z0 := HZ.out
    clear HWf
    refine bodyPost_ret (by simp [results, Try.results15, go_sem, z0]; try rfl) rfl ?_
    exact ⟨_, rfl, HO.out, HB.out, HN.out⟩
  have h1' : 1 ≤ s := by omega
  by_cases h2 : 549755813888 < s
  · have M : mayT id s L = (false, 1) := by unfold mayT; rw [if_neg h3, if_pos (.inr h2)]
    have T : tkT id s L = L := by unfold tkT; rw [if_neg (by rw [M]; simp)]
    rw [M, T]
    clear h ok M T
    subst hv
    generalize sq id L = q at *
    go_enter Try.func15, Try.ntmps15
    go_wp2_with fail
    refine (SQ.out _ A.out.bel).mono ?_
    rintro e w1 ⟨rfl, b1⟩
    have A1 := Lib.hid (A.out.next b1)
    clear b1
    have c0 : w1.cell? ⟨w.heap.size, 0, none⟩ = some (.slice a L.length c) := A1.out.k0.cell 0
    have c1 : w1.cell? ⟨w.heap.size + 1, 0, none⟩ = some (.slice none 0 0) := A1.out.k1.cell 0
    have f1 := A1.out.k1.free 0
    obtain ⟨W, hW, z0, sw, bw, nw⟩ := A1.out.fin HH.out
    have HWf := Lib.hid hW
    have HO := Lib.hid sw
    have HB := Lib.hid bw
    have HZ := Lib.hid z0
    have HN := Lib.hid nw
    clear hW sw bw z0 nw A1 SQ A
    go_wp2_with fail
    rw [← HWf.out]
    have z0 := HZ.out
    clear HWf
    refine bodyPost_ret (by simp [results, Try.results15, go_sem, z0]; try rfl) rfl ?_
    exact ⟨_, rfl, HO.out, HB.out, HN.out⟩
  have h2' : s ≤ 549755813888 := by omega
  by_cases h4 : s ≤ sq id L
  · have M : mayT id s L = (false, 0) := by unfold mayT; rw [if_neg h3, if_neg (by omega), if_neg (by omega), decide_eq_false (by omega)]
    have T : tkT id s L = L := by unfold tkT; rw [if_neg (by rw [M]; simp)]
    rw [M, T]
    clear h ok M T
    subst hv
    generalize sq id L = q at *
    go_enter Try.func15, Try.ntmps15
    go_wp2_with fail
    refine (SQ.out _ A.out.bel).mono ?_
    rintro e w1 ⟨rfl, b1⟩
    have A1 := Lib.hid (A.out.next b1)
    clear b1
    have c0 : w1.cell? ⟨w.heap.size, 0, none⟩ = some (.slice a L.length c) := A1.out.k0.cell 0
    have c1 : w1.cell? ⟨w.heap.size + 1, 0, none⟩ = some (.slice none 0 0) := A1.out.k1.cell 0
    have f1 := A1.out.k1.free 0
    obtain ⟨W, hW, z0, sw, bw, nw⟩ := A1.out.fin HH.out
    have HWf := Lib.hid hW
    have HO := Lib.hid sw
    have HB := Lib.hid bw
    have HZ := Lib.hid z0
    have HN := Lib.hid nw
    clear hW sw bw z0 nw A1 SQ A
    go_wp2_with fail
    rw [← HWf.out]
    have z0 := HZ.out
    clear HWf
    refine bodyPost_ret (by simp [results, Try.results15, go_sem, z0]; try rfl) rfl ?_
    exact ⟨_, rfl, HO.out, HB.out, HN.out⟩
  have h4' : sq id L < s := by omega
  have hw1 : wrap64 (sq id L + 1) = sq id L + 1 := by unfold wrap64; omega
  by_cases h5 : sq id L + 1 < s
  · have M : mayT id s L = (false, 170) := by unfold mayT; rw [if_neg h3, if_neg (by omega), if_pos h5]
    have T : tkT id s L = L := by unfold tkT; rw [if_neg (by rw [M]; simp)]
    rw [M, T]
    clear h ok M T
    subst hv
    generalize sq id L = q at *
    go_enter Try.func15, Try.ntmps15
    go_wp2_with fail
    refine (SQ.out _ A.out.bel).mono ?_
    rintro e w1 ⟨rfl, b1⟩
    have A1 := Lib.hid (A.out.next b1)
    clear b1
    have c0 : w1.cell? ⟨w.heap.size, 0, none⟩ = some (.slice a L.length c) := A1.out.k0.cell 0
    have c1 : w1.cell? ⟨w.heap.size + 1, 0, none⟩ = some (.slice none 0 0) := A1.out.k1.cell 0
    have f1 := A1.out.k1.free 0
    obtain ⟨W, hW, z0, sw, bw, nw⟩ := A1.out.fin HH.out
    have HWf := Lib.hid hW
    have HO := Lib.hid sw
    have HB := Lib.hid bw
    have HZ := Lib.hid z0
    have HN := Lib.hid nw
    clear hW sw bw z0 nw A1 SQ A
    go_wp2_with fail
    rw [← HWf.out]
    have z0 := HZ.out
    clear HWf
    refine bodyPost_ret (by simp [results, Try.results15, go_sem, z0]; try rfl) rfl ?_
    exact ⟨_, rfl, HO.out, HB.out, HN.out⟩
  · have h5' : s ≤ sq id L + 1 := by omega
    have M : mayT id s L = (true, 0) := by unfold mayT; rw [if_neg h3, if_neg (by omega), if_neg h5, decide_eq_true h4']
    have T : tkT id s L = put id s L := by unfold tkT; rw [if_pos (by rw [M])]
    have WP := wi_put (s := s) ok h3'
    have hwl := wo_len id L
    rw [M, T]
    have WOU := Lib.hid (fun W (b : Below w.heap.size w W) => without_any id (HH.out.next b) (by omega))
    have WTH := Lib.hid (fun W v2 B (o : OwnR W B v2 (wo id L)) => with_any id s o.ses (by omega))
    rw [WP] at WTH
    clear h ok M T h1 h2 h3 h4 h5 WP
    subst hv
    generalize sq id L = q at *
    generalize put id s L = R at *
    generalize wo id L = O at *
    go_enter Try.func15, Try.ntmps15
    go_wp2_with fail
    refine (SQ.out _ A.out.bel).mono ?_
    rintro e w1 ⟨rfl, b1⟩
    have A1 := Lib.hid (A.out.next b1)
    clear b1
    have c0 : w1.cell? ⟨w.heap.size, 0, none⟩ = some (.slice a L.length c) := A1.out.k0.cell 0
    have c1 : w1.cell? ⟨w.heap.size + 1, 0, none⟩ = some (.slice none 0 0) := A1.out.k1.cell 0
    have f1 := A1.out.k1.free 0
    go_wp2_with fail
    refine (WOU.out _ A1.out.bel).mono ?_
    rintro e w2 ⟨v2, rfl, o2, b2⟩
    have A2 := Lib.hid (A1.out.next b2)
    have hB : w.heap.size + 1 < w1.heap.size := A1.out.k1.lt
    have O2 := Lib.hid o2
    have hB2 : w.heap.size + 1 < w2.heap.size := A2.out.k1.lt
    clear b2 c0 c1 f1 o2
    go_wp2_with fail
    refine (WTH.out _ _ _ O2.out).mono ?_
    rintro e w3 ⟨v3, rfl, o3, b3⟩
    have A3 := Lib.hid (A2.out.next b3)
    obtain ⟨a3, d3, hv3⟩ := o3.form
    have O3 := Lib.hid o3
    clear b3 o3
    have c1 : w3.cell? ⟨w.heap.size + 1, 0, none⟩ = some (.slice none 0 0) := A3.out.k1.cell 0
    have f1 := A3.out.k1.free 0
    generalize R.length = m3 at hv3
    subst hv3
    obtain ⟨W, hW, z0, sw, bw, nw⟩ := A3.out.fin2 O3.out hB2
    have HWf := Lib.hid hW
    have HO := Lib.hid sw
    have HB := Lib.hid bw
    have HZ := Lib.hid z0
    have HN := Lib.hid nw
    clear hW sw bw z0 nw A1 A2 A3 SQ A WTH WOU
    go_wp2_with fail
    rw [← HWf.out]
    have z0 := HZ.out
    clear HWf
    refine bodyPost_ret (by simp [results, Try.results15, go_sem, z0]; try rfl) rfl ?_
    exact ⟨_, rfl, HO.out, HB.out, HN.out⟩
end Go.Proofs.Ytkaocpfkigdpoaa
