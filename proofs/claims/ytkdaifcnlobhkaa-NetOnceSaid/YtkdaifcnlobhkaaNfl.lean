/-
  NetFull as a walk.
-/
import Derived.Test.YtkdaifcnlobhkaaNls
namespace Go.Proofs.Ytkdaifcnlobhkaa
open Go.RowKit
theorem ins_last {x : Ag.It} : ∀ {l : List Ag.It}, (∀ y ∈ l, y.lt x) → Ag.ins x l = l ++ [x]
  | [], _ => rfl
  | y :: l, h => by
    unfold Ag.ins
    rw [if_pos (h y (by simp)), ins_last (fun z hz => h z (List.mem_cons_of_mem _ hz))]
    rfl
theorem ins_first {x : Ag.It} : ∀ {l : List Ag.It}, (∀ y ∈ l, ¬ y.lt x) → Ag.ins x l = x :: l
  | [], _ => rfl
  | y :: l, h => by
    unfold Ag.ins
    rw [if_neg (h y (by simp))]
/-- what is under way behind k asks -/
def rowF (k : Nat) : List Ag.It := (List.range k).map fun (i : Nat) => ⟨(i : Int) + 5, (i : Int) + 1, 0⟩
theorem rowF_len (k : Nat) : (rowF k).length = k := by unfold rowF; simp
theorem rowF_mem {k : Nat} {x : Ag.It} (h : x ∈ rowF k) : ∃ i : Nat, i < k ∧ x = ⟨(i : Int) + 5, (i : Int) + 1, 0⟩ := by
  unfold rowF at h
  obtain ⟨i, hi, rfl⟩ := List.mem_map.1 h
  exact ⟨i, List.mem_range.1 hi, rfl⟩
theorem rowF_succ (k : Nat) : Ag.ins ⟨(k : Int) + 5, (k : Int) + 1, 0⟩ (rowF k) = rowF (k + 1) := by
  rw [ins_last]
  · unfold rowF
    rw [List.range_succ, List.map_append]
    rfl
  · intro y hy
    obtain ⟨i, hi, rfl⟩ := rowF_mem hy
    unfold Ag.It.lt
    left
    show (i : Int) + 5 < (k : Int) + 5
    omega
def askF : Int → Ask := fun _ => ⟨0, 1, 1⟩
theorem askF_put (Z : Int) : (fun i => if i = Z + 1 then (⟨0, 1, 1⟩ : Ask) else askF i) = askF := by
  funext i
  unfold askF
  split <;> rfl
theorem okF : OkA ⟨0, 1, 1⟩ := ⟨by decide, by decide, by decide, by decide⟩
theorem send_F {w0 w : World} {N k : Nat} (h : NetS w0 N (k : Int) (rowF k) askF noC w) (hk : k < 4096) :
    Calls Try.prog 12 #[.pointer (some ⟨N, 0, none⟩), .int .i64 (k : Int), .agg (askA 0 1 1), .int .i64 5] w fun e w' => e = .returned (.tuple #[.int .i64 ((k : Int) + 1), .int .i64 0]) ∧ NetS w0 N ((k + 1 : Nat) : Int) (rowF (k + 1)) askF noC w' :=
  (send_any h (k : Int) 5 ⟨0, 1, 1⟩ okF (by omega) (by decide) rfl (by rw [rowF_len]; exact hk) (by omega)).mono fun e w' hs => by
    obtain ⟨he, hn⟩ := hs
    rw [askF_put, rowF_succ] at hn
    exact ⟨he, by exact_mod_cast hn⟩
theorem rem_two (a b : Int) (hb : 0 < b) (hb2 : b ≤ 10000) : ∃ n : Nat, (wrap64 (a.tmod b + b)).tmod b = (n : Int) ∧ (n : Int) < b := by
  have h1 := Int.lt_tmod_of_pos a hb
  have h0 := Int.tmod_lt_of_pos a hb
  have hw : wrap64 (a.tmod b + b) = a.tmod b + b := by unfold wrap64; omega
  rw [hw]
  have h2 := Int.tmod_lt_of_pos (a.tmod b + b) hb
  have h3 := Int.tmod_nonneg b (show 0 ≤ a.tmod b + b by omega)
  exact ⟨((a.tmod b + b).tmod b).toNat, by omega, by omega⟩
/-- what is left where one is lost -/
def lostF (j : Nat) : List Ag.It := (rowF 4096).filter fun x => x.i != (j : Int) + 1
theorem lostN_len {n j : Nat} (hj : j < n) : ((rowF n).filter fun x => x.i != (j : Int) + 1).length = n - 1 := by
  have e : ((rowF n).filter fun x => x.i != (j : Int) + 1) = ((List.range n).filter (fun i => i != j)).map fun (i : Nat) => (⟨(i : Int) + 5, (i : Int) + 1, 0⟩ : Ag.It) := by
    unfold rowF
    rw [List.filter_map]
    refine congrArg _ ?_
    apply List.filter_congr
    intro i _
    simp only [Function.comp]
    rw [Bool.eq_iff_iff]
    simp only [bne_iff_ne, ne_eq]
    omega
  rw [e, List.length_map, ← List.Nodup.erase_eq_filter List.nodup_range, List.length_erase_of_mem (List.mem_range.2 hj), List.length_range]
theorem lostF_len {j : Nat} (hj : j < 4096) : (lostF j).length = 4095 := lostN_len hj
theorem lostF_not (j : Nat) : ¬ ∃ x ∈ lostF j, x.i = (j : Int) + 1 := by
  rintro ⟨x, hx, e⟩
  have := (List.mem_filter.1 hx).2
  simp [e] at this
theorem lostF_again (j : Nat) : (lostF j).filter (fun x => x.i != (j : Int) + 1) = lostF j := by
  unfold lostF
  rw [List.filter_filter]
  simp
theorem rowF_has {j : Nat} (hj : j < 4096) : ∃ x ∈ rowF 4096, x.i = (j : Int) + 1 := ⟨⟨(j : Int) + 5, (j : Int) + 1, 0⟩, by unfold rowF; exact List.mem_map.2 ⟨j, List.mem_range.2 hj, rfl⟩, rfl⟩
theorem lostF_late {j : Nat} : ∀ y ∈ lostF j, 5 ≤ y.t := by
  intro y hy
  obtain ⟨i, _, rfl⟩ := rowF_mem (List.mem_filter.1 hy).1
  show (5 : Int) ≤ (i : Int) + 5
  omega
theorem lostF_first (j : Nat) : Ag.ins ⟨0, 4097, 0⟩ (lostF j) = ⟨0, 4097, 0⟩ :: lostF j := ins_first (fun y hy => by
  have := lostF_late y hy
  unfold Ag.It.lt
  simp only
  omega)
theorem lostF_due (j : Nat) : ((⟨0, 4097, 0⟩ : Ag.It) :: lostF j).filter (fun x => decide (x.t ≤ 0)) = [⟨0, 4097, 0⟩] ∧ ((⟨0, 4097, 0⟩ : Ag.It) :: lostF j).filter (fun x => !decide (x.t ≤ 0)) = lostF j := by
  constructor
  · rw [List.filter_cons, if_pos (by decide), List.filter_eq_nil_iff.2]
    intro y hy
    have := lostF_late y hy
    simp
    omega
  · rw [List.filter_cons, if_neg (by decide), List.filter_eq_self.2]
    intro y hy
    have := lostF_late y hy
    simp
    omega
set_option maxHeartbeats 8000000 in
set_option maxRecDepth 100000 in
theorem full_law (lose : Int) (w : World) : Calls Try.prog 6 #[.int .i64 lose] w fun e w' => e = .returned (.bool true) ∧ Below w.heap.size w w' := by
  obtain ⟨j, ej, hj⟩ := rem_two lose 4096 (by decide) (by decide)
  have hj' : j < 4096 := by omega
  have NW := Lib.hid (net_new w w askF (Below.refl _ _))
  have AW := Lib.hid awake_any
  have EJ := Lib.hid ej
  clear ej
  go_enter Try.func6, Try.ntmps6
  go_wp2_with fail
  refine NW.out.mono ?_
  rintro e w1 ⟨N, rfl, h1⟩
  have H1 := Lib.hid h1
  clear h1 NW
  go_wp2_with fail
  refine (AW.out _).mono ?_
  rintro e w2 ⟨rfl, b2⟩
  have H2 : Hid (NetS w N ((0 : Nat) : Int) (rowF 0) askF noC w2) := Lib.hid (H1.out.next b2)
  clear b2 H1
  go_wp2_with fail
  go_loopw [4] (fun i wr => ∃ k : Nat, i = .int .i64 (k : Int) ∧ k ≤ 4096 ∧ Hid (NetS w N (k : Int) (rowF k) askF noC wr)) (fun i _ => 4096 - (intOf i).toNat)
  case atStart => exact ⟨0, rfl, by omega, H2⟩
  case round =>
    obtain ⟨k, rfl, hk, hH⟩ := hrel
    clear H2
    by_cases hlt : k < 4096
    · have h1 : (k : Int) < 4096 := by omega
      go_wp2_with fail
      refine (ask_fun 0 1 1 _).mono ?_
      rintro e w3 ⟨rfl, b3⟩
      have SN := Lib.hid (send_F (hH.out.next b3) hlt)
      clear b3 hH
      unfold askA at SN
      unfold askA
      go_wp2_with fail
      refine SN.out.mono ?_
      rintro e w4 ⟨rfl, h4⟩
      have H4 := Lib.hid h4
      clear h4 SN
      go_wp2_with fail
      go_roundw
      case rel => exact ⟨k + 1, by go_num, by omega, H4⟩
      case measure => simp [intOf]; omega
    · have ek : k = 4096 := by omega
      subst ek
      have H3 : Hid (NetS w N 4096 (rowF 4096) askF noC wr) := hH
      clear hH hlt hk
      go_wp2_with fail
      refine (ask_fun 0 1 1 _).mono ?_
      rintro e w4 ⟨rfl, b4⟩
      have H4 := Lib.hid (H3.out.next b4)
      have SF := Lib.hid (send_full H4.out 0 0 ⟨0, 1, 1⟩ okF (by decide) (by decide) rfl (rowF_len 4096))
      have TF := Lib.hid (fun V (hV : NetS w N 4096 (rowF 4096) askF noC V) => twice_full hV ⟨5, 1, 0⟩ (List.mem_map.2 ⟨0, List.mem_range.2 (by decide), rfl⟩) (by unfold I64; decide) 0 0 (by decide) (by decide) rfl (rowF_len 4096))
      clear b4 H3
      unfold askA at SF
      unfold askA
      go_wp2_with fail
      refine SF.out.mono ?_
      rintro e w5 ⟨rfl, h5⟩
      have H5 := Lib.hid h5
      clear h5 SF H4
      go_wp2_with fail
      refine (TF.out _ H5.out).mono ?_
      rintro e w6 ⟨rfl, h6⟩
      have H6 := Lib.hid h6
      clear h6 TF H5
      have L1 := Lib.hid (net_lose H6.out ((j : Int) + 1) (by unfold I64; omega))
      have hd1 := decide_eq_true (rowF_has hj')
      have hd2 := decide_eq_false (lostF_not j)
      unfold LostN at L1
      rw [hd1] at L1
      have L2 := Lib.hid (fun V (hV : NetS w N 4096 (lostF j) askF noC V) => net_lose hV ((j : Int) + 1) (by unfold I64; omega))
      unfold LostN at L2
      rw [hd2, lostF_again] at L2
      clear hd1 hd2
      have ew : wrap64 ((j : Int) + 1) = (j : Int) + 1 := by unfold wrap64; omega
      have EJ2 := EJ.out
      go_wp2_with fail
      clear EJ2 ew
      refine L1.out.mono ?_
      rintro e w7 ⟨rfl, h7⟩
      have H7 : Hid (NetS w N 4096 (lostF j) askF noC w7) := Lib.hid h7
      clear h7 L1 H6
      go_wp2_with fail
      refine (L2.out _ H7.out).mono ?_
      rintro e w8 ⟨rfl, h8⟩
      have H8 := Lib.hid h8
      clear h8 L2 H7
      go_wp2_with fail
      refine (ask_fun 0 1 1 _).mono ?_
      rintro e w9 ⟨rfl, b9⟩
      have H9 := Lib.hid (H8.out.next b9)
      have SN := Lib.hid (send_any H9.out 0 0 ⟨0, 1, 1⟩ okF (by decide) (by decide) rfl (by rw [lostF_len hj']; decide) (by decide))
      clear b9 H8
      unfold SentN at SN
      rw [askF_put] at SN
      unfold askA at SN
      unfold askA
      go_wp2_with fail
      refine SN.out.mono ?_
      rintro e w10 ⟨rfl, h10⟩
      have H10 : Hid (NetS w N 4097 (⟨0, 4097, 0⟩ :: lostF j) askF noC w10) := Lib.hid (by rw [← lostF_first]; exact h10)
      clear h10 SN H9
      have DU := Lib.hid (net_dueK H10.out 0 (by rw [List.length_cons, lostF_len hj']; decide) (by decide))
      rw [(lostF_due j).1, (lostF_due j).2] at DU
      go_wp2_with fail
      refine DU.out.mono ?_
      rintro e w11 ⟨a11, c11, rfl, h11, _, _⟩
      have H11 := Lib.hid h11
      have LN := Lib.hid (net_len H11.out)
      rw [lostF_len hj'] at LN
      have B11 := Lib.hid H11.out.bel
      have e11 : (selA noC askF ([⟨0, 4097, 0⟩] : List Ag.It)).length = 1 := rfl
      rw [e11]
      clear h11 DU H10 e11
      go_wp2_with fail
      refine LN.out.mono ?_
      rintro e w12 ⟨rfl, rfl⟩
      go_wp2_with fail
      go_ret
      exact ⟨rfl, B11.out⟩
end Go.Proofs.Ytkdaifcnlobhkaa
