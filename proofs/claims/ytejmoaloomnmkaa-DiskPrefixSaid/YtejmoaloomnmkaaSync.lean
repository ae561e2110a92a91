/-
  ALL CHANGES ARE MADE SURE: Sync.
-/
import Derived.Test.YtejmoaloomnmkaaCount
namespace Go.Proofs.Ytejmoaloomnmkaa
open Go.RowKit
theorem sync_nil (w : World) : Calls Try.prog 10 #[.pointer none] w fun e w' => e = .returned (.int .i64 1) ∧ w = w' := by
  go_enter Try.func10, Try.ntmps10
  go_wp2_with fail
  refine (ready_nil _).mono ?_
  rintro e w1 ⟨rfl, rfl⟩
  go_wp2_with fail
  first | go_ret | go_ret2
  exact ⟨rfl, rfl⟩
theorem sync_down {w : World} {B D m : Nat} {S : St} {L : Lie} (h : DkL w B D m S L) (hd : S.down = true) : Calls Try.prog 10 #[.pointer (some ⟨D, 0, none⟩)] w fun e w' => e = .returned (.int .i64 8) ∧ w = w' := by
  have R := Lib.hid (ready_any h.blk)
  unfold readyE at R
  rw [hd, if_pos rfl] at R
  clear h hd
  go_enter Try.func10, Try.ntmps10
  go_wp2_with fail
  refine R.out.mono ?_
  rintro e w1 ⟨rfl, rfl⟩
  go_wp2_with fail
  first | go_ret | go_ret2
  exact ⟨rfl, rfl⟩
/-- while a row is made sure -/
structure Syn (w wq : World) (B D m : Nat) (S : St) (L : Lie) (j : Nat) (V1 : Nm → Value) : Prop where
  d : DkL wq B D (m + j) { S with sure := doAll S.sure (S.row.take j) } { L with V1 := V1 }
  f : Fr w wq (fun q => q = D ∨ Foot L.M1 L.V1 q)
  n : ∀ q, Foot L.M1 V1 q → Foot L.M1 L.V1 q ∨ w.heap.size ≤ q
/-- what Sync leaves -/
def SyncW (w : World) (B D m : Nat) (S : St) (L : Lie) (e : Ending) (w' : World) : Prop :=
  ∃ S1 S' L' x, e = .returned (.int .i64 x) ∧ DkL w' B D (m + 2 * S.row.length + 2) S' L' ∧ Counted S S1 x ∧ S' = (if x = 0 then { S1 with sure := doAll S.sure S.row, row := [] } else S1) ∧ Fr w w' (L.foot D) ∧ ∀ q, L'.foot D q → L.foot D q ∨ w.heap.size ≤ q
theorem Syn.next {w wr w3 w4 : World} {B D m : Nat} {S : St} {L : Lie} {j : Nat} {V1 V' : Nm → Value} {c : Chg} (h : Syn w wr B D m S L j V1) (hs : doAll S.sure (S.row.take (j + 1)) = c.doF (doAll S.sure (S.row.take j))) (hb : Below wr.heap.size wr w3)
    (hd : DkL w4 B D (m + j + 1) { S with sure := c.doF (doAll S.sure (S.row.take j)) } { L with V1 := V' }) (F : Fr w3 w4 (fun q => q = D ∨ Foot L.M1 V1 q)) (hN : ∀ q, Foot L.M1 V' q → Foot L.M1 V1 q ∨ w3.heap.size ≤ q) : Syn w w4 B D m S L (j + 1) V' := by
  have h1 := h.f.size
  have h2 := hb.size
  refine ⟨by rw [hs]; exact hd, (h.f.trans (Fr.of_below hb (fun _ => False)) (fun _ _ h => h) (fun _ _ h => h.elim)).trans F (fun _ _ h => h) (fun q hq hh => ?_), fun q hq => ?_⟩
  · rcases hh with e | hh
    · exact .inl e
    · rcases h.n q hh with h' | h'
      · exact .inr h'
      · omega
  · rcases hN q hq with hh | hh
    · exact h.n q hh
    · right; omega
set_option maxHeartbeats 4000000 in
set_option maxRecDepth 100000 in
theorem sync_any {w : World} {B D m : Nat} {S : St} {L : Lie} (h : DkL w B D m S L) (hd : S.down = false) (hr : mayAll S.sure S.row) (hm : m + 2 * S.row.length < 99990) (ht : S.trip ≤ 9223372036854775807) (hk : S.keep ≤ 9223372036854775807) :
    Calls Try.prog 10 #[.pointer (some ⟨D, 0, none⟩)] w (SyncW w B D m S L) := by
  have R := Lib.hid (ready_any h.blk)
  unfold readyE at R
  rw [hd, if_neg (by decide)] at R
  have C := Lib.hid (count_any h hd hr (by omega) ht hk)
  clear h
  go_enter Try.func10, Try.ntmps10
  go_wp2_with fail
  refine R.out.mono ?_
  rintro e w1 ⟨rfl, rfl⟩
  go_wp2_with fail
  refine C.out.mono ?_
  rintro e w2 ⟨S1, L1, x, rfl, h2, hcnt, F2, hN2⟩
  rcases hcnt with ⟨hn1, rfl, hS1⟩ | ⟨h1, rfl, hS1⟩
  · have e1 : S1.row = S.row := by rw [hS1]
    have e2 : S1.sure = S.sure := by rw [hS1]
    have H2 := Lib.hid h2
    obtain ⟨av, cap, hv⟩ := row_form h2.row
    have c4 : w2.cell? ⟨D, 4, none⟩ = some (.slice av S.row.length cap) := by rw [← e1, ← hv]; exact h2.blk.cell 4
    have f4 := h2.blk.free 4
    have HV := Lib.hid hv
    have HS1 := Lib.hid hS1
    have E1 := Lib.hid e1
    have E2 := Lib.hid e2
    have HR := Lib.hid hr
    have F2' := Lib.hid F2
    have N2 := Lib.hid hN2
    clear h2 hv hS1 e1 e2 hr F2 hN2 R C
    have hn1' := hn1
    clear hn1
    have hn1 : S1.row.length = S.row.length := by rw [E1.out]
    generalize hn : S.row.length = n at *
    have HN := Lib.hid hn1
    have HN0 := Lib.hid hn
    clear hn hn1
    have hn9 : n ≤ 99999 := by omega
    go_wp2_with fail
    go_loopw [22] (fun i wq => ∃ (j : Nat) (V1 : Nm → Value), i = .int .i64 j ∧ j ≤ n ∧ Syn w2 wq B D (m + n + 2) S1 L1 j V1) (fun i _ => n - (intOf i).toNat)
    case atStart => exact ⟨0, L1.V1, rfl, Nat.zero_le _, ⟨H2.out, Fr.refl _ _, fun q hq => .inl hq⟩⟩
    case round =>
      obtain ⟨j, V1, rfl, hj, hS⟩ := hrel
      have HS := Lib.hid hS
      clear hS
      by_cases hjn : j < n
      · have hjl : j < S1.row.length := by rw [HN.out]; exact hjn
        have hrow := HS.out.d.row
        obtain ⟨g, hga, hcell⟩ : ∃ g, av = some ⟨g, 0, none⟩ ∧ wr.cell? ⟨g, j, none⟩ = some (.iface S1.row[j].ty S1.row[j].in_) := by
          have hrow2 : wr.ownsRow B 62 1 (.slice av n cap) n (S1.row.map Chg.val) := by
            have h9 := hrow
            simp only at h9
            rw [HV.out, HN.out] at h9
            exact h9
          exact row_cell hrow2 hjl
        subst hga
        clear hrow
        have hmay : S1.row[j].may (doAll S1.sure (S1.row.take j)) := mayAll_at (by rw [E2.out, E1.out]; exact HR.out) hjl
        have HSN := Lib.hid (doAll_snoc S1.sure S1.row hjl)
        have HDO := Lib.hid (DkL.doSure HS.out.d (by omega) (c := S1.row[j]) hmay)
        have hval := Chg.val_eq S1.row[j]
        rw [hval] at HDO
        clear hval hmay
        generalize S1.row[j] = c at *
        go_wp2_with fail
        refine HDO.out.mono ?_
        rintro e w4 ⟨rfl, V', d1, F, hN⟩
        have HS4 := Lib.hid (HS.out.next HSN.out (Below.refl _ _) d1 F hN)
        clear d1 F hN HDO HSN hcell
        go_wp2_with fail
        go_roundw
        case rel => exact ⟨j + 1, V', by go_num, by omega, HS4.out⟩
        case measure => simp [intOf]; omega
      · obtain rfl : j = n := by omega
        have d1 := HS.out.d
        have c4' : wr.cell? ⟨D, 4, none⟩ = some L1.v := d1.blk.cell 4
        have f4' := d1.blk.free 4
        have FIN : Hid (SyncW w B D m S L (.returned (.int .i64 0)) (wr.setCell ⟨D, 4, none⟩ (.slice none 0 0))) := Lib.hid (by
          have d2 := d1.bare
          have ht : S1.row.take j = S1.row := List.take_of_length_le (by rw [HN.out]; exact Nat.le_refl _)
          rw [ht] at d2
          have hl := HN0.out
          refine ⟨S1, { S1 with sure := doAll S1.sure S1.row, row := [] }, _, 0, rfl, d2.mono (by omega) (by omega), .inl ⟨hn1', rfl, HS1.out⟩, ?_, ?_, fun q hq => ?_⟩
          · rw [if_pos rfl, E1.out, E2.out]
          · refine (F2'.out.trans HS.out.f (R := L.foot D) (fun _ _ h => h) (fun q hq hh => ?_)).trans (fr_set _ D 4 _) (fun _ _ h => h) (fun _ _ e => .inl e)
            rcases hh with e | hh
            · exact .inl e
            · rcases N2.out q (.inr (.inl hh)) with h' | h'
              · exact h'
              · omega
          · have hs := F2'.out.size
            have hT : ∀ {q}, L1.foot D q → L.foot D q ∨ w.heap.size ≤ q := fun {q} hh => N2.out q hh
            rcases hq with hq | hq | hq | hq
            · exact .inl (.inl hq)
            · rcases HS.out.n q hq with hh | hh
              · exact hT (.inr (.inl hh))
              · right; omega
            · exact hT (.inr (.inr (.inl hq)))
            · simp [nilS, Value.ownBlock] at hq)
        clear d1
        go_wp2_with fail
        first | go_ret | go_ret2
        exact FIN.out
  · have FIN : Hid (SyncW w B D m S L (.returned (.int .i64 8)) w2) := Lib.hid ⟨S1, S1, L1, 8, rfl, h2.mono (by omega) (by omega), .inr ⟨h1, rfl, hS1⟩, by rw [if_neg (by decide)], F2, hN2⟩
    clear h2 F2 hN2 hS1 R C
    go_wp2_with fail
    first | go_ret | go_ret2
    exact FIN.out
end Go.Proofs.Ytejmoaloomnmkaa
