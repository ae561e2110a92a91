/-
  FILES: the files of a disk as the document has them, and whether two lists of files are the same.
-/
import Derived.Test.YtejmoaloomnmkaaNms2
import Derived.Deep.QuietTactic
import Derived.BigQuiet
namespace Go.Proofs.Ytejmoaloomnmkaa
open Go.RowKit
structure FT where
  n : Nm
  s : ByteArray
def encF (x : FT) : List Value := [.string x.n, .string x.s]
def cellsFT (l : List FT) : List Value := l.flatMap encF
theorem cellsFT_one (l : List FT) (x : FT) : cellsFT (l ++ [x]) = cellsFT l ++ encF x := by unfold cellsFT; rw [List.flatMap_append]; simp
theorem cellsFT_get : ∀ {l : List FT} {k : Nat} (h : k < l.length) (j : Nat), j < 2 → (cellsFT l)[k * 2 + j]? = (encF l[k])[j]?
  | x :: l, 0, _, j, hj => by
    show (encF x ++ cellsFT l)[0 * 2 + j]? = _
    rw [Nat.zero_mul, Nat.zero_add, List.getElem?_append_left (show j < (encF x).length from hj)]; rfl
  | x :: l, k + 1, h, j, hj => by
    have ih := cellsFT_get (l := l) (k := k) (by simpa using h) j hj
    show (encF x ++ cellsFT l)[(k + 1) * 2 + j]? = _
    have e : (encF x).length = 2 := rfl
    rw [List.getElem?_append_right (by omega), e, show (k + 1) * 2 + j - 2 = k * 2 + j by omega]
    exact ih
/-- files in memory -/
def Filed (w : World) (a : Option Addr) (L : List FT) : Prop := ∀ p (h : p < L.length), ∃ g o, a = some ⟨g, o, none⟩ ∧ g < w.heap.size ∧ w.cell? ⟨g, o + p * 2, none⟩ = some (.string L[p].n) ∧ w.cell? ⟨g, o + p * 2 + 1, none⟩ = some (.string L[p].s)
theorem Filed.below {w w' : World} {a : Option Addr} {L : List FT} (h : Filed w a L) (hb : Below w.heap.size w w') : Filed w' a L := fun p hp => by
  obtain ⟨g, o, e, hl, c0, c1⟩ := h p hp
  have q : ∀ {i : Nat} {v : Value}, w.cell? ⟨g, i, none⟩ = some v → w'.cell? ⟨g, i, none⟩ = some v := fun hc => by rw [hb.cell (p := ⟨g, _, none⟩) hl]; exact hc
  exact ⟨g, o, e, Nat.lt_of_lt_of_le hl hb.size, q c0, q c1⟩
theorem Filed.fr {w w' : World} {a : Option Addr} {L : List FT} {P : Nat → Prop} (h : Filed w a L) (F : Fr w w' P) (hP : ∀ ad : Addr, a = some ad → ¬ P ad.block) : Filed w' a L := fun p hp => by
  obtain ⟨g, o, e, hl, c0, c1⟩ := h p hp
  have hb := F.block g hl (hP _ e)
  have q : ∀ {i : Nat} {v : Value}, w.cell? ⟨g, i, none⟩ = some v → w'.cell? ⟨g, i, none⟩ = some v := fun hc => by rw [World.cell?_of_block hb]; exact hc
  exact ⟨g, o, e, Nat.lt_of_lt_of_le hl F.size, q c0, q c1⟩
theorem files_row {w : World} {B n cap : Nat} {p : Option Addr} {L : List FT} (hn : n = L.length) (h : w.ownsRow B 71 2 (.slice p n cap) n (cellsFT L)) : Filed w p L ∧ ∀ ad : Addr, p = some ad → B ≤ ad.block := by
  rcases h.2 with ⟨e, e0⟩ | ⟨g, cap, cur, e, _⟩
  · cases e
    exact ⟨fun i hi => by omega, fun _ h => by cases h⟩
  · cases e
    subst hn
    have hg := World.ownsRow.lt h g rfl
    refine ⟨fun i hi => ⟨g, 0, rfl, hg.2, ?_, ?_⟩, fun ad h => by cases h; exact hg.1⟩
    · have := cellsFT_get hi 0 (by decide); rw [Nat.zero_add, World.ownsRow.cellAt h _ (by omega)]; simpa [encF] using this
    · have := cellsFT_get hi 1 (by decide); rw [Nat.zero_add, World.ownsRow.cellAt h _ (by omega)]; simpa [encF] using this
theorem one_ft (x : FT) : ∀ u ∈ encF x, u.oneCell' = true := by
  intro u hu
  simp [encF] at hu
  rcases hu with rfl | rfl <;> rfl
theorem info71 : (Try.prog.info? 71).map (fun i => (i.zero, i.size, i.bytes)) = some (some (.agg #[.string ⟨#[]⟩, .string ⟨#[]⟩]), 2, 32) := by kernel_rfl
/-- the files of a disk -/
def filesOf (S : St) : List FT := (if S.down then [] else namesOf S.now).map fun s => ⟨s, (readV S s).1⟩
/-- at the head of a round -/
structure FlI (w W : World) (Y : Nat) (K : List FT) (u : Value) : Prop where
  o : W.ownsRow Y 71 2 u K.length (cellsFT K)
  b : Below Y w W
  y : Y ≤ W.heap.size
theorem FlI.below {w W W' : World} {Y : Nat} {K : List FT} {u : Value} (h : FlI w W Y K u) (b : Below W.heap.size W W') : FlI w W' Y K u :=
  ⟨World.ownsRow.kept h.o (row := none) ⟨b.os, b.tape, b.output, b.size, fun q hq _ => b.block q hq⟩ (by cases u.ownBlock <;> simp), h.b.trans (b.mono h.y), Nat.le_trans h.y b.size⟩
theorem FlI.push {w W w8 : World} {Y g cap : Nat} {K : List FT} {u : Value} {x : FT} (h : FlI w W Y K u) (ho : w8.ownsRow Y 71 2 (.slice (some ⟨g, 0, none⟩) (K.length + 1) cap) (K.length + 1) (cellsFT K ++ encF x)) (hg : W.grownBy w8 u.ownBlock) : FlI w w8 Y (K ++ [x]) (.slice (some ⟨g, 0, none⟩) (K.length + 1) cap) :=
  ⟨by rw [cellsFT_one, List.length_append]; exact ho, h.b.trans ⟨hg.os, hg.tape, hg.output, hg.size, fun q hq => hg.block q (Nat.lt_of_lt_of_le hq h.y) (fun e => by have := (World.ownsRow.lt h.o _ e.symm).1; omega)⟩, Nat.le_trans h.y hg.size⟩
/-- what Files answers -/
def Filesd (w : World) (L : List FT) (e : Ending) (w' : World) : Prop := ∃ p cp, e = .returned (.slice p L.length cp) ∧ Filed w' p L ∧ Below w.heap.size w w' ∧ ∀ ad : Addr, p = some ad → w.heap.size ≤ ad.block
theorem filesd_end {w w1 W : World} {L : List FT} {n m : Nat} {q : Option Addr} {cq : Nat} (hn : L.length = n) (b1 : Below w.heap.size w w1) (hm : m = n) (h : FlI w1 W w1.heap.size L (.slice q m cq)) : Filesd w L (.returned (.slice q m cq)) W := by
  subst hm; subst hn
  obtain ⟨h1, h2⟩ := files_row rfl h.o
  exact ⟨q, cq, rfl, h1, b1.trans (h.b.mono b1.size), fun ad e => Nat.le_trans b1.size (h2 ad e)⟩
theorem names_met {w : World} {B D m : Nat} {S : St} {L : Lie} (h : DkL w B D m S L) (hz : ∀ s ∈ namesOf S.now, s.size ≤ 64) : Calls Try.prog 22 #[.pointer (some ⟨D, 0, none⟩)] w fun e w' => ∃ p cp, e = .returned (.slice p (if S.down then [] else namesOf S.now).length cp) ∧ Nmsd w' p (if S.down then [] else namesOf S.now) ∧ Below w.heap.size w w' := by
  cases hd : S.down
  · exact names_any h hd hz
  · refine (names_down h hd).mono fun e w' hh => ?_
    obtain ⟨rfl, rfl⟩ := hh
    exact ⟨none, 0, rfl, fun p hp => absurd hp (Nat.not_lt_zero p), Below.refl _ _⟩
set_option maxHeartbeats 4000000 in
set_option maxRecDepth 100000 in
theorem files_any {w : World} {B D m : Nat} {S : St} {L : Lie} (h : DkL w B D m S L) (hz : ∀ s ∈ namesOf S.now, s.size ≤ 64) : Calls Try.prog 16 #[.pointer (some ⟨D, 0, none⟩)] w (Filesd w (filesOf S)) := by
  obtain ⟨i71, hi, hz0, hz1, hz2⟩ := info_parts info71
  have NC := Lib.hid (names_met h hz)
  have RD := Lib.hid (fun W (b : Below w.heap.size w W) s hs => read_any (h.below b) s hs)
  have hle : (if S.down then [] else namesOf S.now).length ≤ 100000 := by
    split
    · exact Nat.zero_le _
    · rw [namesOf_len]; have := h.g2.few; have := h.low; omega
  have hz' : ∀ s ∈ (if S.down then [] else namesOf S.now), s.size ≤ 64 := by
    split
    · intro s hs; cases hs
    · exact hz
  have hF : filesOf S = (if S.down then [] else namesOf S.now).map fun s => ⟨s, (readV S s).1⟩ := rfl
  generalize (if S.down then [] else namesOf S.now) = K at *
  obtain ⟨F, hFF⟩ : ∃ F, filesOf S = F := ⟨_, rfl⟩
  rw [hFF] at hF ⊢
  have hlF : F.length = K.length := by rw [hF, List.length_map]
  have HAT : Hid (∀ k (h : k < K.length) (h2 : k < F.length), F[k] = ⟨K[k], (readV S K[k]).1⟩) := Lib.hid (fun k h h2 => by simp [hF])
  obtain ⟨n, hn⟩ : ∃ n, K.length = n := ⟨_, rfl⟩
  rw [hn] at NC hle hlF
  have HN := Lib.hid hn
  have HNF := Lib.hid hlF
  have HZ := Lib.hid hz'
  have RE0 := Lib.hid (fun w1 W q cq m b1 hm h => filesd_end (w := w) (w1 := w1) (W := W) (q := q) (cq := cq) (m := m) hlF b1 hm h)
  clear h hz hz' hF hFF hn hlF
  go_enter Try.func16, Try.ntmps16
  go_wp2_with fail
  refine (NC.out).mono ?_
  rintro e w1 ⟨p, cp, rfl, hN, b1⟩
  have N1 := Lib.hid hN
  have RE := Lib.hid (fun W q cq m hm h => RE0.out w1 W q cq m b1 hm h)
  have B1 := Lib.hid b1
  have hY0 : Hid (FlI w1 w1 w1.heap.size [] (.slice none 0 0)) := Lib.hid ⟨World.ownsRow_nil _ _ _ _, Below.refl _ _, Nat.le_refl _⟩
  clear hN b1 NC RE0
  generalize hy1 : w1.heap.size = Y1 at *
  go_wp2_with fail
  go_loopw [5, 3] (fun i ts wq => ∃ (k : Nat) (u : Value), i = .int .i64 k ∧ ts = u ∧ k ≤ n ∧ FlI w1 wq Y1 (F.take k) u) (fun i _ _ => n - (intOf i).toNat)
  case atStart => exact ⟨0, .slice none 0 0, rfl, rfl, Nat.zero_le _, by rw [List.take_zero]; exact hY0.out⟩
  case round =>
    obtain ⟨k, u, rfl, rfl, hk, hI⟩ := hrel
    have hb1 : Below w1.heap.size w1 wr := by rw [hy1]; exact hI.b
    have hT := N1.out.below hb1
    have BW := Lib.hid (B1.out.trans (hb1.mono B1.out.size))
    obtain ⟨ua, uc, hu⟩ := nrow_form hI.o
    subst hu
    have hlen : (F.take k).length = k := by rw [List.length_take, HNF.out]; omega
    have HLk := Lib.hid hlen
    have HI := Lib.hid hI
    rw [hlen] at HI ⊢
    clear hI hlen hb1
    by_cases hkn : k < n
    · have hkL : k < K.length := by rw [HN.out]; exact hkn
      have hkF : k < F.length := by rw [HNF.out]; exact hkn
      obtain ⟨g0, o, rfl, hg0, c0⟩ := hT k hkL
      have HP0 : F.take k ++ [F[k]] = F.take (k + 1) := by rw [List.take_add_one, List.getElem?_eq_getElem hkF]; rfl
      have hE := HAT.out k hkL hkF
      rw [hE] at HP0
      have HP := Lib.hid HP0
      have hx64 := HZ.out K[k] (List.getElem_mem hkL)
      have TH := Lib.hid hT
      clear hE HP0 hT hkF
      generalize K[k] = x at *
      have RC := Lib.hid (RD.out _ BW.out x (by omega))
      generalize hrv : (readV S x).2 = re at *
      generalize (readV S x).1 = rs at *
      go_wp2_with fail
      refine (RC.out).mono ?_
      rintro e wz ⟨rfl, rfl⟩
      have I1 := HI
      clear HI hg0 RC TH hkL
      have PU := Lib.hid (fun w8 g cap => (I1.out.below ((Below.refl _ wr).alloc (Nat.le_refl _) (.cells #[.string x, .string rs] 71))).push (w8 := w8) (g := g) (cap := cap) (x := ⟨x, rs⟩))
      rw [HLk.out, HP.out] at PU
      have H1C := Lib.hid (one_ft ⟨x, rs⟩)
      have OW : Hid (wr.ownsRow Y1 71 2 (.slice ua k uc) k (cellsFT (F.take k))) := Lib.hid (by have := I1.out.o; rw [HLk.out] at this; exact this)
      have hYv : Y1 ≤ wr.heap.size := I1.out.y
      go_wp2_with (at_builtin; refine wpList_append_lies _ rfl (.tmp 25) (.tmp 32) 37 rfl Y1 71 i71 (.agg #[.string ⟨#[]⟩, .string ⟨#[]⟩]) 2 32 Try.underlying37 hi hz0 hz1 hz2 rfl (by decide) (.slice ua k uc) k (cellsFT (F.take k)) rfl (World.ownsRow.alloc OW.out _) ⟨wr.heap.size, 0, none⟩ 1 1 (encF ⟨x, rs⟩) rfl rfl (World.news_of_block (cs := #[.string x, .string rs]) (heap_alloc_new wr _)) H1C.out (by decide) (by unfold maxLen; omega) (by omega) (by simp; omega) _ rfl ?_; intro g8 cap8 w8 ho8 hg8 _ _; have I8h := Lib.hid (PU.out w8 g8 cap8 ho8 hg8); clear ho8 hg8)
      go_roundw
      case rel => exact ⟨k + 1, _, by go_num, rfl, by omega, I8h.out⟩
      case measure => simp [intOf]; omega
    · obtain rfl : k = n := by omega
      have I9 := HI.out
      rw [List.take_of_length_le (by rw [HNF.out]; exact Nat.le_refl _)] at I9
      have I9h := Lib.hid I9
      clear I9 hT
      go_wp2_with fail
      go_ret
      exact RE.out _ _ _ _ rfl I9h.out
set_option maxHeartbeats 4000000 in
set_option maxRecDepth 100000 in
theorem same_any (L : List FT) (n : Nat) (hn : L.length = n) (hn4 : n ≤ 100000) (p q : Option Addr) (cp cq : Nat) (w : World) (T1 : Filed w p L) (T2 : Filed w q L) : Calls Try.prog 17 #[.slice p n cp, .slice q n cq] w fun e w' => e = .returned (.bool true) ∧ Below w.heap.size w w' := by
  have HN := Lib.hid hn
  have H1 := Lib.hid T1
  have H2 := Lib.hid T2
  clear T1 T2 hn
  have hB0 := Lib.hid (Below.refl w.heap.size w)
  generalize hy : w.heap.size = Y at *
  go_enter Try.func17, Try.ntmps17
  go_wp2_with fail
  go_loopw [5] (fun i wq => ∃ k : Nat, i = .int .i64 k ∧ k ≤ n ∧ Below Y w wq ∧ Filed wq p L ∧ Filed wq q L) (fun i _ => n - (intOf i).toNat)
  case atStart => exact ⟨0, rfl, Nat.zero_le _, hB0.out, H1.out, H2.out⟩
  case round =>
    obtain ⟨k, rfl, hk, hB, hT1, hT2⟩ := hrel
    have HB := Lib.hid hB
    have HT1 := Lib.hid hT1
    have HT2 := Lib.hid hT2
    clear hB hT1 hT2
    by_cases hkn : k < n
    · have hkL : k < L.length := by rw [HN.out]; exact hkn
      obtain ⟨g0, o, rfl, hg0, c0, c1⟩ := HT1.out k hkL
      obtain ⟨g1, o1, rfl, hg1, d0, d1⟩ := HT2.out k hkL
      generalize L[k] = x at *
      obtain ⟨xn, xs⟩ := x
      simp only at c0 c1 d0 d1
      clear hkL
      go_upto_region 6 with fail
      go_quiet (fail)
      have B6h := Lib.hid (below_drewN HB.out nq)
      have T6h : Hid (Filed (wr.drewN nq) (some ⟨g0, o, none⟩) L) := HT1
      have T6i : Hid (Filed (wr.drewN nq) (some ⟨g1, o1, none⟩) L) := HT2
      clear c0 c1 d0 d1 HB HT1 HT2 hg0 hg1
      generalize wr.drewN nq = w6 at *
      go_wp2_with fail
      go_roundw
      case rel => exact ⟨k + 1, by go_num, by omega, B6h.out, T6h.out, T6i.out⟩
      case measure => simp [intOf]; omega
    · have hkm' : ¬ (k : Int) < (n : Int) := by omega
      go_wp2_with fail
      go_ret
      exact ⟨rfl, HB.out⟩
end Go.Proofs.Ytejmoaloomnmkaa
