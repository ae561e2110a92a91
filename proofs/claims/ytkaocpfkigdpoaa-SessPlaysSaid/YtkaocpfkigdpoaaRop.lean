/-
  THE DOCUMENT'S TABLE: Open, Close, Take.
-/
import Derived.Test.YtkaocpfkigdpoaaRpl
namespace Go.Proofs.Ytkaocpfkigdpoaa
open Go.RowKit
/-- the blocks of a call: the table that came in, and the result's cell -/
structure As (w0 w : World) (v : Value) : Prop where
  k0 : Blk w w0.heap.size 27 #[v]
  k1 : Blk w (w0.heap.size + 1) 27 #[.slice none 0 0]
  bel : Below w0.heap.size w0 w
theorem As.next {w0 w w' : World} {v : Value} (h : As w0 w v) (b : Below w.heap.size w w') : As w0 w' v := ⟨h.k0.next b, h.k1.next b, h.bel.trans (b.mono h.bel.size)⟩
theorem as_new (w : World) (v : Value) : As w ((w.alloc (.cells #[v] 27)).alloc (.cells #[.slice none 0 0] 27)) v := by
  have ba := (Below.refl w.heap.size w).alloc (Nat.le_refl _) (.cells #[v] 27)
  have bb := (Below.refl (w.alloc (.cells #[v] 27)).heap.size (w.alloc (.cells #[v] 27))).alloc (Nat.le_refl _) (.cells #[.slice none 0 0] 27)
  have k := Blk.new (w.alloc (.cells #[v] 27)) 27 #[.slice none 0 0]
  rw [World.size_alloc] at k
  exact ⟨(Blk.new w 27 _).next bb, k, ba.trans (bb.mono (by simp))⟩
theorem Ses.fr {w w' : World} {v : Value} {L : List Sn} (h : Ses w v L) {B : Nat} (hb : Below B w w') (hB : ∀ q, v.ownBlock = some q → q < B) : Ses w' v L := by
  obtain ⟨a, c, rfl, f⟩ := h
  refine ⟨a, c, rfl, fun p hp => ?_⟩
  obtain ⟨g, o, e, hg, c1, c2⟩ := f p hp
  have hgB : g < B := hB g (by rw [e]; rfl)
  exact ⟨g, o, e, Nat.lt_of_lt_of_le hg hb.size, by rw [hb.cell (p := ⟨g, _, none⟩) hgB]; exact c1, by rw [hb.cell (p := ⟨g, _, none⟩) hgB]; exact c2⟩
theorem Ses.set {w : World} {v u : Value} {L : List Sn} {b i : Nat} (h : Ses w v L) (hb : ∀ q, v.ownBlock = some q → q ≠ b) : Ses (w.setCell ⟨b, i, none⟩ u) v L := by
  obtain ⟨a, c, rfl, f⟩ := h
  refine ⟨a, c, rfl, fun p hp => ?_⟩
  obtain ⟨g, o, e, hg, c1, c2⟩ := f p hp
  have hgb : g ≠ b := hb g (by rw [e]; rfl)
  have fr := fr_set w b i u
  have k := fr.block g hg hgb
  exact ⟨g, o, e, Nat.lt_of_lt_of_le hg fr.size, by rw [World.cell?_of_block k]; exact c1, by rw [World.cell?_of_block k]; exact c2⟩
theorem Ses.keep {w w1 : World} {v u : Value} {L : List Sn} {b : Nat} (h : Ses w v L) (hb : Below w.heap.size w w1) (hB : w.heap.size ≤ b) : Ses (w1.setCell ⟨b, 0, none⟩ u) v L := by
  obtain ⟨a, c, rfl, f⟩ := h
  refine ⟨a, c, rfl, fun p hp => ?_⟩
  obtain ⟨g, o, e, hg, c1, c2⟩ := f p hp
  have hgb : g ≠ b := by omega
  have fr := fr_set w1 b 0 u
  have hg1 : g < w1.heap.size := Nat.lt_of_lt_of_le hg hb.size
  have k := fr.block g hg1 hgb
  exact ⟨g, o, e, Nat.lt_of_lt_of_le hg1 fr.size, by rw [World.cell?_of_block k, hb.cell (p := ⟨g, _, none⟩) hg]; exact c1, by rw [World.cell?_of_block k, hb.cell (p := ⟨g, _, none⟩) hg]; exact c2⟩
theorem OwnR.keep {w1 : World} {B : Nat} {v u : Value} {L : List Sn} {b : Nat} (h : OwnR w1 B v L) (hB : b < B) : Ses (w1.setCell ⟨b, 0, none⟩ u) v L :=
  OwnR.ses (Fr.own h (fr_set w1 b 0 u) (fun q hq e => by have := (ownr_ne h q hq).1; omega))
/-- where the answered table lies: where it lay, or in what is new -/
def New (w : World) (v v' : Value) (w' : World) : Prop := v' = v ∨ ∀ q, v'.ownBlock = some q → w.heap.size ≤ q ∧ q < w'.heap.size
/-- the result at once -/
theorem fin0 {w : World} {v : Value} {L : List Sn} (h : Ses w v L) : ∃ W, W = (w.alloc (.cells #[v] 27)).alloc (.cells #[v] 27) ∧ W.cell? ⟨w.heap.size + 1, 0, none⟩ = some v ∧ Ses W v L ∧ Below w.heap.size w W ∧ New w v v W := by
  have ba := (Below.refl w.heap.size w).alloc (Nat.le_refl _) (.cells #[v] 27)
  have bb := (Below.refl (w.alloc (.cells #[v] 27)).heap.size (w.alloc (.cells #[v] 27))).alloc (Nat.le_refl _) (.cells #[v] 27)
  have k := Blk.new (w.alloc (.cells #[v] 27)) 27 #[v]
  rw [World.size_alloc] at k
  exact ⟨_, rfl, k.cell 0, (h.next ba).next bb, ba.trans (bb.mono (by simp)), .inl rfl⟩
/-- the result behind calls: the table that came in -/
theorem As.fin {w0 w : World} {v : Value} {L : List Sn} (h : As w0 w v) (s : Ses w0 v L) : ∃ W, W = w.setCell ⟨w0.heap.size + 1, 0, none⟩ v ∧ W.cell? ⟨w0.heap.size + 1, 0, none⟩ = some v ∧ Ses W v L ∧ Below w0.heap.size w0 W ∧ New w0 v v W :=
  ⟨_, rfl, (h.k1.set 0 v).cell 0, s.keep h.bel (by omega), h.bel.setCell (p := ⟨w0.heap.size + 1, 0, none⟩) (by simp) _, .inl rfl⟩
/-- another one -/
theorem As.fin2 {w0 w : World} {v v' : Value} {L : List Sn} {B : Nat} (h : As w0 w v) (s : OwnR w B v' L) (hB : w0.heap.size + 1 < B) : ∃ W, W = w.setCell ⟨w0.heap.size + 1, 0, none⟩ v' ∧ W.cell? ⟨w0.heap.size + 1, 0, none⟩ = some v' ∧ Ses W v' L ∧ Below w0.heap.size w0 W ∧ New w0 v v' W :=
  ⟨_, rfl, (h.k1.set 0 v').cell 0, s.keep hB, h.bel.setCell (p := ⟨w0.heap.size + 1, 0, none⟩) (by simp) _, .inr (fun q hq => by have := ownr_ne s q hq; rw [World.size_setCell]; omega)⟩
/-- what a call that answers a table and a number leaves -/
def Tbn (w : World) (v : Value) (L : List Sn) (n : Int) (e : Ending) (w' : World) : Prop := ∃ v', e = .returned (.tuple #[.agg #[v'], .int .i64 n]) ∧ Ses w' v' L ∧ Below w.heap.size w w' ∧ New w v v' w'
set_option maxHeartbeats 2000000 in
set_option maxRecDepth 100000 in
theorem ropen_any {w : World} {v : Value} {L : List Sn} (id : Int) (h : Ses w v L) (ok : Okt L) : Calls Try.prog 11 #[.agg #[v], .int .i64 id] w (Tbn w v (opT id L).1 (opT id L).2) := by
  have hn := ok.n
  have hnI : (L.length : Int) ≤ 32 := by omega
  have HH := Lib.hid h
  have A := Lib.hid (as_new w v)
  obtain ⟨a, c, hv⟩ : ∃ a c, v = .slice a L.length c := by obtain ⟨a, c, e, _⟩ := h; exact ⟨a, c, e⟩
  by_cases h1 : id < 1
  · have E : opT id L = (L, 1) := by unfold opT; rw [if_pos (.inl h1)]
    rw [E]
    clear h ok E
    subst hv
    go_enter Try.func11, Try.ntmps11
    obtain ⟨W, hW, z0, sw, bw, nw⟩ := fin0 HH.out
    have HWf := Lib.hid hW
    have HO := Lib.hid sw
    have HB := Lib.hid bw
    have HZ := Lib.hid z0
    have HN := Lib.hid nw
    clear hW sw bw z0 nw
    go_wp2_with fail
    rw [← HWf.out]
    have z0 := HZ.out
    clear HWf
    refine bodyPost_ret (by simp [results, Try.results11, go_sem, z0]; try rfl) rfl ?_
    exact ⟨_, rfl, HO.out, HB.out, HN.out⟩
  by_cases h2 : 549755813888 < id
  · have E : opT id L = (L, 1) := by unfold opT; rw [if_pos (.inr h2)]
    rw [E]
    have h0 : 1 ≤ id := by omega
    clear h ok E
    subst hv
    go_enter Try.func11, Try.ntmps11
    obtain ⟨W, hW, z0, sw, bw, nw⟩ := fin0 HH.out
    have HWf := Lib.hid hW
    have HO := Lib.hid sw
    have HB := Lib.hid bw
    have HZ := Lib.hid z0
    have HN := Lib.hid nw
    clear hW sw bw z0 nw
    go_wp2_with fail
    rw [← HWf.out]
    have z0 := HZ.out
    clear HWf
    refine bodyPost_ret (by simp [results, Try.results11, go_sem, z0]; try rfl) rfl ?_
    exact ⟨_, rfl, HO.out, HB.out, HN.out⟩
  have h1' : 1 ≤ id := by omega
  have h2' : id ≤ 549755813888 := by omega
  have SQ := Lib.hid (fun W (b : Below w.heap.size w W) => seq_any id (HH.out.next b) (by omega))
  by_cases h3 : 0 ≤ sq id L
  · have E : opT id L = (L, 9) := by unfold opT; rw [if_neg (by omega), if_pos h3]
    rw [E]
    clear h ok E h1 h2
    subst hv
    generalize sq id L = q at *
    go_enter Try.func11, Try.ntmps11
    go_wp2_with fail
    refine (SQ.out _ A.out.bel).mono ?_
    rintro e w1 ⟨rfl, b1⟩
    have A1 := Lib.hid (A.out.next b1)
    clear b1
    have c0 : w1.cell? ⟨w.heap.size, 0, none⟩ = some (.slice a L.length c) := A1.out.k0.cell 0
    have c1 : w1.cell? ⟨w.heap.size + 1, 0, none⟩ = some (.slice none 0 0) := A1.out.k1.cell 0
    have f1 := A1.out.k1.free 0
    obtain ⟨W, hW, z0, sw, bw, nw⟩ := A1.out.fin HH.out
    have HWf := Lib.hid hW
    have HO := Lib.hid sw
    have HB := Lib.hid bw
    have HZ := Lib.hid z0
    have HN := Lib.hid nw
    clear hW sw bw z0 nw A1 SQ A
    go_wp2_with fail
    rw [← HWf.out]
    have z0 := HZ.out
    clear HWf
    refine bodyPost_ret (by simp [results, Try.results11, go_sem, z0]; try rfl) rfl ?_
    exact ⟨_, rfl, HO.out, HB.out, HN.out⟩
  have h3' : sq id L < 0 := by omega
  by_cases h4 : 32 ≤ L.length
  · have E : opT id L = (L, 7) := by unfold opT; rw [if_neg (by omega), if_neg h3, if_pos h4]
    rw [E]
    have h4' : (32 : Int) ≤ (L.length : Int) := by omega
    clear h ok E h1 h2 h3
    subst hv
    generalize sq id L = q at *
    go_enter Try.func11, Try.ntmps11
    go_wp2_with fail
    refine (SQ.out _ A.out.bel).mono ?_
    rintro e w1 ⟨rfl, b1⟩
    have A1 := Lib.hid (A.out.next b1)
    clear b1
    have c0 : w1.cell? ⟨w.heap.size, 0, none⟩ = some (.slice a L.length c) := A1.out.k0.cell 0
    have c1 : w1.cell? ⟨w.heap.size + 1, 0, none⟩ = some (.slice none 0 0) := A1.out.k1.cell 0
    have f1 := A1.out.k1.free 0
    obtain ⟨W, hW, z0, sw, bw, nw⟩ := A1.out.fin HH.out
    have HWf := Lib.hid hW
    have HO := Lib.hid sw
    have HB := Lib.hid bw
    have HZ := Lib.hid z0
    have HN := Lib.hid nw
    clear hW sw bw z0 nw A1 SQ A
    go_wp2_with fail
    rw [← HWf.out]
    have z0 := HZ.out
    clear HWf
    refine bodyPost_ret (by simp [results, Try.results11, go_sem, z0]; try rfl) rfl ?_
    exact ⟨_, rfl, HO.out, HB.out, HN.out⟩
  · have E : opT id L = (ins id 0 L, 0) := by unfold opT; rw [if_neg (by omega), if_neg h3, if_neg h4]
    have WI := wi_ins (s := 0) ok h3'
    rw [E]
    have h4' : (L.length : Int) < 32 := by omega
    have WTH := Lib.hid (fun W (b : Below w.heap.size w W) => with_any id 0 (HH.out.next b) (by omega))
    rw [WI] at WTH
    clear h ok E h1 h2 h3 WI
    subst hv
    generalize sq id L = q at *
    go_enter Try.func11, Try.ntmps11
    go_wp2_with fail
    refine (SQ.out _ A.out.bel).mono ?_
    rintro e w1 ⟨rfl, b1⟩
    have A1 := Lib.hid (A.out.next b1)
    clear b1
    have c0 : w1.cell? ⟨w.heap.size, 0, none⟩ = some (.slice a L.length c) := A1.out.k0.cell 0
    have c1 : w1.cell? ⟨w.heap.size + 1, 0, none⟩ = some (.slice none 0 0) := A1.out.k1.cell 0
    have f1 := A1.out.k1.free 0
    go_wp2_with fail
    refine (WTH.out _ A1.out.bel).mono ?_
    rintro e w2 ⟨v2, rfl, o2, b2⟩
    have A2 := Lib.hid (A1.out.next b2)
    have hB : w.heap.size + 1 < w1.heap.size := A1.out.k1.lt
    obtain ⟨a2, d2, hv2⟩ := o2.form
    have O2 := Lib.hid o2
    clear b2 c0 c1 f1 o2
    have c1 : w2.cell? ⟨w.heap.size + 1, 0, none⟩ = some (.slice none 0 0) := A2.out.k1.cell 0
    have f1 := A2.out.k1.free 0
    generalize ins id 0 L = R at *
    generalize R.length = m2 at hv2
    subst hv2
    obtain ⟨W, hW, z0, sw, bw, nw⟩ := A2.out.fin2 O2.out hB
    have HWf := Lib.hid hW
    have HO := Lib.hid sw
    have HB := Lib.hid bw
    have HZ := Lib.hid z0
    have HN := Lib.hid nw
    clear hW sw bw z0 nw A1 A2 SQ A WTH
    go_wp2_with fail
    rw [← HWf.out]
    have z0 := HZ.out
    clear HWf
    refine bodyPost_ret (by simp [results, Try.results11, go_sem, z0]; try rfl) rfl ?_
    exact ⟨_, rfl, HO.out, HB.out, HN.out⟩
set_option maxHeartbeats 2000000 in
set_option maxRecDepth 100000 in
theorem rclose_any {w : World} {v : Value} {L : List Sn} (id : Int) (h : Ses w v L) (ok : Okt L) : Calls Try.prog 16 #[.agg #[v], .int .i64 id] w (Tbn w v (clT id L).1 (clT id L).2) := by
  have hn := ok.n
  have HH := Lib.hid h
  have A := Lib.hid (as_new w v)
  obtain ⟨a, c, hv⟩ : ∃ a c, v = .slice a L.length c := by obtain ⟨a, c, e, _⟩ := h; exact ⟨a, c, e⟩
  have SQ := Lib.hid (fun W (b : Below w.heap.size w W) => seq_any id (HH.out.next b) (by omega))
  by_cases h3 : sq id L < 0
  · have E : clT id L = (L, 4) := by unfold clT; rw [if_pos h3]
    rw [E]
    clear h ok E
    subst hv
    generalize sq id L = q at *
    go_enter Try.func16, Try.ntmps16
    go_wp2_with fail
    refine (SQ.out _ A.out.bel).mono ?_
    rintro e w1 ⟨rfl, b1⟩
    have A1 := Lib.hid (A.out.next b1)
    clear b1
    have c0 : w1.cell? ⟨w.heap.size, 0, none⟩ = some (.slice a L.length c) := A1.out.k0.cell 0
    have c1 : w1.cell? ⟨w.heap.size + 1, 0, none⟩ = some (.slice none 0 0) := A1.out.k1.cell 0
    have f1 := A1.out.k1.free 0
    obtain ⟨W, hW, z0, sw, bw, nw⟩ := A1.out.fin HH.out
    have HWf := Lib.hid hW
    have HO := Lib.hid sw
    have HB := Lib.hid bw
    have HZ := Lib.hid z0
    have HN := Lib.hid nw
    clear hW sw bw z0 nw A1 SQ A
    go_wp2_with fail
    rw [← HWf.out]
    have z0 := HZ.out
    clear HWf
    refine bodyPost_ret (by simp [results, Try.results16, go_sem, z0]; try rfl) rfl ?_
    exact ⟨_, rfl, HO.out, HB.out, HN.out⟩
  · have E : clT id L = (del id L, 0) := by unfold clT; rw [if_neg h3]
    have WD := wo_del ok (by omega : 0 ≤ sq id L)
    rw [E]
    have h3' : 0 ≤ sq id L := by omega
    have WTH := Lib.hid (fun W (b : Below w.heap.size w W) => without_any id (HH.out.next b) (by omega))
    rw [WD] at WTH
    clear h ok E h3 WD
    subst hv
    generalize sq id L = q at *
    go_enter Try.func16, Try.ntmps16
    go_wp2_with fail
    refine (SQ.out _ A.out.bel).mono ?_
    rintro e w1 ⟨rfl, b1⟩
    have A1 := Lib.hid (A.out.next b1)
    clear b1
    have c0 : w1.cell? ⟨w.heap.size, 0, none⟩ = some (.slice a L.length c) := A1.out.k0.cell 0
    have c1 : w1.cell? ⟨w.heap.size + 1, 0, none⟩ = some (.slice none 0 0) := A1.out.k1.cell 0
    have f1 := A1.out.k1.free 0
    go_wp2_with fail
    refine (WTH.out _ A1.out.bel).mono ?_
    rintro e w2 ⟨v2, rfl, o2, b2⟩
    have A2 := Lib.hid (A1.out.next b2)
    have hB : w.heap.size + 1 < w1.heap.size := A1.out.k1.lt
    obtain ⟨a2, d2, hv2⟩ := o2.form
    have O2 := Lib.hid o2
    clear b2 c0 c1 f1 o2
    have c1 : w2.cell? ⟨w.heap.size + 1, 0, none⟩ = some (.slice none 0 0) := A2.out.k1.cell 0
    have f1 := A2.out.k1.free 0
    generalize del id L = R at *
    generalize R.length = m2 at hv2
    subst hv2
    obtain ⟨W, hW, z0, sw, bw, nw⟩ := A2.out.fin2 O2.out hB
    have HWf := Lib.hid hW
    have HO := Lib.hid sw
    have HB := Lib.hid bw
    have HZ := Lib.hid z0
    have HN := Lib.hid nw
    clear hW sw bw z0 nw A1 A2 SQ A WTH
    go_wp2_with fail
    rw [← HWf.out]
    have z0 := HZ.out
    clear HWf
    refine bodyPost_ret (by simp [results, Try.results16, go_sem, z0]; try rfl) rfl ?_
    exact ⟨_, rfl, HO.out, HB.out, HN.out⟩
end Go.Proofs.Ytkaocpfkigdpoaa
