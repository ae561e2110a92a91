/-
  DiskPrefix: THE STATE OF THE LAW's TWO DISKS, ahead of the loss of power and behind it.
-/
import Derived.Test.YtejmoaloomnmkaaPfx3
namespace Go.Proofs.Ytejmoaloomnmkaa
open Go.RowKit
theorem own_fr {w w' : World} {B t s n : Nat} {v : Value} {xs : List Value} {P : Nat → Prop} (h : w.ownsRow B t s v n xs) (F : Fr w w' P) (hP : ∀ q, v.ownBlock = some q → ¬ P q) : w'.ownsRow B t s v n xs := by
  refine ⟨h.1, ?_⟩
  rcases h.2 with hn | ⟨g, cap, cur, e, hB, hh, rest⟩
  · exact .inl hn
  · refine .inr ⟨g, cap, cur, e, hB, ?_, rest⟩
    rw [F.block g (Array.getElem?_eq_some_iff.1 hh).1 (hP g (by rw [e]; rfl))]
    exact hh
theorem acts_row {w : World} {B n cap : Nat} {p : Option Addr} {L : List Act} (hn : n = L.length) (h : w.ownsRow B 31 5 (.slice p n cap) n (cellsA L)) : Acts w p L := by
  rcases h.2 with ⟨e, e0⟩ | ⟨g, cap, cur, e, _⟩
  · intro i hi; omega
  · cases e; exact acts_own hn h
theorem Works.nmd {S : St} {a : Act} {c : Chg} (h : Works S a c) : c.Nmd := by
  have h1 := h.asks
  cases c with
  | put f n s => show nameB f = true; rw [show f = a.nm from h1.2.1]; exact h.n1
  | trim f n => show nameB f = true; rw [show f = a.nm from h1.2.1]; exact h.n1
  | move f t => exact ⟨by rw [h1.2.1]; exact h.n1, by rw [h1.2.2]; exact h.n2 h1.1⟩
  | drop f => show nameB f = true; rw [show f = a.nm from h1.2]; exact h.n1
theorem Run.nmd {fs : Fm} {A : List Act} {R : List Chg} (h : Run fs A R) : ∀ c ∈ R, c.Nmd := by
  intro c hc
  obtain ⟨i, hi, rfl⟩ := List.getElem_of_mem hc
  exact (h.at_ (by rw [h.len]; exact hi) hi).nmd
theorem ns_nil : Ns [] := fun _ hs => absurd rfl hs
theorem uniq_nil : Uniq [] := List.Pairwise.nil
theorem Run.cost {fs : Fm} {A : List Act} {R : List Chg} (h : Run fs A R) (hs : ∀ x ∈ A, x.s.size ≤ 3000) : ∀ c ∈ R, c.cost ≤ 3001 := by
  intro c hc
  obtain ⟨i, hi, rfl⟩ := List.getElem_of_mem hc
  have hi2 : i < A.length := by rw [h.len]; exact hi
  have hw := (h.at_ hi2 hi).asks
  have := hs A[i] (List.getElem_mem hi2)
  generalize R[i] = c at *
  cases c with
  | put f n s =>
    have e : s = A[i].s := hw.2.2.2
    unfold Chg.cost
    simp only
    rw [e]; omega
  | trim f n => unfold Chg.cost; simp
  | move f t => unfold Chg.cost; simp
  | drop f => unfold Chg.cost; simp
/-- ahead of the loss of power: the acts A were done, Am of them are on the list -/
structure P1 (W wq : World) (D E BE Y k : Nat) (ma : Option Addr) (M A Am : List Act) (u : Value) : Prop where
  d : ∃ m S L LE, DkL wq W.heap.size D m S L ∧ Ok S ∧ Calm S ∧ S.sure = [] ∧ Run [] A S.row ∧ S.row.length ≤ k ∧ m ≤ 200 * (k + 1) ∧ DkL wq BE E 0 st0 LE ∧ (∀ q, LE.foot E q → q < Y ∧ ¬ L.foot D q) ∧ (∀ ad : Addr, ma = some ad → ¬ L.foot D ad.block ∧ ad.block < Y) ∧ (∀ q, u.ownBlock = some q → ¬ L.foot D q)
  acts : Acts wq ma M
  o : wq.ownsRow Y 31 5 u Am.length (cellsA Am)
  b : Below W.heap.size W wq
  sm : ∀ x ∈ A, x.s.size ≤ 3000
  y : Y ≤ wq.heap.size
  w : W.heap.size ≤ Y
/-- an act is done, or not -/
def P1Out (W : World) (D E BE Y k : Nat) (ma : Option Addr) (M A : List Act) (u : Value) (x : Act) (v : Int) (w' : World) : Prop :=
  (v = 0 ∧ P1 W w' D E BE Y k ma M (A ++ [x]) A u) ∨ (v ≠ 0 ∧ P1 W w' D E BE Y k ma M A A u)
theorem P1.act {W wq : World} {D E BE Y k : Nat} {ma : Option Addr} {M A : List Act} {u : Value} (h : P1 W wq D E BE Y k ma M A A u) (hk60 : k ≤ 60) (x : Act) (wf : x.Wf) (hkd : 0 ≤ x.kd ∧ x.kd ≤ 3) (hs : x.s.size ≤ 3000) :
    Calls Try.prog 12 #[.pointer (some ⟨D, 0, none⟩), x.val] wq fun e w' => ∃ v, e = .returned (.int .i64 v) ∧ P1Out W D E BE Y (k + 1) ma M A u x v w' := by
  obtain ⟨m, S, L, LE, d, ok, ca, hsu, hrun, hrow, hmb, de, hde, hma, hu⟩ := h.d
  refine (act_maybe wf hkd d ok (by omega) ca).mono fun e w' hh => ?_
  obtain ⟨v, rfl, hv⟩ := hh
  refine ⟨v, rfl, ?_⟩
  have hsz : ∀ q, L.foot D q → q < wq.heap.size := fun q hq => (d.lt hq).2
  rcases hv with ⟨c, hw, rfl, L', d', F, hN⟩ | ⟨hv, d', b'⟩
  · refine .inl ⟨rfl, ⟨_, nextS S c, L', LE, d', ok.next ca hw.may, ca.next c, hsu, ?_, ?_, ?_, de.fr F (fun q hq => (hde q hq).2), fun q hq => ⟨(hde q hq).1, fun hh => ?_⟩, fun ad e => ⟨fun hh => ?_, (hma ad e).2⟩, fun q e hh => ?_⟩, h.acts.fr F (fun ad e => (hma ad e).1), own_fr h.o F hu, h.b.trans (Fr.foot d F), ?_, Nat.le_trans h.y F.size, h.w⟩
    · show Run [] (A ++ [x]) (S.row ++ [c])
      refine hrun.append (hw.st ?_)
      have := ok.now
      rw [hsu] at this
      exact this
    · show (S.row ++ [c]).length ≤ k + 1
      rw [List.length_append, List.length_singleton]; omega
    · omega
    · rcases hN q hh with hh | hh
      · exact (hde q hq).2 hh
      · have := (hde q hq).1; have := h.y; omega
    · rcases hN _ hh with hh | hh
      · exact (hma ad e).1 hh
      · have := (hma ad e).2; have := h.y; omega
    · rcases hN q hh with hh | hh
      · exact hu q e hh
      · have := (World.ownsRow.lt h.o q e).2; omega
    · intro y hy
      rcases List.mem_append.1 hy with hy | hy
      · exact h.sm y hy
      · obtain rfl := List.mem_singleton.1 hy; exact hs
  · refine .inr ⟨hv, ⟨m, S, L, LE, d', ok, ca, hsu, hrun, by omega, by omega, de.below b', hde, hma, hu⟩, h.acts.below b', ?_, h.b.trans (b'.mono h.b.size), h.sm, Nat.le_trans h.y b'.size, h.w⟩
    exact own_fr h.o (Fr.of_below b' (fun _ => False)) (fun _ _ h => h)
theorem P1.more {W wq : World} {D E BE Y k : Nat} {ma : Option Addr} {M A : List Act} {u : Value} (h : P1 W wq D E BE Y k ma M A A u) : P1 W wq D E BE Y (k + 1) ma M A A u := by
  obtain ⟨m, S, L, LE, d, ok, ca, hsu, hrun, hrow, hmb, rest⟩ := h.d
  exact ⟨⟨m, S, L, LE, d, ok, ca, hsu, hrun, by omega, by omega, rest⟩, h.acts, h.o, h.b, h.sm, h.y, h.w⟩
theorem P1.below {W wq w' : World} {D E BE Y k : Nat} {ma : Option Addr} {M A Am : List Act} {u : Value} (h : P1 W wq D E BE Y k ma M A Am u) (b : Below wq.heap.size wq w') : P1 W w' D E BE Y k ma M A Am u := by
  obtain ⟨m, S, L, LE, d, ok, ca, hsu, hrun, hrow, hmb, de, rest⟩ := h.d
  exact ⟨⟨m, S, L, LE, d.below b, ok, ca, hsu, hrun, hrow, hmb, de.below b, rest⟩, h.acts.below b, own_fr h.o (Fr.of_below b (fun _ => False)) (fun _ _ h => h), h.b.trans (b.mono h.b.size), h.sm, Nat.le_trans h.y b.size, h.w⟩
/-- the act is on the list -/
theorem P1.push {W wq w8 : World} {D E BE Y k g cap : Nat} {ma : Option Addr} {M A : List Act} {u : Value} {x : Act} (h : P1 W wq D E BE Y k ma M (A ++ [x]) A u) (ho : w8.ownsRow Y 31 5 (.slice (some ⟨g, 0, none⟩) (A.length + 1) cap) (A.length + 1) (cellsA A ++ encA x)) (hg : wq.grownBy w8 u.ownBlock) (hat : u.ownBlock = some g ∨ wq.heap.size ≤ g) :
    P1 W w8 D E BE Y k ma M (A ++ [x]) (A ++ [x]) (.slice (some ⟨g, 0, none⟩) (A.length + 1) cap) := by
  obtain ⟨m, S, L, LE, d, ok, ca, hsu, hrun, hrow, hmb, de, hde, hma, hu⟩ := h.d
  have F : Fr wq w8 (fun q => u.ownBlock = some q) := ⟨hg.os, hg.tape, hg.output, hg.size, fun q hq hne => hg.block q hq (fun e => hne e.symm)⟩
  have hY : ∀ q, u.ownBlock = some q → Y ≤ q := fun q e => (World.ownsRow.lt h.o q e).1
  refine ⟨⟨m, S, L, LE, d.fr F (fun q hq e => hu q e hq), ok, ca, hsu, hrun, hrow, hmb, de.fr F (fun q hq e => by have := (hde q hq).1; have := hY q e; omega), hde, hma, fun q e => ?_⟩, h.acts.fr F (fun ad e hh => by have := (hma ad e).2; have := hY _ hh; omega), by rw [List.length_append, cellsA_one]; exact ho, ?_, h.sm, Nat.le_trans h.y hg.size, h.w⟩
  · have e : g = q := by simpa [Value.ownBlock] using e
    subst e
    rcases hat with e | e
    · exact hu _ e
    · intro hh; have := (d.lt hh).2; omega
  · exact h.b.trans (F.below (fun q e => Nat.le_trans h.w (hY q e)) h.b.size)
/-- behind the loss of power: i of the acts were done on the other disk -/
structure P2 (W wq : World) (E BE i : Nat) (da ga : Option Addr) (A : List Act) (R : List Chg) (G : List FT) : Prop where
  d : ∃ m S L, DkL wq BE E m S L ∧ Ok S ∧ Calm S ∧ S.sure = [] ∧ S.row = R.take i ∧ m ≤ 200 * (i + 1) ∧ (∀ ad : Addr, da = some ad → ¬ L.foot E ad.block) ∧ (∀ ad : Addr, ga = some ad → ¬ L.foot E ad.block)
  acts : Acts wq da A
  got : Filed wq ga G
  b : Below W.heap.size W wq
  w : W.heap.size ≤ BE
  gp : 0 < G.length
theorem P2.below {W wq w' : World} {E BE i : Nat} {da ga : Option Addr} {A : List Act} {R : List Chg} {G : List FT} (h : P2 W wq E BE i da ga A R G) (b : Below wq.heap.size wq w') : P2 W w' E BE i da ga A R G := by
  obtain ⟨m, S, L, d, rest⟩ := h.d
  exact ⟨⟨m, S, L, d.below b, rest⟩, h.acts.below b, h.got.below b, h.b.trans (b.mono h.b.size), h.w, h.gp⟩
section
variable {W wq : World} {E BE i : Nat} {da ga : Option Addr} {A : List Act} {R : List Chg} {G : List FT}
theorem P2.now (h : P2 W wq E BE i da ga A R G) : ∃ m S L, DkL wq BE E m S L ∧ S.down = false ∧ Alike S.now (doAll [] (R.take i)) := by
  obtain ⟨m, S, L, d, ok, ca, hsu, hrow, _⟩ := h.d
  have := ok.now
  rw [hsu, hrow] at this
  exact ⟨m, S, L, d, ca.up, this⟩
theorem ns_take (hrun : Run [] A R) (i : Nat) : Ns (doAll [] (R.take i)) := ns_nil.doAll (fun c hc => hrun.nmd c (List.mem_of_mem_take hc))
theorem P2.files (h : P2 W wq E BE i da ga A R G) (hrun : Run [] A R) : Calls Try.prog 16 #[.pointer (some ⟨E, 0, none⟩)] wq (Filesd wq (filesF (doAll [] (R.take i)))) := by
  obtain ⟨m, S, L, d, hd, hA⟩ := h.now
  have hn : Ns S.now := fun s hs => ns_take hrun i s (by rw [← hA s]; exact hs)
  have := files_any d (fun s hs => (names_small hn s hs).2)
  rw [filesOf_up hd hn, filesF_alike d.g2.uniq (uniq_doAll uniq_nil _) hA] at this
  exact this
theorem P2.few (h : P2 W wq E BE i da ga A R G) : (filesF (doAll [] (R.take i))).length ≤ 100000 ∧ ∀ s, (gl (doAll [] (R.take i)) s).length ≤ 4194304 := by
  obtain ⟨m, S, L, d, hd, hA⟩ := h.now
  refine ⟨?_, fun s => ?_⟩
  · rw [← filesF_alike d.g2.uniq (uniq_doAll uniq_nil _) hA, filesF_len]
    have := d.g2.few; have := d.low; omega
  · rw [← hA.gl s]; exact d.g2.gl_le s
theorem take_next {l : List Chg} {k : Nat} (h : k < l.length) : l.take k ++ [l[k]] = l.take (k + 1) := by
  rw [List.take_add_one, List.getElem?_eq_getElem h]; rfl
theorem P2.act (h : P2 W wq E BE i da ga A R G) (hrun : Run [] A R) (hi : i < A.length) (hi60 : i ≤ 60) : Calls Try.prog 12 #[.pointer (some ⟨E, 0, none⟩), A[i].val] wq fun e w' => ∃ v, e = .returned (.int .i64 v) ∧ P2 W w' E BE (i + 1) da ga A R G := by
  have hi2 : i < R.length := by rw [← hrun.len]; exact hi
  obtain ⟨m, S, L, d, ok, ca, hsu, hrow, hmb, hda, hga⟩ := h.d
  have hlen : S.row.length ≤ i := by rw [hrow, List.length_take]; omega
  have hA := ok.now
  rw [hsu, hrow] at hA
  have hw : Works S A[i] R[i] := (hrun.at_ hi hi2).alike (fun s => (hA s).symm)
  refine (act_yes d ok (by omega) ca hw).mono fun e w' hh => ?_
  obtain ⟨v, rfl, rfl, L', d', F, hN⟩ := hh
  have hlt : ∀ (a : Option Addr), (∀ ad : Addr, a = some ad → ¬ L.foot E ad.block) → (∀ ad : Addr, a = some ad → ad.block < wq.heap.size) → ∀ ad : Addr, a = some ad → ¬ L'.foot E ad.block := fun a h1 h2 ad e hh => by
    rcases hN _ hh with hh | hh
    · exact h1 ad e hh
    · have := h2 ad e; omega
  have hdl : ∀ ad : Addr, da = some ad → ad.block < wq.heap.size := fun ad e => by
    obtain ⟨g, o, e', hg, _⟩ := h.acts i hi
    rw [e] at e'
    cases e'
    exact hg
  have hgl : ∀ ad : Addr, ga = some ad → ad.block < wq.heap.size := fun ad e => by
    obtain ⟨g, o, e', hg, _⟩ := h.got 0 h.gp
    rw [e] at e'
    cases e'
    exact hg
  refine ⟨0, rfl, ⟨_, nextS S R[i], L', d', ok.next ca hw.may, ca.next _, hsu, ?_, by omega, hlt da hda hdl, hlt ga hga hgl⟩, h.acts.fr F hda, h.got.fr F hga, h.b.trans ((Fr.foot d F).mono h.w), h.w, h.gp⟩
  show S.row ++ [R[i]] = R.take (i + 1)
  rw [hrow]
  exact take_next hi2
/-- the document's Do of a Put that is torn -/
theorem P2.torn (h : P2 W wq E BE i da ga A R G) (hrun : Run [] A R) (hi : i < A.length) (h0 : A[i].kd = 0) (n : Nat) (hn : n ≤ A[i].s.size) (hs3 : A[i].s.size ≤ 3000) {p : Option Addr} {cp m : Nat} (hm : (filesF (doAll [] (R.take i))).length = m) {w1 : World} (T : Filed w1 p (filesF (doAll [] (R.take i)))) :
    Calls Try.prog 18 #[.slice p m cp, .agg #[.int .i64 0, .string A[i].nm, .int .i64 A[i].n, .string (A[i].s.extract 0 n)]] w1 (Filesd w1 (filesF ((Chg.put A[i].nm A[i].n.toNat (A[i].s.extract 0 n)).doF (doAll [] (R.take i))))) := by
  have hi2 : i < R.length := by rw [← hrun.len]; exact hi
  have hw := hrun.at_ hi hi2
  have hf := h.few
  have hc := hw.asks
  have hmay := hw.may
  have hn1 := (nameB_size hw.n1).2
  generalize R[i] = c at *
  cases c with
  | put f a s =>
    obtain ⟨_, e1, e2, e3⟩ := hc
    have e2' : A[i].n.toNat = a := by omega
    obtain ⟨_, m2, m3⟩ := hmay
    have m2' : a ≤ (gl (doAll [] (R.take i)) A[i].nm).length := by rw [← e1]; exact m2
    rw [e2', ← e2]
    exact rdo_put _ (uniq_doAll uniq_nil _) m hm (by rw [← hm]; exact hf.1) p cp A[i].nm a (A[i].s.extract 0 n) w1 T hn1 m2' (hf.2 _) (by rw [ByteArray.size_extract]; omega)
  | trim f n => have := hc.1; omega
  | move f t => have := hc.1; omega
  | drop f => have := hc.1; omega
/-- what was looked at up to now, and was not it -/
def Nots (A : List Act) (R : List Chg) (G : List FT) (i : Nat) : Prop := ∀ j, j < i → ∀ (h : j < A.length), filesF (doAll [] (R.take (j + 1))) ≠ G ∧ (A[j].kd = 0 → ∀ n, n < A[j].s.size → filesF ((Chg.put A[j].nm A[j].n.toNat (A[j].s.extract 0 n)).doF (doAll [] (R.take j))) ≠ G)
theorem Nots.zero (A : List Act) (R : List Chg) (G : List FT) : Nots A R G 0 := fun j hj => absurd hj (Nat.not_lt_zero j)
theorem nots_end (hrun : Run [] A R) {k : Int} (hG : G = filesF (keepF [] R k)) (hG0 : 0 < G.length) (hN : Nots A R G A.length) : False := by
  rcases keep_cases [] R k with ⟨j, hj, e⟩ | ⟨j, hj, f, a, s, n, hc, hn, e⟩
  · rw [e] at hG
    cases j with
    | zero => rw [hG] at hG0; simp [doAll, filesF_len] at hG0
    | succ j => exact (hN j (by rw [hrun.len]; omega) (by rw [hrun.len]; omega)).1 hG.symm
  · rw [e] at hG
    have hj2 : j < A.length := by rw [hrun.len]; exact hj
    have hw := (hrun.at_ hj2 hj).asks
    rw [hc] at hw
    obtain ⟨e0, e1, e2, e3⟩ := hw
    refine (hN j hj2 hj2).2 e0 n (by rw [← e3]; exact hn) ?_
    rw [← e1, ← e3, show A[j].n.toNat = a by omega]
    exact hG.symm
end
end Go.Proofs.Ytejmoaloomnmkaa
