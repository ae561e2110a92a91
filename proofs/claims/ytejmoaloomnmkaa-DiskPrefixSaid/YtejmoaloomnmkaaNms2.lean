/-
  NAMES: the files' names, sorted, each once.
-/
import Derived.Test.YtejmoaloomnmkaaIts
import Derived.Test.YtejmoaloomnmkaaAct
import Derived.Deep.AppendLies
import Derived.Laws.OwnMore
namespace Go.Proofs.Ytejmoaloomnmkaa
open Go.RowKit
/-! ### plain -/
/-- the names, as they stand -/
def keysF (fs : Fm) : List (List UInt8) := fs.map fun p => bl p.1
/-- the names, sorted -/
def namesOf (fs : Fm) : List Nm := ((keysF fs).mergeSort leB).map fun l => (⟨l.toArray⟩ : Nm)
theorem namesOf_len (fs : Fm) : (namesOf fs).length = fs.length := by
  unfold namesOf keysF
  rw [List.length_map, List.length_mergeSort, List.length_map]
theorem nm_bl (s : Nm) : (⟨(bl s).toArray⟩ : Nm) = s := by simp [bl]
theorem bl_nm (l : List UInt8) : bl (⟨l.toArray⟩ : Nm) = l := by simp [bl]
theorem get_isSome {fs : Fm} {s : Nm} : (get fs s).isSome = true ↔ s ∈ fs.map (·.1) := by
  unfold get
  rw [Option.isSome_map, List.find?_isSome, List.mem_map]
  constructor
  · rintro ⟨p, hp, h⟩; exact ⟨p, hp, by simpa using h⟩
  · rintro ⟨p, hp, h⟩; exact ⟨p, hp, by simpa using h⟩
theorem keys_nodup {fs : Fm} (h : Uniq fs) : (keysF fs).Nodup := by
  unfold keysF
  refine List.pairwise_map.2 (h.imp fun {p q} hne e => hne ?_)
  rw [← nm_bl p.1, ← nm_bl q.1, e]
theorem mem_keys {fs : Fm} {x : List UInt8} : x ∈ keysF fs ↔ (get fs (⟨x.toArray⟩ : Nm)).isSome = true := by
  rw [get_isSome]
  unfold keysF
  rw [List.mem_map, List.mem_map]
  constructor
  · rintro ⟨p, hp, rfl⟩; exact ⟨p, hp, (nm_bl p.1).symm⟩
  · rintro ⟨p, hp, h⟩; exact ⟨p, hp, by rw [h, bl_nm]⟩
/-- the map's keys are the names -/
theorem keys_perm {w : World} {M n : Nat} {fs : Fm} (hu : Uniq fs) {D : DataW Value} (hD : w.ownsMap Try.prog 9 Rv M n D) (hh : ∀ s, Maps.has D (key s) = (get fs s).isSome) : (keysF fs).Perm (strKeys D) := by
  obtain ⟨es, e, hpw, _⟩ := hD.entries law9
  obtain ⟨es', e', hko⟩ := hD.keysOf
  obtain rfl : es = es' := by rw [e] at e'; simpa using e'
  subst e
  refine perm_strKeys hpw (fun p hp => by obtain ⟨v, hv⟩ := hko p hp; obtain ⟨x, _, hx, _⟩ := Maps.keyOf_str Try.underlying9 hv; exact ⟨x, hx⟩) (keys_nodup hu) (fun x => ?_)
  rw [mem_keys, ← hh]
  unfold key
  simp
/-- names in memory -/
def Nmsd (w : World) (a : Option Addr) (K : List Nm) : Prop := ∀ p (h : p < K.length), ∃ g o, a = some ⟨g, o, none⟩ ∧ g < w.heap.size ∧ w.cell? ⟨g, o + p, none⟩ = some (.string K[p])
theorem Nmsd.below {w w' : World} {a : Option Addr} {K : List Nm} (h : Nmsd w a K) (hb : Below w.heap.size w w') : Nmsd w' a K := fun p hp => by
  obtain ⟨g, o, e, hl, c0⟩ := h p hp
  exact ⟨g, o, e, Nat.lt_of_lt_of_le hl hb.size, by rw [hb.cell (p := ⟨g, _, none⟩) hl]; exact c0⟩
def encN (s : Nm) : Value := .string s
theorem nms_row {w : World} {B n cap : Nat} {p : Option Addr} {K : List Nm} (hn : n = K.length) (h : w.ownsRow B 9 1 (.slice p n cap) n (K.map encN)) : Nmsd w p K := by
  rcases h.2 with ⟨e, e0⟩ | ⟨g, cap, cur, e, _⟩
  · intro i hi; omega
  · cases e
    intro i hi
    subst hn
    have hg : g < w.heap.size := (World.ownsRow.lt h g rfl).2
    refine ⟨g, 0, rfl, hg, ?_⟩
    rw [Nat.zero_add, World.ownsRow.cellAt h _ (by omega), List.getElem?_map, List.getElem?_eq_getElem hi]
    rfl
theorem nrow_form {w : World} {B t s : Nat} {v : Value} {n : Nat} {xs : List Value} (h : w.ownsRow B t s v n xs) : ∃ a c, v = .slice a n c := by
  rcases h.2 with ⟨rfl, e⟩ | ⟨g, cap, cur, rfl, _⟩
  · exact ⟨none, 0, by rw [e]⟩
  · exact ⟨_, _, rfl⟩
/-- slices.Sorted(maps.Keys(..)) of the files -/
theorem sorted_call {w : World} {B M n m : Nat} {fs : Fm} {V : Nm → Value} (h : Fls w B M n fs V) (hG : Good fs m) (hm : m ≤ 100000) :
    Calls Try.prog 42 #[.func (.func 52) #[] #[.pointer (some ⟨w.heap.size, 0, none⟩)]] (w.alloc (.cells #[.map (some M)] 48)) fun e w' => ∃ p cp, e = .returned (.slice p (namesOf fs).length cp) ∧ Nmsd w' p (namesOf fs) ∧ Below w.heap.size w w' := by
  obtain ⟨D, hD, hh, _⟩ := h.map
  have hp := keys_perm hG.uniq hD hh
  have hsz : Maps.size D ≤ 100000 := by
    have h1 : (strKeys D).length = Maps.size D := by
      obtain ⟨es, rfl, _⟩ := hD.keysOf
      simp [strKeys, Maps.size_eq]
    have h2 := hp.length_eq
    unfold keysF at h2
    rw [List.length_map, h1] at h2
    have := hG.few
    omega
  refine ((callsIn_wide (n := 5)).1 (Try.slices_Sorted_keys_42_43 M n D Rv w hD (by unfold maxLen; omega) (by omega))).mono fun e w' hh2 => ?_
  obtain ⟨v, ss, rfl, hS, hrow, hnil, hb⟩ := hh2
  have hK : (ss.mergeSort (fun x y => decide (x ≤ y))).map encStr = (namesOf fs).map encN := by
    have : ss.mergeSort leB = (keysF fs).mergeSort leB := mergeSort_of_perm (hS.trans hp.symm)
    unfold namesOf
    rw [List.map_map, ← this]
    rfl
  rw [hK] at hrow
  have hl : ss.length = (namesOf fs).length := by
    rw [namesOf_len, hS.length_eq, ← hp.length_eq]
    unfold keysF; rw [List.length_map]
  rw [hl] at hrow
  obtain ⟨a, c, rfl⟩ := nrow_form hrow
  exact ⟨a, c, rfl, nms_row rfl hrow, ((Below.refl _ w).alloc (Nat.le_refl _) _).trans (hb.mono (by simp))⟩
theorem keys_call (M : Nat) (w : World) : Calls Try.prog 43 #[.map (some M)] w fun e w' => e = .returned (.func (.func 52) #[] #[.pointer (some ⟨w.heap.size, 0, none⟩)]) ∧ w' = w.alloc (.cells #[.map (some M)] 48) := (callsIn_wide (n := 5)).1 (Try.maps_Keys_43 (some M) w)
theorem info9 : (Try.prog.info? 9).map (fun i => (i.zero, i.size, i.bytes)) = some (some (.string ⟨#[]⟩), 1, 16) := by kernel_rfl
/-- at the head of a round -/
structure NmI (w W : World) (Y : Nat) (K : List Nm) (u : Value) : Prop where
  o : W.ownsRow Y 9 1 u K.length (K.map encN)
  b : Below Y w W
  y : Y ≤ W.heap.size
theorem NmI.below {w W W' : World} {Y : Nat} {K : List Nm} {u : Value} (h : NmI w W Y K u) (b : Below W.heap.size W W') : NmI w W' Y K u :=
  ⟨World.ownsRow.kept h.o (row := none) ⟨b.os, b.tape, b.output, b.size, fun q hq _ => b.block q hq⟩ (by cases u.ownBlock <;> simp), h.b.trans (b.mono h.y), Nat.le_trans h.y b.size⟩
theorem NmI.push {w W w8 : World} {Y g cap : Nat} {K : List Nm} {u : Value} {x : Nm} (h : NmI w W Y K u) (ho : w8.ownsRow Y 9 1 (.slice (some ⟨g, 0, none⟩) (K.length + 1) cap) (K.length + 1) (K.map encN ++ [encN x])) (hg : W.grownBy w8 u.ownBlock) : NmI w w8 Y (K ++ [x]) (.slice (some ⟨g, 0, none⟩) (K.length + 1) cap) :=
  ⟨by rw [List.map_append, List.length_append]; exact ho, h.b.trans ⟨hg.os, hg.tape, hg.output, hg.size, fun q hq => hg.block q (Nat.lt_of_lt_of_le hq h.y) (fun e => by have := (World.ownsRow.lt h.o _ e.symm).1; omega)⟩, Nat.le_trans h.y hg.size⟩
theorem ntake_push {l : List Nm} {k : Nat} (h : k < l.length) : l.take k ++ [l[k]] = l.take (k + 1) := by
  rw [List.take_add_one, List.getElem?_eq_getElem h]; rfl
/-- what Names answers -/
def Namd (w : World) (K : List Nm) (e : Ending) (w' : World) : Prop := ∃ p cp, e = .returned (.slice p K.length cp) ∧ Nmsd w' p K ∧ Below w.heap.size w w'
theorem namd_end {w w1 W : World} {K : List Nm} {n m : Nat} {q : Option Addr} {cq : Nat} (hn : K.length = n) (b1 : Below w.heap.size w w1) (hm : m = n) (h : NmI w1 W w1.heap.size K (.slice q m cq)) : Namd w K (.returned (.slice q m cq)) W := by
  subst hm; subst hn
  exact ⟨q, cq, rfl, nms_row rfl h.o, b1.trans (h.b.mono b1.size)⟩
theorem one_nm (x : Nm) : ∀ u ∈ [encN x], u.oneCell' = true := by
  intro u hu
  simp [encN] at hu
  subst hu; rfl
set_option maxHeartbeats 4000000 in
set_option maxRecDepth 100000 in
theorem names_any {w : World} {B D m : Nat} {S : St} {L : Lie} (h : DkL w B D m S L) (hd : S.down = false) (hz : ∀ s ∈ namesOf S.now, s.size ≤ 64) : Calls Try.prog 22 #[.pointer (some ⟨D, 0, none⟩)] w (Namd w (namesOf S.now)) := by
  obtain ⟨i9, hi, hz0, hz1, hz2⟩ := info_parts info9
  have R := Lib.hid (ready_any h.blk)
  unfold readyE at R
  rw [hd] at R
  have hc : w.cell? ⟨D, 2, none⟩ = some (.map (some L.M2)) := h.blk.cell 2
  have SC := Lib.hid (sorted_call h.f2 h.g2 h.low)
  have hle : (namesOf S.now).length ≤ 100000 := by rw [namesOf_len]; have := h.g2.few; have := h.low; omega
  have KC := Lib.hid (keys_call L.M2)
  generalize namesOf S.now = K at *
  generalize L.M2 = M at *
  obtain ⟨n, hn⟩ : ∃ n, K.length = n := ⟨_, rfl⟩
  rw [hn] at SC hle
  have HN := Lib.hid hn
  have HZ := Lib.hid hz
  have RE0 := Lib.hid (fun w1 W q cq m b1 hm h => namd_end (w := w) (w1 := w1) (W := W) (q := q) (cq := cq) (m := m) hn b1 hm h)
  clear h hd hn hz
  generalize hy : w.heap.size = Y at *
  go_enter Try.func22, Try.ntmps22
  go_wp2_with fail
  refine (R.out).mono ?_
  rintro e w1 ⟨rfl, rfl⟩
  go_wp2_with fail
  refine (KC.out _).mono ?_
  rintro e w1 ⟨rfl, rfl⟩
  try rw [hy]
  go_wp2_with fail
  refine (SC.out).mono ?_
  rintro e w1 ⟨p, cp, rfl, hN, b1⟩
  have N1 := Lib.hid hN
  have RE := Lib.hid (fun W q cq m hm h => RE0.out w1 W q cq m b1 hm h)
  have hY0 : Hid (NmI w1 w1 w1.heap.size [] (.slice none 0 0)) := Lib.hid ⟨World.ownsRow_nil _ _ _ _, Below.refl _ _, Nat.le_refl _⟩
  clear hN b1 SC KC R hc RE0
  generalize hy1 : w1.heap.size = Y1 at *
  go_wp2_with fail
  go_loopw [16, 2] (fun i ts wq => ∃ (k : Nat) (u : Value), i = .int .i64 k ∧ ts = u ∧ k ≤ n ∧ NmI w1 wq Y1 (K.take k) u) (fun i _ _ => n - (intOf i).toNat)
  case atStart => exact ⟨0, .slice none 0 0, rfl, rfl, Nat.zero_le _, by rw [List.take_zero]; exact hY0.out⟩
  case round =>
    obtain ⟨k, u, rfl, rfl, hk, hI⟩ := hrel
    have hT := N1.out.below (by rw [hy1]; exact hI.b)
    obtain ⟨ua, uc, hu⟩ := nrow_form hI.o
    subst hu
    have hlen : (K.take k).length = k := by rw [List.length_take, HN.out]; omega
    have HLk := Lib.hid hlen
    have HI := Lib.hid hI
    rw [hlen] at HI ⊢
    clear hI hlen
    by_cases hkn : k < n
    · have hkL : k < K.length := by rw [HN.out]; exact hkn
      obtain ⟨g0, o, rfl, hg0, c0⟩ := hT k hkL
      have HP := Lib.hid (ntake_push hkL)
      have hx64 := HZ.out K[k] (List.getElem_mem hkL)
      generalize K[k] = x at *
      have CL := Lib.hid (fun W => str_clone x W (by omega))
      clear hT hkL
      go_wp2_with fail
      refine (CL.out _).mono ?_
      rintro e v1 ⟨rfl, b1⟩
      have I1 := Lib.hid (HI.out.below b1)
      clear b1 HI c0 hg0
      have PU := Lib.hid (fun w8 g cap => (I1.out.below ((Below.refl _ v1).alloc (Nat.le_refl _) (.cells #[.string x] 9))).push (w8 := w8) (g := g) (cap := cap) (x := x))
      rw [HLk.out, HP.out] at PU
      have H1C := Lib.hid (one_nm x)
      have OW : Hid (v1.ownsRow Y1 9 1 (.slice ua k uc) k ((K.take k).map encN)) := Lib.hid (by have := I1.out.o; rw [HLk.out] at this; exact this)
      have hYv : Y1 ≤ v1.heap.size := I1.out.y
      go_wp2_with (at_builtin; refine wpList_append_lies _ rfl (.tmp 20) (.tmp 23) 45 rfl Y1 9 i9 (.string ⟨#[]⟩) 1 16 Try.underlying45 hi hz0 hz1 hz2 rfl (by decide) (.slice ua k uc) k ((K.take k).map encN) rfl (World.ownsRow.alloc OW.out _) ⟨v1.heap.size, 0, none⟩ 1 1 [encN x] rfl rfl (World.news_of_block (cs := #[.string x]) (heap_alloc_new v1 _)) H1C.out (by decide) (by unfold maxLen; omega) (by omega) (by simp; omega) _ rfl ?_; intro g8 cap8 w8 ho8 hg8 _ _; have I8h := Lib.hid (PU.out w8 g8 cap8 ho8 hg8); clear ho8 hg8)
      go_roundw
      case rel => exact ⟨k + 1, _, by go_num, rfl, by omega, I8h.out⟩
      case measure => simp [intOf]; omega
    · obtain rfl : k = n := by omega
      have I9 := HI.out
      rw [List.take_of_length_le (by rw [HN.out]; exact Nat.le_refl _)] at I9
      have I9h := Lib.hid I9
      clear I9 hT
      go_wp2_with fail
      go_ret
      exact RE.out _ _ _ _ rfl I9h.out
end Go.Proofs.Ytejmoaloomnmkaa
