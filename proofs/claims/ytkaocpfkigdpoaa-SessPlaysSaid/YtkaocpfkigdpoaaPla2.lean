/-
  SESSIONS, PLAINLY: what is found behind a change; a full table.
-/
import Derived.Test.YtkaocpfkigdpoaaPla
namespace Go.Proofs.Ytkaocpfkigdpoaa
theorem sq_mem {id s : Int} {L : List Sn} (ok : Okt L) (h : (id, s) ∈ L) : sq id L = s := by
  obtain ⟨k, hk, e⟩ := List.mem_iff_getElem.1 h
  have := sq_in (id := id) hk ok.s (by rw [e])
  rw [this, e]
theorem mem_sq {id : Int} {L : List Sn} (ok : Okt L) (h : 0 ≤ sq id L) : (id, sq id L) ∈ L := by
  obtain ⟨hp, e1, e2⟩ := th_yes ok h
  have : L[pos id L] = (id, sq id L) := Prod.ext e1 e2
  rw [← this]
  exact List.getElem_mem hp
theorem sq_neg {id : Int} {L : List Sn} (h : ∀ x ∈ L, x.1 ≠ id) : sq id L = -1 := sq_out fun _ hk => h _ (List.getElem_mem hk)
theorem neg_sq {id : Int} {L : List Sn} (ok : Okt L) (h : sq id L < 0) : ∀ x ∈ L, x.1 ≠ id := fun x hx => by
  obtain ⟨k, hk, rfl⟩ := List.mem_iff_getElem.1 hx
  exact th_no ok h k hk
theorem mem_ins {id s : Int} {L : List Sn} {x : Sn} : x ∈ ins id s L ↔ x = (id, s) ∨ x ∈ L := by
  unfold ins
  rw [List.mem_append, List.mem_cons]
  constructor
  · rintro (h | h | h)
    · exact .inr (List.mem_of_mem_take h)
    · exact .inl h
    · exact .inr (List.mem_of_mem_drop h)
  · rintro (h | h)
    · exact .inr (.inl h)
    · rw [← List.take_append_drop (pos id L) L, List.mem_append] at h
      rcases h with h | h
      · exact .inl h
      · exact .inr (.inr h)
theorem mem_put {id s : Int} {L : List Sn} (ok : Okt L) (h : 0 ≤ sq id L) {x : Sn} : x ∈ put id s L ↔ x = (id, s) ∨ (x ∈ L ∧ x.1 ≠ id) := by
  obtain ⟨hp, e1, e2⟩ := th_yes ok h
  unfold put
  constructor
  · intro hx
    obtain ⟨k, hk, rfl⟩ := List.mem_iff_getElem.1 hx
    rw [List.length_set] at hk
    rw [List.getElem_set]
    split
    · exact .inl rfl
    · rename_i hne
      refine .inr ⟨List.getElem_mem _, fun e => ?_⟩
      rcases Nat.lt_or_gt_of_ne hne with hlt | hlt
      · have := List.pairwise_iff_getElem.1 ok.s _ _ hp hk hlt; omega
      · have := List.pairwise_iff_getElem.1 ok.s _ _ hk hp hlt; omega
  · rintro (rfl | ⟨hx, hne⟩)
    · exact List.mem_iff_getElem.2 ⟨pos id L, by rw [List.length_set]; exact hp, by simp⟩
    · obtain ⟨k, hk, rfl⟩ := List.mem_iff_getElem.1 hx
      refine List.mem_iff_getElem.2 ⟨k, by rw [List.length_set]; exact hk, ?_⟩
      rw [List.getElem_set, if_neg (fun e => hne (by subst e; exact e1))]
theorem del_eq {id : Int} {L : List Sn} (ok : Okt L) (h : 0 ≤ sq id L) : del id L = L.filter (fun x => decide (x.1 ≠ id)) := by
  obtain ⟨hp, e1, e2⟩ := th_yes ok h
  have h1 : (L.take (pos id L)).filter (fun x => decide (x.1 ≠ id)) = L.take (pos id L) := by
    rw [List.filter_eq_self]
    intro x hx
    obtain ⟨k, hk, rfl⟩ := List.mem_iff_getElem.1 hx
    rw [List.length_take] at hk
    rw [List.getElem_take]
    have := pos_lo (id := id) (L := L) (k := k) (by omega) (by omega)
    simp; omega
  have h2 : (L.drop (pos id L + 1)).filter (fun x => decide (x.1 ≠ id)) = L.drop (pos id L + 1) := by
    rw [List.filter_eq_self]
    intro x hx
    obtain ⟨k, hk, rfl⟩ := List.mem_iff_getElem.1 hx
    rw [List.length_drop] at hk
    rw [List.getElem_drop]
    have := List.pairwise_iff_getElem.1 ok.s (pos id L) (pos id L + 1 + k) hp (by omega) (by omega)
    simp; omega
  conv => rhs; rw [← List.take_append_drop (pos id L) L, List.filter_append, h1, List.drop_eq_getElem_cons hp, List.filter_cons_of_neg (by simp [e1]), h2]
  rfl
theorem sq_put {id s : Int} {L : List Sn} (ok : Okt L) (h : 0 ≤ sq id L) (h5 : 0 ≤ s) (h6 : s ≤ 549755813888) : sq id (put id s L) = s :=
  sq_mem (ok_put ok h h5 h6) ((mem_put ok h).2 (.inl rfl))
theorem sq_put_far {id j s : Int} {L : List Sn} (ok : Okt L) (h : 0 ≤ sq id L) (hj : sq j L < 0) (hne : j ≠ id) : sq j (put id s L) = -1 :=
  sq_neg fun x hx => by
    rcases (mem_put ok h).1 hx with rfl | ⟨hx, _⟩
    · exact fun e => hne e.symm
    · exact neg_sq ok hj x hx
theorem sq_del {id : Int} {L : List Sn} (ok : Okt L) (h : 0 ≤ sq id L) : sq id (del id L) = -1 :=
  sq_neg fun x hx => by
    rw [del_eq ok h] at hx
    simpa using (List.mem_filter.1 hx).2
theorem sq_del_far {id j : Int} {L : List Sn} (ok : Okt L) (h : 0 ≤ sq id L) (hj : sq j L < 0) : sq j (del id L) = -1 :=
  sq_neg fun x hx => by
    rw [del_eq ok h] at hx
    exact neg_sq ok hj x (List.mem_filter.1 hx).1
theorem len_put (id s : Int) (L : List Sn) : (put id s L).length = L.length := by unfold put; rw [List.length_set]
theorem len_del {id : Int} {L : List Sn} (ok : Okt L) (h : 0 ≤ sq id L) : (del id L).length = L.length - 1 := by
  obtain ⟨hp, _, _⟩ := th_yes ok h
  unfold del
  rw [List.length_append, List.length_take, List.length_drop]; omega
theorem len_ins (id s : Int) (L : List Sn) : (ins id s L).length = L.length + 1 := by
  have := pos_le id L
  unfold ins
  rw [List.length_append, List.length_cons, List.length_take, List.length_drop]; omega
/-- the sessions f, f + 2, .. -/
def fl (f : Int) (n : Nat) : List Sn := (List.range n).map fun (i : Nat) => (f + 2 * (i : Int), 0)
theorem fl_len (f : Int) (n : Nat) : (fl f n).length = n := by unfold fl; rw [List.length_map, List.length_range]
theorem fl_mem {f : Int} {n : Nat} {x : Sn} : x ∈ fl f n ↔ ∃ i, i < n ∧ x = (f + 2 * (i : Int), 0) := by
  unfold fl
  rw [List.mem_map]
  constructor
  · rintro ⟨i, hi, rfl⟩; exact ⟨i, List.mem_range.1 hi, rfl⟩
  · rintro ⟨i, hi, rfl⟩; exact ⟨i, List.mem_range.2 hi, rfl⟩
theorem fl_no (f : Int) (n : Nat) : sq (f + 2 * (n : Int)) (fl f n) = -1 := sq_neg fun x hx => by
  obtain ⟨i, hi, rfl⟩ := fl_mem.1 hx
  show f + 2 * (i : Int) ≠ _
  omega
theorem fl_odd (f : Int) (n : Nat) : sq (f + 1) (fl f n) = -1 := sq_neg fun x hx => by
  obtain ⟨i, hi, rfl⟩ := fl_mem.1 hx
  show f + 2 * (i : Int) ≠ _
  omega
theorem pos_all {id : Int} : ∀ {L : List Sn}, (∀ x ∈ L, x.1 < id) → pos id L = L.length
  | [], _ => rfl
  | x :: r, h => by
    unfold pos
    rw [if_pos (h x (by simp)), pos_all fun y hy => h y (by simp [hy])]
    rfl
theorem fl_open {f : Int} {n : Nat} (h0 : 1 ≤ f) (h1 : f ≤ 1000) (hn : n < 32) : opT (f + 2 * (n : Int)) (fl f n) = (fl f (n + 1), 0) := by
  unfold opT
  rw [if_neg (by omega), fl_no, if_neg (by omega), fl_len, if_neg (by omega)]
  unfold ins
  rw [pos_all (fun x hx => by
    obtain ⟨i, hi, rfl⟩ := fl_mem.1 hx
    show f + 2 * (i : Int) < _
    omega), List.take_length, List.drop_length]
  unfold fl
  rw [List.range_succ, List.map_append]
  rfl
theorem fl_ok {f : Int} (h0 : 1 ≤ f) (h1 : f ≤ 1000) : ∀ n, n ≤ 32 → Okt (fl f n)
  | 0, _ => okt_nil
  | n + 1, h => by
    have ok := fl_ok h0 h1 n (by omega)
    have := ok_op (id := f + 2 * (n : Int)) ok
    rwa [fl_open h0 h1 (by omega)] at this
/-- what becomes of a full table, step by step -/
theorem full_steps {f : Int} {q : Nat} (h0 : 1 ≤ f) (h1 : f ≤ 1000) (hq : q < 32) : ∃ L1 L2 L3 : List Sn,
    mayT (f + 2 * (q : Int)) 1 (fl f 32) = (true, 0) ∧ tkT (f + 2 * (q : Int)) 1 (fl f 32) = L1 ∧ opT (f + 1) L1 = (L1, 7) ∧ opT (f + 2 * (q : Int)) L1 = (L1, 9) ∧ clT (f + 2 * (q : Int)) L1 = (L2, 0) ∧ clT (f + 2 * (q : Int)) L2 = (L2, 4) ∧ opT (f + 1) L2 = (L3, 0) ∧ L3.length = 32 := by
  have ok := fl_ok h0 h1 32 (Nat.le_refl _)
  have e0 : sq (f + 2 * (q : Int)) (fl f 32) = 0 := sq_mem ok (fl_mem.2 ⟨q, hq, rfl⟩)
  have m : mayT (f + 2 * (q : Int)) 1 (fl f 32) = (true, 0) := by unfold mayT; rw [e0]; rfl
  have t : tkT (f + 2 * (q : Int)) 1 (fl f 32) = put (f + 2 * (q : Int)) 1 (fl f 32) := by unfold tkT; rw [if_pos (by rw [m])]
  have ok1 : Okt (put (f + 2 * (q : Int)) 1 (fl f 32)) := ok_put ok (by omega) (by omega) (by omega)
  have s1 : sq (f + 2 * (q : Int)) (put (f + 2 * (q : Int)) 1 (fl f 32)) = 1 := sq_put ok (by omega) (by omega) (by omega)
  have s2 : sq (f + 1) (put (f + 2 * (q : Int)) 1 (fl f 32)) = -1 := sq_put_far ok (by omega) (by rw [fl_odd]; omega) (by omega)
  have l1 : (put (f + 2 * (q : Int)) 1 (fl f 32)).length = 32 := by rw [len_put, fl_len]
  generalize put (f + 2 * (q : Int)) 1 (fl f 32) = L1 at *
  have s3 := sq_del ok1 (by omega : 0 ≤ sq (f + 2 * (q : Int)) L1)
  have s4 := sq_del_far (j := f + 1) ok1 (by omega : 0 ≤ sq (f + 2 * (q : Int)) L1) (by omega)
  have l2 := len_del ok1 (by omega : 0 ≤ sq (f + 2 * (q : Int)) L1)
  refine ⟨L1, del (f + 2 * (q : Int)) L1, ins (f + 1) 0 (del (f + 2 * (q : Int)) L1), m, t, ?_, ?_, ?_, ?_, ?_, ?_⟩
  · unfold opT; rw [if_neg (by omega), if_neg (by omega), if_pos (by omega)]
  · unfold opT; rw [if_neg (by omega), if_pos (by omega)]
  · unfold clT; rw [if_neg (by omega)]
  · unfold clT; rw [if_pos (by omega)]
  · unfold opT; rw [if_neg (by omega), if_neg (by omega), if_neg (by omega)]
  · rw [len_ins]; omega
end Go.Proofs.Ytkaocpfkigdpoaa
