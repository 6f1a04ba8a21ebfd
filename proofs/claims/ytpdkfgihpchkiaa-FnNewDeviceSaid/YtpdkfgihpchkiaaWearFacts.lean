/- What the laws of chapter 16 ask, and those of NewDevice and EraseAt: the spread of the first block, wear without the first block, wear of a new device and of one with a block erased. -/
import Derived.Test.YtpdkfgihpchkiaaWearPlain
import Derived.Test.YtpdkfgihpchkiaaDrawDev4
import Derived.Test.YtpdkfgihpchkiaaExactDev3
namespace Go.Proofs.Ytpdkfgihpchkiaa
open Go.ChangeShapes Go.WideShapes Go.ChangeAt Go.RowKit

/-- d[1:] -/
theorem DRow.tail {w : World} {B : Nat} {A : Option Addr} {bs : List Bk} (h : DRow w B A bs) : DRow w B (Option.map (fun x => x.add 2) A) (bs.drop 1) := by
  refine ⟨fun hn => ?_, fun q hq => h.2 q (List.mem_of_mem_drop hq)⟩
  rw [List.length_drop] at hn
  obtain ⟨g, off, rfl, hb, hz, hc⟩ := h.1 (by omega)
  refine ⟨g, off + 2, by simp [Go.WideShapes.add_plain], hb, hz, fun i q hq => ?_⟩
  rw [List.getElem?_drop] at hq
  have := hc _ _ hq
  rwa [show off + (1 + i) * 2 = off + 2 + i * 2 by omega] at this
theorem spread_one {bs : List Bk} (hd : devB bs = true) : spreadV (bs.take 1) = 0 := by
  have h1 := dev_one hd
  obtain ⟨⟨h2, _⟩, _⟩ := dev_parts hd
  have h3 : (bs.take 1).length = 1 := by rw [List.length_take]; omega
  rw [spread_of h1, h3, low_one h1, top_one h1]
  omega
theorem spread_near {bs : List Bk} (hd : devB bs = true) {k : Nat} (hk : k < bs.length) : wearAt bs (k : Int) - wearAt bs 0 ≤ spreadV bs ∧ wearAt bs 0 - wearAt bs (k : Int) ≤ spreadV bs := by
  obtain ⟨⟨h0, _⟩, _⟩ := dev_parts hd
  have h1 : lowTo bs bs.length ≤ wearAt bs (k : Int) := low_le hk
  have h2 : wearAt bs (k : Int) ≤ topTo bs bs.length := top_ge hk
  have h3 : lowTo bs bs.length ≤ wearAt bs ((0 : Nat) : Int) := low_le h0
  have h4 : wearAt bs ((0 : Nat) : Int) ≤ topTo bs bs.length := top_ge h0
  rw [spread_of hd]
  simp only [Int.natCast_zero] at h3 h4
  omega
theorem wear_drop (bs : List Bk) (k : Nat) : wearAt (bs.drop 1) (k : Int) = wearAt bs ((k + 1 : Nat) : Int) := by
  have e : (bs.drop 1)[k]? = bs[k + 1]? := by rw [List.getElem?_drop, Nat.add_comm]
  unfold wearAt
  simp only [Int.toNat_natCast, e]
theorem ws_drop (bs : List Bk) (k : Nat) : wearAt bs 0 + wsTo (bs.drop 1) k = wsTo bs (k + 1) := by
  induction k with
  | zero => simp [wsTo]
  | succ k ih =>
    rw [show wsTo bs (k + 1 + 1) = wsTo bs (k + 1) + wearAt bs ((k + 1 : Nat) : Int) from rfl, ← ih, ← wear_drop]
    simp only [wsTo]
    omega
/-- All wear is that of the first block and of all others together. -/
theorem total_first {bs : List Bk} (hd : devB bs = true) : (bs.length = 1 ∧ totalV bs = wearAt bs 0 ∧ totalV (bs.drop 1) = -1) ∨ (2 ≤ bs.length ∧ 0 ≤ totalV (bs.drop 1) ∧ totalV bs = wearAt bs 0 + totalV (bs.drop 1)) := by
  obtain ⟨⟨h0, h12⟩, hall⟩ := dev_parts hd
  by_cases h1 : bs.length = 1
  · refine .inl ⟨h1, ?_, total_no ?_⟩
    · rw [total_of hd, h1]
      simp [wsTo]
    · have : bs.drop 1 = [] := List.drop_eq_nil_of_le (by omega)
      rw [this]
      rfl
  · have hd1 : devB (bs.drop 1) = true := by
      rw [dev_yes (fun j b hb => hall b (List.mem_of_mem_drop (List.mem_of_getElem? hb))), inB_iff, List.length_drop]
      omega
    refine .inr ⟨by omega, (total_in hd1).1, ?_⟩
    rw [total_of hd, total_of hd1, ws_drop, List.length_drop, show bs.length - 1 + 1 = bs.length by omega]
theorem zs_free (n : Nat) : freeV (zs n) = 4 * n := by
  have e : (4 - cntF [pz, pz, pz, pz]) = 4 := by decide
  unfold freeV zs
  rw [List.map_replicate]
  simp only [e]
  induction n with
  | zero => rfl
  | succ n ih => rw [List.replicate_succ, List.sum_cons, ih]; omega
theorem zs_ws (n k : Nat) : wsTo (zs n) k = 0 := by
  induction k with
  | zero => rfl
  | succ k ih =>
    simp only [wsTo, ih]
    rcases Nat.lt_or_ge k n with h | h
    · rw [wear_at (zs_at h)]; rfl
    · have : (zs n)[k]? = none := List.getElem?_eq_none (by rw [zs_length]; omega)
      simp [wearAt, this]
theorem zs_total {n : Nat} (h1 : 1 ≤ n) (h2 : n ≤ 12) : totalV (zs n) = 0 := by rw [total_of (zs_valid (inB_iff.2 ⟨by omega, by omega⟩)), zs_ws]
theorem zs_small (n : Nat) : ∀ b, b ∈ zs n → b.ps.length ≤ 1048576 := fun b hb => by
  rw [List.eq_of_mem_replicate hb]
  simp
theorem sum_set {l : List (Int × List Pg)} (f : Int × List Pg → Nat) {k : Nat} {q : Int × List Pg} (x : Int × List Pg) (h : l[k]? = some q) : ((l.set k x).map f).sum + f q = (l.map f).sum + f x := by
  induction l generalizing k with
  | nil => simp at h
  | cons p r ih =>
    cases k with
    | zero =>
      simp at h
      subst h
      simp only [List.set_cons_zero, List.map_cons, List.sum_cons]
      omega
    | succ k =>
      simp only [List.getElem?_cons_succ] at h
      have := ih h
      simp only [List.set_cons_succ, List.map_cons, List.sum_cons]
      omega
theorem wear_like {bs cs : List Bk} {j : Nat} (e : (cs[j]?).map Bk.is = (bs[j]?).map Bk.is) : wearAt cs (j : Int) = wearAt bs (j : Int) := by
  unfold wearAt
  simp only [Int.toNat_natCast]
  cases hc : cs[j]? <;> cases hb : bs[j]? <;> rw [hc, hb] at e <;> simp [Bk.is] at e ⊢
  exact e.1
/-- A device with a block erased. -/
theorem erase_facts {bs cs : List Bk} {k : Nat} {m : Int} {Ab : Option Addr} {cb : Nat} {ps : List Pg} (hd : devB bs = true) (hb : bs[k]? = some ⟨m, Ab, cb, ps⟩) (hm : m ≠ 100) (hc : cs.map Bk.is = (bs.map Bk.is).set k (m + 1, [pz, pz, pz, pz])) :
    devB cs = true ∧ totalV cs = totalV bs + 1 ∧ freeV bs ≤ freeV cs ∧ ∀ j, j ≠ k → (cs[j]?).map Bk.is = (bs[j]?).map Bk.is := by
  have hv := (dev_parts hd).2 _ (List.mem_of_getElem? hb)
  obtain ⟨hm0, _, _⟩ := block_parts hv
  obtain ⟨m0, m1⟩ := inB_iff.1 hm0
  dsimp only at m0 m1
  have hki : (bs.map Bk.is)[k]? = some (m, ps) := by rw [List.getElem?_map, hb]; rfl
  have hbz : blockB (m + 1) [pz, pz, pz, pz] = true := by
    have e : inB (m + 1) 0 100 = true := inB_iff.2 ⟨by omega, by omega⟩
    unfold blockB
    rw [e]
    rfl
  have hdc : devB cs = true := (devB_list hc).trans (devL_set ((devB_list rfl).symm.trans hd) k hbz)
  have hoth : ∀ j, j ≠ k → (cs[j]?).map Bk.is = (bs[j]?).map Bk.is := fun j hj => by
    rw [← List.getElem?_map, hc, List.getElem?_set_ne (fun e => hj e.symm), List.getElem?_map]
  have hlen : cs.length = bs.length := by
    have := congrArg List.length hc
    simpa using this
  have hk : k < bs.length := (List.getElem?_eq_some_iff.1 hb).1
  have hwk : wearAt cs (k : Int) = m + 1 := by
    have e : (cs[k]?).map Bk.is = some (m + 1, [pz, pz, pz, pz]) := by
      rw [← List.getElem?_map, hc, List.getElem?_set_self (by rw [List.length_map]; exact hk)]
    cases hq : cs[k]? with
    | none => rw [hq] at e; simp at e
    | some q =>
      rw [hq] at e
      simp [Bk.is] at e
      rw [wear_at hq]
      exact e.1
  have hws : ∀ j, wsTo cs j = wsTo bs j + (if k < j then 1 else 0) := fun j => by
    induction j with
    | zero => simp [wsTo]
    | succ j ih =>
      simp only [wsTo, ih]
      by_cases hj : j = k
      · subst hj
        rw [hwk, wear_at hb, if_neg (by omega), if_pos (by omega)]
        dsimp only
        omega
      · rw [wear_like (hoth j hj)]
        by_cases h2 : k < j
        · rw [if_pos h2, if_pos (by omega)]; omega
        · rw [if_neg h2, if_neg (by omega)]; omega
  refine ⟨hdc, ?_, ?_, hoth⟩
  · rw [total_of hdc, total_of hd, hws, hlen, if_pos hk]
  · rw [free_list hc, free_list rfl]
    have := sum_set (fun q : Int × List Pg => 4 - cntF q.2) (m + 1, [pz, pz, pz, pz]) hki
    have e : cntF [pz, pz, pz, pz] = 0 := rfl
    simp only [e] at this
    unfold freeL
    omega
theorem total_nil : totalV [] = -1 := rfl
theorem cell_kept {w w' : World} {a : Addr} {v : Value} (h : w.cell? a = some v) (hk : w.grownBy w' none) : w'.cell? a = some v := by
  rw [World.cell?_of_block (hk.block a.block (World.block_lt_of_cell? w _ h) (by simp))]
  exact h
/-- EraseAt's ways. -/
theorem erase_cases {n n1 : Nat} {bs : List Bk} {a : Int} {l1 : List (Int × List Pg)} {r : Bool} (hl : bs.length = n) (h : EraseAtIs n bs a n1 l1 r) :
    (n1 = 0 ∧ r = false) ∨ ∃ (k : Nat) (m : Int) (Ab : Option Addr) (cb : Nat) (ps : List Pg), a = (k : Int) ∧ k < n ∧ devB bs = true ∧ bs[k]? = some ⟨m, Ab, cb, ps⟩ ∧ n1 = n ∧ ((m = 100 ∧ r = false ∧ l1 = bs.map Bk.is) ∨ (m ≠ 100 ∧ r = true ∧ l1 = (bs.map Bk.is).set k (m + 1, [pz, pz, pz, pz]))) := by
  rcases h with ⟨_, h1, _, h2⟩ | ⟨_, _, h1, _, h2⟩ | ⟨k, m, m1, ps, ps1, rfl, hd, hi, he, hr, rfl, rfl⟩
  · exact .inl ⟨h1, h2⟩
  · exact .inl ⟨h1, h2⟩
  · obtain ⟨Ab, cb, hb⟩ := is_some hi
    have hk : k < n1 := by have := (List.getElem?_eq_some_iff.1 hb).1; omega
    refine .inr ⟨k, m, Ab, cb, ps, rfl, hk, hd, hb, rfl, ?_⟩
    by_cases hm : m = 100
    · rw [eraseIs, if_pos hm] at he
      injection he with e1 e2
      subst e1; subst e2
      exact .inl ⟨hm, by rw [hr, decide_eq_true hm]; rfl, set_id hi⟩
    · rw [eraseIs, if_neg hm] at he
      injection he with e1 e2
      subst e1; subst e2
      exact .inr ⟨hm, by rw [hr, decide_eq_false hm]; rfl, rfl⟩
end Go.Proofs.Ytpdkfgihpchkiaa
