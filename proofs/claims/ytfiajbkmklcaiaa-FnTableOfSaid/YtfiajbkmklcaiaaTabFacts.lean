/- Plain facts that the laws FnTableOf and FnFileValues ask: the table of a device names the newest pages; the values are those of the pages. -/
import Derived.Test.YtfiajbkmklcaiaaFileFacts
import Derived.Test.YtfiajbkmklcaiaaTables10
import Derived.Test.YtfiajbkmklcaiaaDrawBoth3
namespace Go.Proofs.Ytfiajbkmklcaiaa
open Go.ChangeShapes Go.WideShapes Go.ChangeAt Go.RowKit
set_option linter.unusedVariables false

theorem page_valid {bs : List Bk} (hd : devB bs = true) {k : Nat} {p : Pg} (hp : pageAt bs k = some p) : pageB p.f p.a p.b p.c p.d = true := by
  obtain ⟨_, hall⟩ := dev_parts hd
  unfold pageAt at hp
  rw [Option.bind_eq_some_iff] at hp
  obtain ⟨b, hb, hq⟩ := hp
  obtain ⟨_, h4, ho⟩ := block_parts (hall b (List.mem_of_getElem? hb))
  have hlt := (List.getElem?_eq_some_iff.1 hq).1
  unfold ordB at ho
  rw [List.all_eq_true] at ho
  have h1 := ho (k % 4) (by simpa using hlt)
  unfold okAt at h1
  rw [Bool.and_eq_true] at h1
  have h2 := h1.1
  have e : b.ps.getD (k % 4) pz = p := by simp [List.getD_eq_getElem?_getD, hq]
  rw [e] at h2
  exact h2
/-- What holds of the table of the first k pages, further: it names pages of their own places, and none that is older than one of the first k. -/
structure OfBest (bs : List Bk) (k : Nat) (xss : List (List Int)) : Prop where
  ent : ∀ (f j : Nat) (x : Int), cellO xss f j = some x → x = -1 ∨ ∃ (a : Nat) (q : Pg), x = (a : Int) ∧ pageAt bs a = some q ∧ q.f = true ∧ q.a = (f : Int) ∧ q.b = (j : Int)
  best : ∀ (a : Nat) (p : Pg), a < k → pageAt bs a = some p → p.f = true → ∃ (a' : Nat) (q : Pg), cellO xss p.a.toNat p.b.toNat = some (a' : Int) ∧ pageAt bs a' = some q ∧ p.d ≤ q.d
theorem of_best {bs : List Bk} (hd : devB bs = true) : ∀ k : Nat, k ≤ 48 → OfBest bs k (tabTo bs k)
  | 0, _ => ⟨fun f j x h => .inl (noTab_cell h), fun a p h => absurd h (by omega)⟩
  | k + 1, hk => by
    have ih := of_best hd k (by omega)
    have iv := (of_inv hd k (by omega)).tv
    show OfBest bs (k + 1) (ofStep bs (tabTo bs k) k)
    have keep : (∀ p, pageAt bs k = some p → p.f = true → ∃ (a' : Nat) (q : Pg), cellO (tabTo bs k) p.a.toNat p.b.toNat = some (a' : Int) ∧ pageAt bs a' = some q ∧ p.d ≤ q.d) → OfBest bs (k + 1) (tabTo bs k) := fun h => by
      refine ⟨ih.ent, fun a p ha hp hf => ?_⟩
      rcases Nat.lt_or_ge a k with h1 | h1
      · exact ih.best a p h1 hp hf
      · obtain rfl : a = k := by omega
        exact h p hp hf
    cases hp : pageAt bs k with
    | none =>
      have e : ofStep bs (tabTo bs k) k = tabTo bs k := by simp [ofStep, hp]
      rw [e]
      exact keep fun p hp' => by rw [hp] at hp'; cases hp'
    | some p =>
      cases hf : p.f
      · rw [of_old hp hf]
        refine keep fun p' hp' hf' => ?_
        rw [hp] at hp'
        injection hp' with hp'
        subst hp'
        rw [hf] at hf'
        cases hf'
      · obtain ⟨f, j, ea, eb, hf8, hj6⟩ := full_in hd hp hf
        obtain ⟨ys, y, hy1, hy6, hy2, hc⟩ := iv.cell hf8 hj6
        cases hn : newerB bs (tabTo bs k) p
        · rw [of_less hp hn]
          refine keep fun p' hp' hf' => ?_
          rw [hp] at hp'
          injection hp' with hp'
          subst hp'
          rcases ih.ent f j y hc with rfl | ⟨a, q, rfl, hq, hqf, _⟩
          · rw [newer_none ea eb hc] at hn
            cases hn
          · rw [newer_some ea eb hc hq] at hn
            refine ⟨a, q, by rw [ea, eb]; simpa using hc, hq, ?_⟩
            have := of_decide_eq_false hn
            omega
        · rw [of_new hp hf ea eb hn]
          refine ⟨fun f' j' x hx => ?_, fun a p0 ha hp0 hf0 => ?_⟩
          · rw [tset_cell iv hf8 hj6] at hx
            split at hx
            · rename_i e
              injection hx with hx
              obtain ⟨rfl, rfl⟩ := e
              exact .inr ⟨k, p, hx.symm, hp, hf, ea, eb⟩
            · exact ih.ent f' j' x hx
          · rw [tset_cell iv hf8 hj6]
            rcases Nat.lt_or_ge a k with h1 | h1
            · obtain ⟨a', q, hc', hq, hle⟩ := ih.best a p0 h1 hp0 hf0
              split
              · rename_i e
                rw [e.1, e.2] at hc'
                rw [newer_some ea eb hc' hq] at hn
                have := of_decide_eq_true hn
                exact ⟨k, p, rfl, hp, by omega⟩
              · exact ⟨a', q, hc', hq, hle⟩
            · obtain rfl : a = k := by omega
              rw [hp] at hp0
              injection hp0 with hp0
              subst hp0
              rw [ea, eb, if_pos ⟨by simp, by simp⟩]
              exact ⟨a, p, rfl, hp, Int.le_refl _⟩
theorem readV_at {bs : List Bk} (hd : devB bs = true) {a : Nat} {q : Pg} (h : pageAt bs a = some q) : readV bs (a : Int) = q := by
  unfold readV
  rw [if_pos hd, if_pos (by omega), Int.toNat_natCast, h]
  rfl
/-- Every place holds a hole or a page of its own: then there are values. -/
theorem vals_all {bs : List Bk} {xs : List Int} {f : Int} (z : Nat) (h : ∀ k : Nat, k < z → ∀ x, xs[k]? = some x → x < 0 ∨ isAt (readV bs x) f k = true) (hz : z ≤ xs.length) : ∃ l, valsTo bs xs f z = some l := by
  induction z with
  | zero => exact ⟨[], rfl⟩
  | succ z ih =>
    obtain ⟨l, hl⟩ := ih (fun k hk => h k (by omega)) (by omega)
    obtain ⟨x, hx⟩ : ∃ x, xs[z]? = some x := ⟨_, List.getElem?_eq_getElem (by omega)⟩
    by_cases h0 : x < 0
    · exact ⟨_, vals_hole hl hx h0⟩
    · exact ⟨_, vals_page hl hx h0 ((h z (by omega) x hx).resolve_left h0)⟩
/-- The table of a valid device. -/
theorem tof_facts {bs : List Bk} {L : List (List Int)} {m n : Nat} (hd : devB bs = true) (h : TOfIs bs L m) (hl : bs.length = n) : tabB L = true ∧
    (∀ (k : Nat) (p : Pg), k < 4 * n → readV bs (k : Int) = p → p.f = true → ∃ (y : Int) (q : Pg), tgetV L p.a p.b = y ∧ readV bs y = q ∧ q.f = true ∧ p.d ≤ q.d ∧ sameB p.f p.a p.b p.c p.d q.f q.a q.b q.c q.d = true) ∧
    ∀ f : Nat, f < 8 → (fvalV bs L f).2 = true := by
  obtain ⟨⟨h1, h12⟩, hall⟩ := dev_parts hd
  have h4 : ∀ b, b ∈ bs → b.ps.length = 4 := fun b hm => (block_parts (hall b hm)).2.1
  obtain ⟨rfl, _⟩ := h
  rw [of_yes hd]
  have hT := (of_inv hd (4 * bs.length) (by omega)).tv
  have hO := of_best hd (4 * bs.length) (by omega)
  have hv := (tabB_iff _).2 hT
  refine ⟨hv, fun k p hk hr hf => ?_, fun f hf => ?_⟩
  · obtain ⟨p', hp'⟩ := page_some h4 (a := k) (by omega)
    rw [readV_at hd hp'] at hr
    subst hr
    obtain ⟨fn, j, ea, eb, hf8, hj6⟩ := full_in hd hp' hf
    obtain ⟨a, q, hc, hq, hle⟩ := hO.best k p' (by omega) hp' hf
    rw [ea, eb] at hc
    simp only [Int.toNat_natCast] at hc
    rcases hO.ent fn j _ hc with h0 | ⟨a', q', e1, hq', hqf, hqa, hqb⟩
    · omega
    · obtain rfl : a = a' := by omega
      rw [hq] at hq'
      injection hq' with hq'
      subst hq'
      refine ⟨(a : Int), q, ?_, readV_at hd hq, hqf, hle, ?_⟩
      · rw [ea, eb]
        exact tget_at (arg_yes hv (inB_iff.2 ⟨by omega, by omega⟩) (inB_iff.2 ⟨by omega, by omega⟩)) hc
      · have v1 := page_valid hd hp'
        have v2 := page_valid hd hq
        rw [hf, ea, eb] at v1
        rw [hqf, hqa, hqb] at v2
        simp only [sameB, hf, hqf, ea, eb, hqa, hqb, v1, v2, decide_true, Bool.and_self]
  · have hf' : inB (f : Int) 0 7 = true := inB_iff.2 ⟨by omega, by omega⟩
    have h8 := hT.len
    have hx := List.getElem?_eq_getElem (l := tabTo bs (4 * bs.length)) (i := f) (by omega)
    have h6 := hT.six _ (List.mem_of_getElem? hx)
    obtain ⟨l, hl'⟩ := vals_all (bs := bs) (xs := (tabTo bs (4 * bs.length))[f]) (f := (f : Int)) (szAt (tabTo bs (4 * bs.length))[f] 6) (fun k hk x hxk => by
      rcases hO.ent f k x (cellO_of hx hxk) with rfl | ⟨a, q, rfl, hq, hqf, hqa, hqb⟩
      · exact .inl (by omega)
      · exact .inr (by rw [readV_at hd hq]; simp [isAt, hqf, hqa, hqb])) (by have := szAt_le (tabTo bs (4 * bs.length))[f] 6; omega)
    rw [fval_some hd (file_yes hv hf') hx hl']
theorem vals_get {bs : List Bk} {xs l : List Int} {f : Int} {z : Nat} (h : valsTo bs xs f z = some l) {k : Nat} (hk : k < z) (hz : z ≤ xs.length) : l[k]? = some (readV bs (xs.getD k (-1))).c := by
  induction z generalizing l with
  | zero => omega
  | succ z ih =>
    simp only [valsTo, Option.bind_eq_some_iff] at h
    obtain ⟨t, ht, h⟩ := h
    have hlen := vals_len ht
    have last : ∀ v : Int, (k < z → t[k]? = some (readV bs (xs.getD k (-1))).c) → (k = z → v = (readV bs (xs.getD k (-1))).c) → (t ++ [v])[k]? = some (readV bs (xs.getD k (-1))).c := fun v h1 h2 => by
      rcases Nat.lt_or_ge k z with h3 | h3
      · rw [List.getElem?_append_left (by omega)]
        exact h1 h3
      · obtain rfl : k = z := by omega
        rw [List.getElem?_append_right (by omega), hlen, Nat.sub_self, h2 rfl]
        rfl
    split at h
    · rename_i h0
      injection h with h
      subst h
      exact last 0 (fun h1 => ih ht h1 (by omega)) (fun e => by subst e; rw [readV_neg h0]; rfl)
    · split at h
      · injection h with h
        subst h
        exact last _ (fun h1 => ih ht h1 (by omega)) (fun e => by subst e; rfl)
      · cases h
/-- What FileValues answers, told by cases. -/
theorem fval_cases {bs : List Bk} {xss : List (List Int)} {f : Int} {X : List Int} {r : Bool} (h : fvalV bs xss f = (X, r)) : (r = false ∧ X = []) ∨ (r = true ∧ X.length ≤ 6 ∧ fsizeV xss f = (X.length : Nat) ∧ ∀ k : Nat, k < X.length → X[k]? = some (readV bs (tgetV xss f k)).c) := by
  cases hd : devB bs
  · rw [fval_no1 hd] at h
    injection h with h1 h2
    exact .inl ⟨h2.symm, h1.symm⟩
  cases hB : fileB xss f
  · rw [fval_no2 hB] at h
    injection h with h1 h2
    exact .inl ⟨h2.symm, h1.symm⟩
  obtain ⟨hv, hf⟩ := file_is hB
  obtain ⟨fn, rfl, hfn⟩ := inB_nat (m := 7) hf
  have hT := (tabB_iff _).1 hv
  have h8 := hT.len
  have hx := List.getElem?_eq_getElem (l := xss) (i := fn) (by omega)
  have h6 := hT.six _ (List.mem_of_getElem? hx)
  have hz := szAt_le xss[fn] 6
  cases hvv : valsTo bs xss[fn] (fn : Int) (szAt xss[fn] 6) with
  | none =>
    rw [fval_none hd hB hx hvv] at h
    injection h with h1 h2
    exact .inl ⟨h2.symm, h1.symm⟩
  | some l =>
    rw [fval_some hd hB hx hvv] at h
    injection h with h1 h2
    subst h1; subst h2
    have hlen := vals_len hvv
    refine .inr ⟨rfl, by omega, by rw [fsize_at hB hx, hlen], fun k hk => ?_⟩
    rw [vals_get hvv (by omega) (by omega)]
    have hc := List.getElem?_eq_getElem (l := xss[fn]) (i := k) (by omega)
    rw [tget_at (arg_yes hv hf (inB_iff.2 ⟨by omega, by omega⟩)) (cellO_of hx hc), List.getD_eq_getElem?_getD, hc, Option.getD_some]
section
variable {D A : Option Addr} {nd cd n c : Nat} {bs : List Bk} {ls : List Li} {f : Int} {X : List Int} {r : Bool} {w : World}
theorem specVals_v (h : fvalV bs (ll ls) f = (X, r)) (hld : bs.length = nd) (hrd : DRow w w.heap.size D bs) (hnd : nd ≤ 1048576) (hpd : ∀ b, b ∈ bs → b.ps.length ≤ 1048576) (hl : ls.length = n) (hr : TRow w w.heap.size A ls) (hn : n ≤ 1048576) (hp : ∀ l, l ∈ ls → l.xs.length ≤ 1048576) :
    Calls Try.prog 38 #[.slice D nd cd, .agg #[.slice A n c], .int .i64 f] w (IMade2 X r w) := by
  have := specFileValues_any D nd cd bs A n c ls f w hld hrd hnd hpd hl hr hn hp
  rwa [h] at this
theorem vals_v (h : fvalV bs (ll ls) f = (X, r)) (hld : bs.length = nd) (hrd : DRow w w.heap.size D bs) (hnd : nd ≤ 1048576) (hpd : ∀ b, b ∈ bs → b.ps.length ≤ 1048576) (hl : ls.length = n) (hr : TRow w w.heap.size A ls) (hn : n ≤ 1048576) (hp : ∀ l, l ∈ ls → l.xs.length ≤ 1048576) :
    Calls Try.prog 26 #[.slice D nd cd, .agg #[.slice A n c], .int .i64 f] w (IMade2 X r w) := by
  have := fileValues_any D nd cd bs A n c ls f w hld hrd hnd hpd hl hr hn hp
  rwa [h] at this
end
end Go.Proofs.Ytfiajbkmklcaiaa
