/- Texts of mine, put together. -/
import Derived.Test.YtbhbdhkifkmkbaaB10
import Derived.Lib.SmallJoins

set_option linter.unusedVariables false

/- A row of whole numbers copied by append; the document's own Rebuild. -/
namespace Go.Proofs.Ytbhbdhkifkmkbaa
open Go.RowKit

theorem intsU_len (f : Nat → Int) (k : Nat) : (intsU f k).length = k := by unfold intsU; simp
theorem intsU_one (f : Nat → Int) (k : Nat) : ∀ u ∈ intsU f k, u.oneCell' = true := by
  intro u hu
  unfold intsU at hu
  obtain ⟨i, _, rfl⟩ := List.mem_map.1 hu
  rfl
theorem intsU_get (f : Nat → Int) (k j : Nat) (u : Value) (h : (intsU f k)[j]? = some u) : j < k ∧ u = .int .i64 (f j) := by
  have hj : j < k := by
    have := (List.getElem?_eq_some_iff.1 h).1
    rw [intsU_len] at this; exact this
  refine ⟨hj, ?_⟩
  unfold intsU at h
  rw [List.getElem?_map, List.getElem?_range hj] at h
  exact (Option.some.inj h).symm

theorem wpList_append_ints {P : Program} (w : World) {ops : Array Oper} {rest : List Oper} {o : Oper} {a : Act} {Q : Exit → Act → World → Prop} (hgd : o.guard = none) (s x : Operand) (t : TypeId)
    (ho : o.op = .call { callee := .builtin .append, args := #[s, x], argTypes := #[t, t] })
    (base : Nat) (e : TypeId) (i : TypeInfo) (z : Value) (bytes : Nat) (ht : P.underlying t = some (.slice e)) (hi : P.info? e = some i) (hz : i.zero = some z)
    (hsize : i.size = 1) (hby : i.bytes = bytes) (hzs : z.cells.size = 1)
    (v : Value) (n : Nat) (xs : List Value) (hs : a.eval s = v) (hown : w.ownsRow base e 1 v n xs)
    (A : Option Addr) (L C : Nat) (f : Nat → Int) (hx : a.eval x = .slice A L C) (hr : IntsAt w A L f) (hC : A = none → C = 0)
    (h63 : n + L ≤ maxLen) (hbytes : (n + L) * bytes ≤ 140737488355328) (hbase : base ≤ w.heap.size)
    (h : ∀ v' w', w'.ownsRow base e 1 v' (n + L) (xs ++ intsU f L) → w.grownBy w' v.ownBlock → wpList P ops Q rest (a.put o.dst v') w') : wpList P ops Q (o :: rest) a w := by
  cases A with
  | some ad =>
    refine wpList_append_own w hgd s x t ho base e i z 1 bytes ht hi hz hsize hby hzs (by decide) v n xs hs hown ad L C (intsU f L) hx (by rw [intsU_len, Nat.mul_one]) (fun j u hu => ?_) (intsU_one f L) h63 hbytes hbase (fun v' w' h1 h2 _ => h v' w' h1 h2)
    obtain ⟨hj, rfl⟩ := intsU_get f L j u hu
    obtain ⟨b, off, e', hc⟩ := hr.resolve_left (by omega)
    cases e'
    have := hc j hj
    have hadd : (⟨b, off, none⟩ : Addr).add j = ⟨b, off + j, none⟩ := by rw [Addr.add_lit]
    rw [hadd]; exact this
  | none =>
    have hL : L = 0 := by
      rcases hr with h0 | ⟨b, off, e', _⟩
      · exact h0
      · cases e'
    subst hL
    obtain rfl := hC rfl
    refine wpList_plain hgd fun K hK' => ?_
    have hrun := run_append_owned_none (P := P) w base t o.type e i 1 ht hi v n xs hown
    unfold Oper.wp
    simp [execOp, ho, resolve, invoke, builtin, hs, hx, hrun, Result.andThen]
    exact hK' _ _ (h v w (by simpa [intsU] using hown) (World.grownBy.refl _ _))

set_option maxRecDepth 100000 in
theorem rreb_bad (k n want : Int) (B A : Option Addr) (m l cb ca : Nat) (R : Nat → Option Addr) (L C : Nat → Nat) (Z : Nat → Nat → Int) (f : Nat → Int) (w : World) (hb : MatAt w B m R L C Z) (ha : IntsAt w A l f) (hca : l ≤ ca) (hcb : m ≤ cb) (hl : l ≤ 140737488355328) (x0 : Int) (kk0 : Nat) (D0 : Nat → Nat → Int) (hd : DecSays k n m l L f Z x0 kk0 D0)
    (hc : ((x0 == 0) = false ∧ (x0 != 0) = true) ∨ (x0 = 0 ∧ want < 0) ∨ (x0 = 0 ∧ ¬ want < 0 ∧ n ≤ want)) :
    Calls Try.prog 21 #[.int .i64 k, .int .i64 n, .slice B m cb, .slice A l ca, .int .i64 want] w fun e w' => e = .returned (.tuple #[.slice none 0 0, .int .i64 (if x0 = 0 then 1 else x0)]) ∧ Bw w w' := by
  rcases hc with ⟨c1, c1'⟩ | ⟨c1, c2⟩ | ⟨c1, c2, c3⟩
  · have e1 : (if x0 = 0 then (1 : Int) else x0) = x0 := if_neg (by simpa using c1)
    rw [e1]
    go_enter Try.func21, Try.ntmps21
    go_wp2_with (go_at_call 20; refine (rdec_all k n B A m l cb ca R L C Z f _ hb ha hca hcb hl).mono ?_; rintro e w1 ⟨v1, x, kk, D, rfl, hm1, hs, hw1⟩; obtain ⟨e2, -, -⟩ := decsays_unique hd hs; subst x)
    go_ret2
    exact ⟨rfl, hw1⟩
  · subst c1
    rw [if_pos rfl]
    go_enter Try.func21, Try.ntmps21
    go_wp2_with (go_at_call 20; refine (rdec_all k n B A m l cb ca R L C Z f _ hb ha hca hcb hl).mono ?_; rintro e w1 ⟨v1, x, kk, D, rfl, hm1, hs, hw1⟩; obtain ⟨e2, -, -⟩ := decsays_unique hd hs; subst x)
    go_ret2
    exact ⟨rfl, hw1⟩
  · subst c1
    rw [if_pos rfl]
    go_enter Try.func21, Try.ntmps21
    go_wp2_with (go_at_call 20; refine (rdec_all k n B A m l cb ca R L C Z f _ hb ha hca hcb hl).mono ?_; rintro e w1 ⟨v1, x, kk, D, rfl, hm1, hs, hw1⟩; obtain ⟨e2, -, -⟩ := decsays_unique hd hs; subst x)
    go_ret2
    exact ⟨rfl, hw1⟩

set_option maxRecDepth 100000 in
set_option maxHeartbeats 1000000 in
theorem rreb_ok (k n want : Nat) (B A : Option Addr) (m l cb ca : Nat) (R : Nat → Option Addr) (L C : Nat → Nat) (Z : Nat → Nat → Int) (f : Nat → Int) (w : World) (hb : MatAt w B m R L C Z) (ha : IntsAt w A l f) (hca : l ≤ ca) (hcb : m ≤ cb) (hl : l ≤ 140737488355328) (D0 : Nat → Nat → Int) (hd : DecSays (k : Int) (n : Int) m l L f Z 0 k D0) (hw0 : want < n) :
    Calls Try.prog 21 #[.int .i64 (k : Int), .int .i64 (n : Int), .slice B m cb, .slice A l ca, .int .i64 (want : Int)] w fun e w' => ∃ g, e = .returned (.tuple #[.slice (some ⟨g, 0, none⟩) (L 0) (L 0), .int .i64 0]) ∧ RowAt w' (some ⟨g, 0, none⟩) (L 0) (atZ k f Z (want : Int)) ∧ Bw w w' := by
  obtain ⟨k1, k2, k3, k4, k5⟩ := decsays_shape hd
  obtain ⟨hsh, -, -⟩ := decsays_ok hd
  obtain ⟨s1, rfl, s3, s4, s5⟩ := sh_ok hsh
  have c1 : ¬ (want : Int) < 0 := by omega
  have c2 : ¬ (n : Int) ≤ (want : Int) := by omega
  have HP : Hid (∀ i, i < k → 0 ≤ f i ∧ f i < 256) := fun i hi => by have := (s3 i (by omega)).1; omega
  have HM : Hid (∀ r, r < k → L r = L 0) := fun r hr => (rows_ok s5).2 r (by omega)
  obtain ⟨b1, o1, rfl, -⟩ := ha.resolve_left (by omega)
  obtain ⟨b2, o2, rfl, -⟩ := hb.at (k := 0) (by omega)
  have pk := ints_take ha (show k ≤ m by omega)
  have rk := mat_take hb (show k ≤ m by omega)
  have kca : (k : Int) ≤ (ca : Int) := by omega
  have kcb : (k : Int) ≤ (cb : Int) := by omega
  clear s3 s5 s1 hsh
  go_enter Try.func21, Try.ntmps21
  go_wp2_with (go_at_call 20; refine (rdec_all (k : Int) (n : Int) _ _ m m cb ca R L C Z f _ hb ha hca hcb hl).mono ?_; rintro e w1 ⟨v1, x, kk, D, rfl, hm1, hs, hw1⟩; obtain ⟨e2, -, -⟩ := decsays_unique hd hs; subst x; clear hs hm1)
  have pk1 := pk.keep hw1
  have rk1 := rk.keep hw1
  go_region_with (go_at_call 34; refine (rat_any _ _ k (L 0) _ _ f R L C Z (want : Int) _ (pk1.keep (Bw.refl _).drew) (rk1.keep (Bw.refl _).drew) HP HM (by omega) (by omega) k5 (by omega) (by omega)).mono ?_; rintro e w3 ⟨g, rfl, hgg, hblk, hw3⟩; have hb3 : Bw w1 w3 := ⟨hw3.os, hw3.tape, hw3.output, hw3.size, hw3.block⟩)
  all_goals
    go_wp2
    go_ret2
    exact ⟨g, rfl, hblk.row (fun i => atZ_bd _ _ _ _ _), hw1.trans hb3⟩

theorem rreb_all (k n want : Int) (B A : Option Addr) (m l cb ca : Nat) (R : Nat → Option Addr) (L C : Nat → Nat) (Z : Nat → Nat → Int) (f : Nat → Int) (w : World) (hb : MatAt w B m R L C Z) (ha : IntsAt w A l f) (hca : l ≤ ca) (hcb : m ≤ cb) (hl : l ≤ 140737488355328) :
    Calls Try.prog 21 #[.int .i64 k, .int .i64 n, .slice B m cb, .slice A l ca, .int .i64 want] w fun e w' => ∃ A' cap x q row, e = .returned (.tuple #[.slice A' q cap, .int .i64 x]) ∧ RowAt w' A' q row ∧ RebSays k n m l L f Z want x q row ∧ Bw w w' := by
  obtain ⟨x0, kk, D, hd⟩ := dec_some k n m l L f Z
  by_cases h0 : x0 = 0
  · by_cases h1 : want < 0 ∨ n ≤ want
    · refine (rreb_bad k n want B A m l cb ca R L C Z f w hb ha hca hcb hl x0 kk D hd ?_).mono ?_
      · by_cases h2 : want < 0
        · exact Or.inr (Or.inl ⟨h0, h2⟩)
        · exact Or.inr (Or.inr ⟨h0, h2, h1.resolve_left h2⟩)
      · rintro e w' ⟨rfl, hw⟩
        rw [if_pos h0]
        exact ⟨none, 0, 1, 0, _, rfl, row_none w', ⟨x0, kk, D, hd, Or.inr (Or.inl ⟨h0, h1, rfl, rfl⟩)⟩, hw⟩
    · subst h0
      obtain ⟨k1, k2, k3, k4, k5⟩ := decsays_shape hd
      obtain ⟨hsh, -, hwd⟩ := decsays_ok hd
      obtain ⟨s1, s2, s3, s4, s5⟩ := sh_ok hsh
      obtain ⟨n', rfl⟩ := Int.eq_ofNat_of_zero_le (show 0 ≤ n by omega)
      obtain ⟨want', rfl⟩ := Int.eq_ofNat_of_zero_le (show 0 ≤ want by omega)
      subst k4
      rw [Int.toNat_natCast] at hwd
      refine (rreb_ok kk n' want' B A m l cb ca R L C Z f w hb ha hca hcb hl D hd (by omega)).mono ?_
      rintro e w' ⟨g, rfl, hr, hw⟩
      refine ⟨_, _, 0, L 0, _, rfl, hr, ⟨0, kk, D, hd, Or.inr (Or.inr ⟨rfl, by omega, by omega, rfl, rfl, fun c hc => ?_⟩)⟩, hw⟩
      rw [Int.toNat_natCast, Int.toNat_natCast]
      exact wordof_at (by omega) k3 s3 (by omega) hwd (by omega) hc
  · refine (rreb_bad k n want B A m l cb ca R L C Z f w hb ha hca hcb hl x0 kk D hd (Or.inl ⟨by simpa using h0, by simpa using h0⟩)).mono ?_
    rintro e w' ⟨rfl, hw⟩
    rw [if_neg h0]
    exact ⟨none, 0, x0, 0, _, rfl, row_none w', ⟨x0, kk, D, hd, Or.inl ⟨h0, rfl, rfl⟩⟩, hw⟩

end Go.Proofs.Ytbhbdhkifkmkbaa

/- What a call is told of some shards with their numbers that came in. -/
namespace Go.Proofs.Ytbhbdhkifkmkbaa
open Go.ChangeShapes Go.WideShapes Go.RowKit Go.Deep Go.Joins

set_option maxRecDepth 100000 in
theorem open_shards {H : Type} {enc : TypeId × Value → H} {W : World} {b0 : Nat} {v : Value} {d : DataW H} {p : List MemPlace} (hval : Value.okWide Try.prog W .any b0 35 v)
    (h : DataW.Trod enc Try.prog W 0 (fun _ => true) true 35 v d p) (hw : ∀ x ∈ d.weights Try.prog 35, x ≤ reachBytes) :
    ∃ (K N : Int) (A : Option Addr) (n cap : Nat) (R : Nat → Option Addr) (L C : Nat → Nat) (Z : Nat → Nat → Int) (B : Option Addr) (l cb : Nat) (f : Nat → Int), v = .agg #[.int .i64 K, .int .i64 N, .slice A n cap, .slice B l cb] ∧
      (Lit.int .i64 K).wf = true ∧ (Lit.int .i64 N).wf = true ∧ InMat W A n cap R L C Z ∧ InInts W B l cb f := by
  obtain ⟨v0, v1, v2, v3, y0, y1, y2, y3, fuel, rfl, rfl, -, t0, t1, t2, t3⟩ := open_agg4 Try.underlying35 (by kernel_rfl) (by kernel_rfl) hval h
  obtain ⟨K, e0, -, wK⟩ := DataW.trod_int Try.underlying3 t0
  obtain ⟨N, e1, -, wN⟩ := DataW.trod_int Try.underlying3 t1
  obtain ⟨A, n, cap, e2⟩ := slice_form Try.underlying22 t2
  obtain ⟨B, l, cb, e3⟩ := slice_form Try.underlying33 t3
  cases e0; cases e1; cases e2; cases e3
  have hw2 : ∀ x ∈ DataW.weightsEach Try.prog [3, 3, 22, 33] [y0.1, y1.1, y2.1, y3.1], x ≤ reachBytes := by
    intro x hx
    refine hw x ?_
    simp only [DataW.weights, Try.underlying35]
    exact hx
  obtain ⟨R, L, C, Z, hM⟩ := open_rows (A := A) (n := n) (cap := cap) (d := y2.1) (p := y2.2) ⟨fuel, t2⟩ (fun x hx => hw2 x (DataW.weights_mem_each (j := 2) (t := 22) rfl rfl x hx))
  obtain ⟨f, hI⟩ := open_introw (A := B) (n := l) (cap := cb) (d := y3.1) (p := y3.2) ⟨fuel, t3⟩ (fun x hx => hw2 x (DataW.weights_mem_each (j := 3) (t := 33) rfl rfl x hx))
  exact ⟨K, N, A, n, cap, R, L, C, Z, B, l, cb, f, rfl, wK, wN, hM, hI⟩

end Go.Proofs.Ytbhbdhkifkmkbaa
