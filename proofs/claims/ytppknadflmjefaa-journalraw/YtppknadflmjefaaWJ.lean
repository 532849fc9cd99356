/- Layer 15: Records, Room, Count; may; last. -/
import Derived.Test.YtppknadflmjefaaWI

namespace Go.Proofs.Ytppknadflmjefaa
open Go.RowKit Go.Deep Go.Maps
set_option linter.unusedVariables false
set_option linter.unusedSimpArgs false

theorem jd_ne {w : World} {base gj g lb gm : Nat} {R : Nat → Prop} {v : Value} {J : Jl.Jn} {S : Dsk} {g' : Nat} (h : JrAt w base gj g' R v J) (k : DiskAt w g lb gm S) : ∀ b, jIn gj v b → ¬ dIn g lb gm b := fun b hb hd => by
  have hty : ∃ cur t, w.heap[b]? = some (.cells cur t (0, 0)) ∧ (t = 87 ∨ t = 37) := by
    rcases hb with rfl | hb
    · exact ⟨_, _, h.cells, .inl rfl⟩
    · obtain ⟨vs, k1, _⟩ := h.recs
      rcases k1.2 with ⟨rfl, _⟩ | ⟨g', cap, cur, rfl, _, hg, _⟩
      · cases hb
      · simp only [Value.ownBlock, Option.some.injEq] at hb
        subst hb
        exact ⟨_, _, hg, .inr rfl⟩
  obtain ⟨cur, t, h1, ht⟩ := hty
  rcases hd with rfl | rfl | rfl
  · rw [k.cells] at h1
    simp only [Option.some.injEq, Obj.cells.injEq] at h1
    rcases ht with rfl | rfl <;> exact absurd h1.2.1 (by decide)
  · obtain ⟨cur', h2, _⟩ := k.rows
    rw [h2] at h1
    simp only [Option.some.injEq, Obj.cells.injEq] at h1
    rcases ht with rfl | rfl <;> exact absurd h1.2.1 (by decide)
  · obtain ⟨es, c, h2⟩ := k.map.block
    rw [h2] at h1
    cases h1
theorem JrAt.keepd {w w' : World} {base gj g lb gm g' : Nat} {R : Nat → Prop} {v : Value} {J : Jl.Jn} {S : Dsk} (h : JrAt w base gj g' R v J) (k : DiskAt w g lb gm S) (hR : ∀ b, R b → ¬ dIn g lb gm b) (x : Bx (dIn g lb gm) w w') : JrAt w' base gj g' R v J :=
  h.keepx x (jd_ne h k gj (.inl rfl)) (fun b hb => jd_ne h k b (.inr hb)) hR
theorem DiskAt.keepj {w w' : World} {base gj g lb gm g' : Nat} {R : Nat → Prop} {v : Value} {J : Jl.Jn} {S : Dsk} {P : Nat → Prop} (k : DiskAt w g lb gm S) (h : JrAt w base gj g' R v J) (hP : ∀ b, P b → jIn gj v b) (x : Bx P w w') : DiskAt w' g lb gm S :=
  k.keepx x (fun e => jd_ne h k _ (hP _ e) (.inl rfl)) (fun e => jd_ne h k _ (hP _ e) (.inr (.inl rfl))) (fun e => jd_ne h k _ (hP _ e) (.inr (.inr rfl)))

theorem jcount_any {w : World} {base gj g : Nat} {R : Nat → Prop} {v : Value} {J : Jl.Jn} (h : JrAt w base gj g R v J) :
    Calls Try.prog 24 #[.pointer (some ⟨gj, 0, none⟩)] w fun e w' => e = .returned (.int .u64 (J.h.n : Int)) ∧ w' = w := by
  have c := h.c3
  go_enter Try.func24, Try.ntmps24
  go_wp2
  go_ret
  exact ⟨rfl, rfl⟩
theorem jcount_nil (w : World) : Calls Try.prog 24 #[.pointer none] w fun e w' => e = .returned (.int .u64 0) ∧ w' = w := by
  go_enter Try.func24, Try.ntmps24
  go_wp2
  go_ret
  exact ⟨rfl, rfl⟩
theorem jroom_nil (w : World) : Calls Try.prog 23 #[.pointer none] w fun e w' => e = .returned (.int .i64 0) ∧ w' = w := by
  go_enter Try.func23, Try.ntmps23
  go_wp2
  go_ret
  exact ⟨rfl, rfl⟩
theorem jrecords_nil (w : World) : Calls Try.prog 20 #[.pointer none] w fun e w' => e = .returned (.slice none 0 0) ∧ w' = w := by
  go_enter Try.func20, Try.ntmps20
  go_wp2
  go_ret
  exact ⟨rfl, rfl⟩
theorem jadd_nil (w : World) (A : Option Addr) (n c : Nat) : Calls Try.prog 21 #[.pointer none, .slice A n c] w fun e w' => e = .returned (.int .i64 8) ∧ w' = w := by
  go_enter Try.func21, Try.ntmps21
  go_wp2
  go_ret
  exact ⟨rfl, rfl⟩
theorem jrew_nil (w : World) (A : Option Addr) (n c : Nat) : Calls Try.prog 22 #[.pointer none, .slice A n c] w fun e w' => e = .returned (.int .i64 8) ∧ w' = w := by
  go_enter Try.func22, Try.ntmps22
  go_wp2
  go_ret
  exact ⟨rfl, rfl⟩
set_option maxRecDepth 100000 in
theorem jroom_any {w : World} {base gj g : Nat} {R : Nat → Prop} {v : Value} {J : Jl.Jn} (h : JrAt w base gj g R v J) :
    Calls Try.prog 23 #[.pointer (some ⟨gj, 0, none⟩)] w fun e w' => e = .returned (.int .i64 (((Jl.room J.rc - J.h.len : Nat)) : Int)) ∧ Bw w w' := by
  have c1 := h.c1
  have c2 := h.c2
  have c5 := h.c5
  have hk := h.ok
  have hl := hk.fit.2.2
  have hr := Jl.room_le hk.rc
  have HR := roomof_any (J.r0 : Int) J.rc hk.rc4 hk.rc w.drew
  obtain ⟨rm, hrm⟩ : ∃ r, Hid (Jl.room J.rc = r) := ⟨_, rfl⟩
  rw [hrm.out] at HR hl hr ⊢
  have H : Hid (JrAt w base gj g R v J) := h
  have e1 : (rm : Int) - (J.h.len : Int) = ((rm - J.h.len : Nat) : Int) := by omega
  have ew : IntKind.i64.wrap ((rm : Int) - (J.h.len : Int)) = (rm : Int) - (J.h.len : Int) := by rw [IntKind.wrap_i64]; omega
  clear h hk
  go_enter Try.func23, Try.ntmps23
  go_wp2
  go_region_held3 (fun w' => w'.cell? ⟨gj, 1, none⟩ = some (.int .i64 (J.r0 : Int)) ∧ w'.cell? ⟨gj, 2, none⟩ = some (.int .i64 (J.rc : Int)) ∧ w'.cell? ⟨gj, 5, none⟩ = some (.int .i64 (J.h.len : Int)))
    (first | exact ⟨c1, c2, c5⟩ | exact ⟨d1, d2, d5⟩ | assumption)
    (first | (go_at_call 54; refine HR.mono ?_; rintro e w1 ⟨rfl, hb1⟩; have hb1' : Bw w w1 := Bw.trans ((Bw.refl w).drew) hb1; have H1 := H.out.keep hb1'; have d1 := H1.c1; have d2 := H1.c2; have d5 := H1.c5; clear H1))
  go_wp2
  go_ret
  exact ⟨ret_int (by rw [IntKind.wrap_i64]; omega), hb1'⟩
theorem jrecords_any {w : World} {base gj g : Nat} {R : Nat → Prop} {v : Value} {J : Jl.Jn} (h : JrAt w base gj g R v J) :
    Calls Try.prog 20 #[.pointer (some ⟨gj, 0, none⟩)] w fun e w' => CopyV w J.L.length J.L e w' := by
  have c6 := h.c6
  obtain ⟨vs, k1, k2, k3⟩ := h.recs
  have hf := h.ok.few
  obtain ⟨A, c, rfl, h1, h2, hM, h3⟩ := mat_of_own k1 k2
  have HC := jcopied_any c hM (by omega)
  clear h k1 k2 k3 hM h3
  obtain ⟨n, hn⟩ : ∃ n, Hid (J.L.length = n) := ⟨_, rfl⟩
  rw [hn.out] at c6 HC ⊢
  clear hf h1 h2
  go_enter Try.func20, Try.ntmps20
  go_wp2_with (go_at_call 51; refine HC.mono ?_; intro e w1 hC; have hC' := hC; obtain ⟨g1, us, rfl, -⟩ := hC')
  go_ret
  exact hC
theorem long_iff (l : List (List Nat)) : Jl.long l = true ↔ ∃ r ∈ l, 65535 < r.length := by unfold Jl.long; simp
set_option maxRecDepth 100000 in
theorem jmay_any {w : World} {base gj g : Nat} {R : Nat → Prop} {v : Value} {J : Jl.Jn} (h : JrAt w base gj g R v J) {A : Option Addr} {n : Nat} (ca rm : Nat) {vs : List Value} {L : List (List Nat)} (hM : MatV w A n vs L) (hn : n ≤ 1000000) (hs : (Jl.packed L).length ≤ 1000000) (hr : rm ≤ 2097088) :
    Calls Try.prog 52 #[.pointer (some ⟨gj, 0, none⟩), .slice A n ca, .int .i64 (rm : Int)] w fun e w' => e = .returned (.int .i64 (Jl.may J L rm)) ∧ w' = w := by
  have c7 := h.c7
  unfold Jl.may
  cases hd : J.dead with
  | true =>
    rw [hd] at c7
    rw [if_pos rfl]
    clear h hM
    go_enter Try.func52, Try.ntmps52
    go_wp2
    go_ret
    exact ⟨rfl, rfl⟩
  | false =>
    rw [hd] at c7
    rw [if_neg (by decide)]
    have HS := jsizeof_any ca hM hn hs
    obtain ⟨E, hE⟩ : ∃ E : Int, Hid ((if Jl.long L = true then 2 else if rm < (Jl.packed L).length then 3 else 0) = E) := ⟨_, rfl⟩
    rw [hE.out]
    clear h
    go_enter Try.func52, Try.ntmps52
    go_wp2
    go_loop [15] (fun i => ∃ k : Nat, k ≤ n ∧ i = .int .i64 (k : Int) ∧ Hid (∀ j r, j < k → L[j]? = some r → ¬ 65535 < r.length)) (fun i => n - (intOf i).toNat)
    case atStart => exact ⟨0, Nat.zero_le _, rfl, fun j r hj => by omega⟩
    case round =>
      obtain ⟨k, hk, rfl, hz⟩ := hrel
      have k0 : (0 : Int) ≤ (k : Int) := Int.natCast_nonneg _
      by_cases hlt : k < n
      · have k1 : (k : Int) < (n : Int) := by omega
        obtain ⟨r, b, off, A', c', hr', rfl, hcell, _, _, h47, -⟩ := hM.row hlt
        have Hr : Hid (L[k]? = some r) := hr'
        obtain ⟨m, hm⟩ : ∃ m, Hid (r.length = m) := ⟨_, rfl⟩
        rw [hm.out] at hcell h47
        clear hr'
        by_cases h65 : 65535 < m
        · have hE2 : Hid (E = 2) := by
            show _ = _
            rw [← hE.out, if_pos ((long_iff L).2 ⟨r, List.mem_of_getElem? Hr.out, by rw [hm.out]; exact h65⟩)]
          clear HS
          go_wp2
          go_ret
          exact ⟨ret_int hE2.out.symm, rfl⟩
        · have hfin : Hid (∀ j r, j < k + 1 → L[j]? = some r → ¬ 65535 < r.length) := fun j r' hj hr' => by
            by_cases e : j = k
            · subst e
              rw [Hr.out] at hr'
              cases hr'
              rw [hm.out]; exact h65
            · exact hz.out j r' (by omega) hr'
          clear HS
          go_wp2
          go_round
          case rel => exact ⟨k + 1, by omega, by go_num, hfin⟩
          case measure => simp [intOf]; omega
      · obtain rfl : k = n := by omega
        have k1 : ¬ (k : Int) < (k : Int) := by omega
        have hno : Jl.long L ≠ true := fun e => by
          obtain ⟨r, hr', h65⟩ := (long_iff L).1 e
          obtain ⟨j, hj, rfl⟩ := List.getElem_of_mem hr'
          exact hz.out j _ (by rw [← hM.lenL]; exact hj) (List.getElem?_eq_getElem hj) h65
        have hE2 : Hid ((if rm < (Jl.packed L).length then 3 else 0) = E) := by
          show _ = _
          rw [← hE.out, if_neg hno]
        obtain ⟨z, hz2⟩ : ∃ z, Hid ((Jl.packed L).length = z) := ⟨_, rfl⟩
        rw [hz2.out] at HS hs hE2
        clear hz hno
        by_cases ht : rm < z
        · have hE3 : Hid (E = 3) := by show _ = _; rw [← hE2.out, if_pos ht]
          have t1 : (rm : Int) < (z : Int) := by omega
          go_wp2_with (go_at_call 70; refine HS.mono ?_; rintro e w1 ⟨rfl, hw⟩; obtain rfl := hw.symm)
          go_ret
          exact ⟨ret_int hE3.out.symm, rfl⟩
        · have hE3 : Hid (E = 0) := by show _ = _; rw [← hE2.out, if_neg ht]
          have t1 : ¬ (rm : Int) < (z : Int) := by omega
          go_wp2_with (go_at_call 70; refine HS.mono ?_; rintro e w1 ⟨rfl, hw⟩; obtain rfl := hw.symm)
          go_ret
          exact ⟨ret_int hE3.out.symm, rfl⟩
theorem wrote_in {S : Dsk} {x k : Nat} (f : Nat → Int) (h : x + k ≤ S.n) : S.wrote (x : Int) (64 * k) f = if S.dead then (140, S) else if S.fuse = 0 then (140, S.killed) else (0, S.burnt.put x k f) := by
  unfold Dsk.wrote
  rw [show 64 * k / 64 = k by omega, Int.toNat_natCast]
  cases S.dead
  · rw [if_neg (show ¬ (false = true) by decide), if_neg (show ¬ (64 * k % 64 ≠ 0) by omega), if_neg (show ¬ ¬ (0 ≤ (x : Int) ∧ (x : Int) + (k : Int) ≤ (S.n : Int)) by omega), if_neg (show ¬ (false = true) by decide)]
  · rfl
theorem last_wrote {S : Dsk} {x k : Nat} (f : Nat → Int) (h : x + k ≤ S.n) : Jl.last S x k f = if (S.wrote (x : Int) (64 * k) f).1 = 0 then (S.wrote (x : Int) (64 * k) f).2.syncs else S.wrote (x : Int) (64 * k) f := by
  rw [wrote_in f h]
  unfold Jl.last
  cases S.dead
  · by_cases h0 : S.fuse = 0 <;> simp [h0]
  · simp
set_option maxRecDepth 100000 in
theorem jlast_any {w : World} {g lb gm gj : Nat} {S : Dsk} (h : DiskAt w g lb gm S) (hc : w.cell? ⟨gj, 0, none⟩ = some (.pointer (some ⟨g, 0, none⟩))) (hgj : ¬ dIn g lb gm gj) (x k : Nat) (hx : x + k ≤ S.n) (A : Option Addr) (c : Nat) (f : Nat → Int) (hr : RowAt w A (64 * k) f) (hA : ∀ b o, A = some ⟨b, o, none⟩ → 0 < 64 * k → ¬ dIn g lb gm b) (hcc : 64 * k ≤ c) :
    Calls Try.prog 73 #[.pointer (some ⟨gj, 0, none⟩), .int .i64 (x : Int), .slice A (64 * k) c] w fun e w' => e = .returned (.int .i64 (Jl.last S x k f).1) ∧ DiskAt w' g lb gm (Jl.last S x k f).2 ∧ Bx (dIn g lb gm) w w' := by
  have hn := h.ok.n1
  have HW := write_any h (x : Int) (by omega) A (64 * k) c f (by omega) hr hA hcc
  rw [last_wrote f hx]
  obtain ⟨L, hL⟩ : ∃ L, Hid (64 * k = L) := ⟨_, rfl⟩
  rw [hL.out] at HW ⊢
  obtain ⟨⟨E, S1⟩, hP⟩ : ∃ P, Hid (S.wrote (x : Int) L f = P) := ⟨_, rfl⟩
  rw [hP.out] at HW ⊢
  have HC : Hid (∀ W, Bx (dIn g lb gm) w W → W.cell? ⟨gj, 0, none⟩ = some (.pointer (some ⟨g, 0, none⟩))) := fun W b => (World.cell?_of_block (w := w) (a := ⟨gj, 0, none⟩) (b.block gj (block_lt_of_cell hc) hgj)).trans hc
  have hxl : x ≤ 65536 := by omega
  clear hr hA hcc h hx
  by_cases hE : E = 0
  · subst hE
    rw [if_pos rfl]
    go_enter Try.func73, Try.ntmps73
    go_wp2_with (first
      | (go_at_call 17; refine HW.mono ?_; rintro e w1 ⟨rfl, hd1, hx1⟩; have d0 := HC.out w1 hx1)
      | (go_at_call 83; refine (sync_any hd1).mono ?_; rintro e w2 ⟨rfl, hd2, hx2⟩))
    go_ret
    exact ⟨rfl, hd2, hx1.trans hx2⟩
  · rw [if_neg hE]
    have hE' : (E != 0) = true := by simp [hE]
    clear hE
    go_enter Try.func73, Try.ntmps73
    go_wp2_with (first
      | (go_at_call 17; refine HW.mono ?_; rintro e w1 ⟨rfl, hd1, hx1⟩; have d0 := HC.out w1 hx1))
    go_ret
    exact ⟨rfl, hd1, hx1⟩
end Go.Proofs.Ytppknadflmjefaa
