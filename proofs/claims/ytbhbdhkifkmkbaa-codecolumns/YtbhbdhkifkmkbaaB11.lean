/- Texts of mine, put together. -/
import Derived.Test.YtbhbdhkifkmkbaaB10

set_option linter.unusedVariables false

/- Words cut and words added: the statement CodeColumns. -/
namespace Go.Proofs.Ytbhbdhkifkmkbaa
open Go.RowKit

set_option maxRecDepth 100000 in
set_option maxHeartbeats 1000000 in
theorem cols_great (hwk : WakeSpec) (A B : Option Addr) (n m ca cb : Nat) (R S : Nat → Option Addr) (L C M E : Nat → Nat) (Z Y : Nat → Nat → Int) (N cut : Int) (w : World) (ha : InMat w A n ca R L C Z) (hb : InMat w B m cb S M E Y)
    (hg : great3 n L = true ∨ (great3 n L = false ∧ great3 m M = true)) :
    Calls Try.prog 8 #[.slice A n ca, .slice B m cb, .int .i64 N, .int .i64 cut] w fun e w' => e = .returned (.bool true) ∧ Bw w w' := by
  have a1 := ha.le
  have a2 := ha.room
  have b1 := hb.le
  have b2 := hb.room
  have al : ∀ r, r < n → L r ≤ 140737488355328 := fun r hr => by have := ha.rows r hr; omega
  have bl : ∀ r, r < m → M r ≤ 140737488355328 := fun r hr => by have := hb.rows r hr; omega
  have AL : Hid (∀ r, r < n → L r ≤ 140737488355328) := al
  have BL : Hid (∀ r, r < m → M r ≤ 140737488355328) := bl
  clear al bl
  rcases hg with h1 | ⟨h1, h2⟩
  · go_enter Try.func8, Try.ntmps8
    go_wp2_with (first
      | (go_at_call 9; refine (great3_any A n ca R L C Z AL.out (by omega) _ ha.mat).mono ?_; rintro e w' ⟨rfl, hw'⟩; subst w'; rw [h1])
      | (go_at_call 10; refine (hwk _).mono ?_; rintro e w1 ⟨rfl, hw1⟩))
    go_ret
    exact ⟨rfl, hw1⟩
  · go_enter Try.func8, Try.ntmps8
    go_wp2_with (first
      | (go_at_call_of 9 (Value.slice A n ca); refine (great3_any A n ca R L C Z AL.out (by omega) _ ha.mat).mono ?_; rintro e w' ⟨rfl, hw'⟩; subst w'; rw [h1])
      | (go_at_call_of 9 (Value.slice B m cb); refine (great3_any B m cb S M E Y BL.out (by omega) _ hb.mat).mono ?_; rintro e w' ⟨rfl, hw'⟩; subst w'; rw [h2])
      | (go_at_call 10; refine (hwk _).mono ?_; rintro e w1 ⟨rfl, hw1⟩))
    go_ret
    exact ⟨rfl, hw1⟩

set_option maxRecDepth 100000 in
set_option maxHeartbeats 2000000 in
theorem cols_err (henc : EncSpec) (hwk : WakeSpec) (A B : Option Addr) (n m ca cb : Nat) (R S : Nat → Option Addr) (L C M E : Nat → Nat) (Z Y : Nat → Nat → Int) (N cut : Int) (w : World) (ha : InMat w A n ca R L C Z) (hb : InMat w B m cb S M E Y)
    (h1 : great3 n L = false) (h2 : great3 m M = false) (x y : Int) (k1 k2 : Nat) (hx : EncSays n L N x k1) (hy : EncSays m M N y k2)
    (hc : (x != 0) = true ∨ ((x != 0) = false ∧ (y != 0) = true) ∨ ((x != 0) = false ∧ (y != 0) = false ∧ ((n : Int) != (m : Int)) = true)) :
    Calls Try.prog 8 #[.slice A n ca, .slice B m cb, .int .i64 N, .int .i64 cut] w fun e w' => e = .returned (.bool true) ∧ Bw w w' := by
  have hn := (great3_no h1).1
  have hm := (great3_no h2).1
  have AL : Hid (∀ r, r < n → L r ≤ 140737488355328) := fun r hr => by have := (great3_no h1).2 r hr; omega
  have BL : Hid (∀ r, r < m → M r ≤ 140737488355328) := fun r hr => by have := (great3_no h2).2 r hr; omega
  rcases hc with c1 | ⟨c1, c2⟩ | ⟨c1, c2, c3⟩
  all_goals
    go_enter Try.func8, Try.ntmps8
    go_wp2_with (first
      | (go_at_call_of 9 (Value.slice A n ca); refine (great3_any A n ca R L C Z AL.out (by omega) _ ha.mat).mono ?_; rintro e w' ⟨rfl, hw'⟩; subst w'; rw [h1])
      | (go_at_call_of 9 (Value.slice B m cb); refine (great3_any B m cb S M E Y BL.out (by omega) _ hb.mat).mono ?_; rintro e w' ⟨rfl, hw'⟩; subst w'; rw [h2])
      | (go_at_call_of 14 (Value.slice A n ca); refine (henc A n ca R L C Z N _ ha.mat (by omega)).mono ?_; rintro e w1 ⟨v, x', kk, rfl, hv1, hs, hw1⟩; obtain ⟨e1, -⟩ := encsays_unique hx hs; subst e1; have hb1 := hb.mat.keep hw1; clear hs)
      | (go_at_call_of 14 (Value.slice B m cb); refine (henc B m cb S M E Y N _ hb1 (by omega)).mono ?_; rintro e w2 ⟨v2, y', kk2, rfl, hv2, hs, hw2⟩; obtain ⟨e1, -⟩ := encsays_unique hy hs; subst e1; clear hs))
    go_quiet (fail)
    go_wp2_with (go_at_call 10; refine (hwk _).mono ?_; rintro e w3 ⟨rfl, hw3⟩)
    go_ret
    exact ⟨rfl, hw1.trans (hw2.trans ((Bw.drewN _ _).trans hw3))⟩

set_option maxRecDepth 100000 in
set_option maxHeartbeats 2000000 in
theorem cols_len (A B : Option Addr) (k ca cb : Nat) (R S : Nat → Option Addr) (L C M E : Nat → Nat) (Z Y : Nat → Nat → Int) (n : Nat) (cut : Int) (w : World) (ha : InMat w A k ca R L C Z) (hb : InMat w B k cb S M E Y)
    (h1 : great3 k L = false) (h2 : great3 k M = false) (hx : EncSays k L (n : Int) 0 n) (hy : EncSays k M (n : Int) 0 n) (d1 : ((L 0 : Int) != (M 0 : Int)) = true) :
    Calls Try.prog 8 #[.slice A k ca, .slice B k cb, .int .i64 (n : Int), .int .i64 cut] w fun e w' => e = .returned (.bool true) ∧ Bw w w' := by
  have hk := (great3_no h1).1
  have AL : Hid (∀ r, r < k → L r ≤ 140737488355328) := fun r hr => by have := (great3_no h1).2 r hr; omega
  have BL : Hid (∀ r, r < k → M r ≤ 140737488355328) := fun r hr => by have := (great3_no h2).2 r hr; omega
  obtain ⟨hkn, hra, -⟩ := encsays_ok hx
  obtain ⟨n1, n2, n3⟩ := kn_ok hkn
  have c3 : ((k : Int) != (k : Int)) = false := by simp
  have k0 : (0 : Int) < (k : Int) := by omega
  obtain ⟨b1, o1, rfl, hc1⟩ := ha.mat.at (k := 0) (by omega)
  obtain ⟨b2, o2, rfl, hc2⟩ := hb.mat.at (k := 0) (by omega)
  have g1 := hc1 0 (by omega)
  have g2 := hc2 0 (by omega)
  rw [Nat.add_zero] at g1 g2
  have am := ha.mat
  have bm := hb.mat
  clear hc1 hc2 ha hb
  go_enter Try.func8, Try.ntmps8
  go_wp2_with (first
    | (go_at_call_of 9 ca; refine (great3_any _ k ca R L C Z AL.out (by omega) _ am).mono ?_; rintro e w' ⟨rfl, hw'⟩; subst w'; rw [h1])
    | (go_at_call_of 9 cb; refine (great3_any _ k cb S M E Y BL.out (by omega) _ bm).mono ?_; rintro e w' ⟨rfl, hw'⟩; subst w'; rw [h2])
    | (go_at_call_of 14 ca; refine (enc_spec _ k ca R L C Z n _ am (by omega)).mono ?_; rintro e w1 ⟨v, x', kk, rfl, hv1, hs, hw1⟩; obtain ⟨e1, -⟩ := encsays_unique hx hs; subst e1; have bm1 := bm.keep hw1; clear hs)
    | (go_at_call_of 14 cb; refine (enc_spec _ k cb S M E Y n _ bm1 (by omega)).mono ?_; rintro e w2 ⟨v2, y', kk2, rfl, hv2, hs, hw2⟩; obtain ⟨e1, -⟩ := encsays_unique hy hs; subst e1; clear hs; have g1' := cell_bw (hw1.trans hw2) g1; have g2' := cell_bw (hw1.trans hw2) g2))
  go_quiet (fail)
  go_wp2_with (go_at_call 10; refine (wakes3_any _).mono ?_; rintro e w3 ⟨rfl, hw3⟩)
  go_ret
  exact ⟨rfl, hw1.trans (hw2.trans ((Bw.drewN _ _).trans hw3))⟩

theorem row_take {w : World} {A : Option Addr} {L p : Nat} {f : Nat → Int} (h : RowAt w A L f) (hp : p ≤ L) : RowAt w A p f := by
  refine ⟨?_, h.2⟩
  rcases h.1 with h0 | ⟨b, o, e, hc⟩
  · exact Or.inl (by omega)
  · exact Or.inr ⟨b, o, e, fun i hi => hc i (by omega)⟩
/-- where the right part of a row lies -/
def cutA (R : Nat → Option Addr) (C : Nat → Nat) (p r : Nat) : Option Addr := if C r - p = 0 then R r else (R r).map (·.add p)

theorem cut_row {w : World} {R : Nat → Option Addr} {C : Nat → Nat} {p q r : Nat} {f : Nat → Int} (h : RowAt w (R r) q f) (hp : p ≤ q) (hC : q ≤ C r) : RowAt w (cutA R C p r) (q - p) (fun c => f (p + c)) := by
  refine ⟨?_, fun i => h.2 _⟩
  by_cases h0 : q - p = 0
  · exact Or.inl h0
  · obtain ⟨b, o, e, hc⟩ := h.at (k := 0) (by omega)
    refine Or.inr ⟨b, o + p, ?_, fun i hi => ?_⟩
    · unfold cutA
      rw [if_neg (by omega), e]
      show some ((⟨b, o, none⟩ : Addr).add p) = _
      rw [Addr.add_lit]
    · have := hc (p + i) (by omega)
      rw [Nat.add_assoc]
      exact this
theorem str_size (f : Nat → Int) (n : Nat) : (str f n).size = n := by unfold str; rw [strOfNums_size]; simp
theorem str_list (f : Nat → Int) (n : Nat) : (str f n).toList = (List.range n).map fun i => UInt8.ofNat (f i).toNat := by
  rw [ByteArray.toList_eq]
  show (strOfNums _).data.toList = _
  rw [strOfNums_data, List.map_map]; rfl
theorem str_cut (f g : Nat → Int) (p q : Nat) (hp : p ≤ q) (h : ∀ c, f (p + c) = g c) : (str f q).toList = (str f p ++ str g (q - p)).toList := by
  have e : (str f p ++ str g (q - p)).toList = (str f p).toList ++ (str g (q - p)).toList := by
    rw [ByteArray.toList_eq, ByteArray.toList_eq, ByteArray.toList_eq]
    simp
  rw [e, str_list, str_list, str_list]
  have e2 : q = p + (q - p) := by omega
  rw [e2, List.range_add, List.map_append, List.map_map]
  congr 1
  rw [show p + (q - p) - p = q - p by omega]
  exact List.map_congr_left fun i _ => by show UInt8.ofNat (f (p + i)).toNat = _; rw [h i]
theorem head_at {w : World} {b n : Nat} {R : Nat → Option Addr} {L C : Nat → Nat} {Z : Nat → Nat → Int} (h : MatAt w (some ⟨b, 0, none⟩) n R L C Z) {t : Nat} (ht : t < n) : w.cell? ⟨b, t, none⟩ = some (.slice (R t) (L t) (C t)) := by
  obtain ⟨b', o', e, hc⟩ := h.at ht
  cases e
  have := hc t ht
  rw [Nat.zero_add] at this
  exact this
theorem rows_upd (sR : Nat → Option Addr) (sC : Nat → Nat) (q t c6 : Nat) (A6 : Option Addr) : rowsU sR (fun _ => q) sC t ++ [Value.slice A6 q c6] = rowsU (upd sR t A6) (fun _ => q) (upd sC t c6) (t + 1) := by
  rw [rowsU_succ, upd_at, upd_at]
  congr 1
  unfold rowsU
  refine List.map_congr_left fun i hi => ?_
  have := List.mem_range.1 hi
  rw [upd_ne _ _ (by omega), upd_ne _ _ (by omega)]
theorem rows_lit2 {k q : Nat} (hq : q ≤ 131072) : RowsWrong k (fun _ => q) 0 := Or.inr (Or.inr ⟨rfl, fun _ _ => hq, fun _ _ => rfl⟩)

attribute [local go_sem] List.getElem?_cons_zero Option.getD_some

set_option maxRecDepth 100000 in
set_option linter.unusedSimpArgs false in
set_option maxHeartbeats 30000000 in
theorem cols_main (A B : Option Addr) (k ca cb : Nat) (R S : Nat → Option Addr) (L C M E : Nat → Nat) (Z Y : Nat → Nat → Int) (n : Nat) (cut : Int) (w : World) (ha : InMat w A k ca R L C Z) (hb : InMat w B k cb S M E Y)
    (h1 : great3 k L = false) (h2 : great3 k M = false) (hx : EncSays k L (n : Int) 0 n) (hy : EncSays k M (n : Int) 0 n) (hlm : L 0 = M 0) :
    Calls Try.prog 8 #[.slice A k ca, .slice B k cb, .int .i64 (n : Int), .int .i64 cut] w fun e w' => e = .returned (.bool true) ∧ Bw w w' := by
  have hk := (great3_no h1).1
  have AL : Hid (∀ r, r < k → L r ≤ 140737488355328) := fun r hr => by have := (great3_no h1).2 r hr; omega
  have BL : Hid (∀ r, r < k → M r ≤ 140737488355328) := fun r hr => by have := (great3_no h2).2 r hr; omega
  obtain ⟨hkn, hra, -⟩ := encsays_ok hx
  obtain ⟨-, hrb, -⟩ := encsays_ok hy
  obtain ⟨n1, n2, n3⟩ := kn_ok hkn
  have c3 : ((k : Int) != (k : Int)) = false := by simp
  have c4 : ((n : Int) != (n : Int)) = false := by simp
  have k0 : (0 : Int) < (k : Int) := by omega
  obtain ⟨b1, o1, rfl, hc1⟩ := ha.mat.at (k := 0) (by omega)
  obtain ⟨b2, o2, rfl, hc2⟩ := hb.mat.at (k := 0) (by omega)
  have g1 := hc1 0 (by omega)
  have g2 := hc2 0 (by omega)
  rw [Nat.add_zero] at g1 g2
  have am := ha.mat
  have bm := hb.mat
  have HLq : Hid (∀ r, r < k → L r = L 0) := (rows_ok hra).2
  have HMq : Hid (∀ r, r < k → M r = L 0) := fun r hr => by rw [hlm]; exact (rows_ok hrb).2 r hr
  have hq : L 0 ≤ 131072 := (rows_ok hra).1 0 (by omega)
  have HK : Hid (KnWrong (k : Int) (n : Int) 0) := hkn
  have HRA : Hid (RowsWrong k L 0) := hra
  have HRB : Hid (RowsWrong k M 0) := hrb
  have HCA : Hid (∀ r, r < k → L r ≤ C r ∧ (R r = none → C r = 0)) := fun r hr => ⟨(ha.rows r hr).1, (ha.rows r hr).2.2⟩
  rw [← hlm] at g2
  generalize hq0 : L 0 = q at *
  have hm0 : M 0 = q := by rw [← hlm]
  have dq : ((q : Int) != (q : Int)) = false := by simp
  obtain ⟨z, hz⟩ : ∃ z, cut.tmod ((q : Int) + 1) = z := ⟨_, rfl⟩
  have hzb := tmod_bd cut (n := q + 1) (by omega)
  rw [show ((q + 1 : Nat) : Int) = (q : Int) + 1 by omega, hz] at hzb
  obtain ⟨p, hp, hpq⟩ := tmod_nat (a := z + (q : Int) + 1) (n := q + 1) (by omega) (by omega)
  rw [show ((q + 1 : Nat) : Int) = (q : Int) + 1 by omega] at hp
  have nz : (q : Int) + 1 ≠ 0 := by omega
  clear hc1 hc2 ha hb hra hrb hlm
  go_enter Try.func8, Try.ntmps8
  go_wp2_with (first
    | (go_at_call_of 9 ca; refine (great3_any _ k ca R L C Z AL.out (by omega) _ am).mono ?_; rintro e w' ⟨rfl, hw'⟩; subst w'; rw [h1])
    | (go_at_call_of 9 cb; refine (great3_any _ k cb S M E Y BL.out (by omega) _ bm).mono ?_; rintro e w' ⟨rfl, hw'⟩; subst w'; rw [h2])
    | (go_at_call_of 14 ca; refine (enc_ok2 _ k n ca R L C Z _ am HK.out HRA.out).mono ?_; rintro e w1 ⟨bX, RX, CX, rfl, hX0, hw1⟩; rw [hq0] at hX0; have hX := hX0.mat; have bm1 := bm.keep hw1; clear hX0)
    | (go_at_call_of 14 cb; refine (enc_ok2 _ k n cb S M E Y _ bm1 HK.out HRB.out).mono ?_; rintro e w2 ⟨bU, RU, CU, rfl, hU0, hw2⟩; rw [hm0] at hU0; have hU := hU0.mat; have hX2 := hX.keep hw2; have g1' := cell_bw (hw1.trans hw2) g1; have g2' := cell_bw (hw1.trans hw2) g2; clear hU0))
  go_quiet (fail)
  go_wp2
  have hbS : Bw w2 (w2.drewN nq) := Bw.drewN _ _
  have hXS := hX2.keep hbS
  have hUS := hU.keep hbS
  generalize w2.drewN nq = wS at *
  have amS := am.keep (hw1.trans (hw2.trans hbS))
  have bmS := bm.keep (hw1.trans (hw2.trans hbS))
  clear hX hX2 hU bm1 g1' g2'
  obtain ⟨j0, hj0, hy0, hy1, hy2⟩ := info_parts info_row
  go_loopw [15, 16, 17, 18] (fun vl vr vs i wr => ∃ (t : Nat) (sR : Nat → Option Addr) (sC : Nat → Nat), t ≤ k ∧ i = .int .i64 t ∧ Tri wr wS.heap.size vl t (rowsU R (fun _ => p) C t) vr t (rowsU (cutA R C p) (fun _ => q - p) (fun r => C r - p) t) vs t (rowsU sR (fun _ => q) sC t) t sR q (fun r c => addI (Z r c) (Y r c)) ∧ Bw wS wr) (fun _ _ _ i _ => k - (intOf i).toNat)
  case atStart => exact ⟨0, fun _ => none, fun _ => 0, Nat.zero_le _, rfl, ⟨World.ownsRow_nil _ _ _ _, World.ownsRow_nil _ _ _ _, World.ownsRow_nil _ _ _ _, Or.inl rfl, Or.inl rfl, Or.inl rfl, (fun r hr => by omega), (fun r a hr => by omega)⟩, Bw.refl _⟩
  case round =>
    rename World => w3
    obtain ⟨t, sR, sC, ht, rfl, htri, hw3⟩ := hrel
    by_cases hlt : t < k
    · obtain ⟨b1', o1', e1, hc1⟩ := (amS.keep hw3).at hlt
      cases e1
      have f1 := hc1 t hlt
      rw [HLq.out t hlt] at f1
      have hct := HCA.out t hlt
      rw [HLq.out t hlt] at hct
      have t0 : (0 : Int) ≤ (t : Int) := Int.natCast_nonneg _
      have t1 : (t : Int) < (k : Int) := by omega
      have pC : (p : Int) ≤ (C t : Int) := by omega
      have pq' : (p : Int) ≤ (q : Int) := by omega
      have qC : (q : Int) ≤ (C t : Int) := by omega
      have hmx : t + 1 ≤ maxLen := by unfold maxLen; omega
      have hsz := hw3.size
      clear hc1
      obtain ⟨RT, PT, cP, hRT, hPT, hcs⟩ : ∃ (RT PT : Option Addr) (cP : Nat), R t = RT ∧ cutA R C p t = PT ∧ ((C t - p = 0 ∧ PT = RT ∧ cP = 0) ∨ (¬ C t - p = 0 ∧ ∃ ad, RT = some ad ∧ PT = some (ad.add p) ∧ cP = C t - p)) := by
        by_cases hcp : C t - p = 0
        · exact ⟨R t, _, 0, rfl, rfl, Or.inl ⟨hcp, by unfold cutA; rw [if_pos hcp], rfl⟩⟩
        · cases e : R t with
          | none => have := hct.2 e; omega
          | some ad => exact ⟨some ad, _, C t - p, rfl, rfl, Or.inr ⟨hcp, ad, rfl, by unfold cutA; rw [if_neg hcp, e]; rfl, rfl⟩⟩
      have hcP : C t - p = cP := by rcases hcs with ⟨a, _, b⟩ | ⟨_, _, _, _, b⟩ <;> omega
      have HRT : Hid (R t = RT) := hRT
      have HPT : Hid (cutA R C p t = PT) := hPT
      have HcP : Hid (C t - p = cP) := hcP
      rw [hRT] at f1
      have f4f : ∀ w', Bw wS w' → w'.cell? ⟨b1, o1 + t, none⟩ = some (.slice RT q (C t)) ∧ w'.cell? ⟨b2, o2 + t, none⟩ = some (.slice (S t) q (E t)) := fun w' hb => by
        obtain ⟨b', o', e', hc'⟩ := (amS.keep hb).at hlt
        cases e'
        obtain ⟨b'', o'', e'', hc''⟩ := (bmS.keep hb).at hlt
        cases e''
        have a1 := hc' t hlt
        have a2 := hc'' t hlt
        rw [HLq.out t hlt, hRT] at a1
        rw [HMq.out t hlt] at a2
        exact ⟨a1, a2⟩
      have F4 : Hid (∀ w', Bw wS w' → w'.cell? ⟨b1, o1 + t, none⟩ = some (.slice RT q (C t)) ∧ w'.cell? ⟨b2, o2 + t, none⟩ = some (.slice (S t) q (E t))) := f4f
      have rA : Hid (RowAt wS RT q (Z t)) := by have := amS.2 t hlt; rw [HLq.out t hlt, hRT] at this; exact this
      have rB : Hid (RowAt wS (S t) q (Y t)) := by have := bmS.2 t hlt; rw [HMq.out t hlt] at this; exact this
      clear f4f hRT hPT hcP
      rcases hcs with ⟨hcp, e2, e3⟩ | ⟨hcp, ad, e1, e2, e3⟩
      all_goals
        first | (subst e1; subst e2; subst e3) | (subst PT; subst e3)
        go_wp2_with (first
          | (at_builtin; refine wpList_append_lies _ (by rfl) (.tmp 90) (.tmp 97) _ (by rfl) wS.heap.size 37 j0 _ 1 24 Try.underlying22 hj0 hy0 hy1 hy2 rfl (by omega) _ _ _ (by rfl) (htri.o1.alloc _) ⟨w3.heap.size, 0, none⟩ 1 1 [_] (by rfl) (by rfl) (World.news_of_block (cs := #[_]) (t := 37) (fr := (0, 0)) (heap_alloc_new w3 _)) (by simp [Value.oneCell']) (by omega) hmx (by omega) (by simp; omega) (w3.heap.size + 1) (by simp) ?_; intro g4 c4 w4 hown4 hgrow4 hat4 hlt4; have hw4 : Bw wS w4 := bw_grow hgrow4 (hw3.alloc hsz _) (by simp; omega) (htri.o1.alloc _); have tri4 := (htri.app hgrow4 hat4 hown4).rot; have f4 := (F4.out w4 hw4).1; have hsz4 := hw4.size)
          | (at_builtin; refine wpList_append_lies _ (by rfl) (.tmp 99) (.tmp 106) _ (by rfl) wS.heap.size 37 j0 _ 1 24 Try.underlying22 hj0 hy0 hy1 hy2 rfl (by omega) _ _ _ (by rfl) (tri4.o1.alloc _) ⟨w4.heap.size, 0, none⟩ 1 1 [_] (by rfl) (by rfl) (World.news_of_block (cs := #[_]) (t := 37) (fr := (0, 0)) (heap_alloc_new w4 _)) (by simp [Value.oneCell']) (by omega) hmx (by omega) (by simp; omega) (w4.heap.size + 1) (by simp) ?_; intro g5 c5 w5 hown5 hgrow5 hat5 hlt5; have hw5 : Bw wS w5 := bw_grow hgrow5 (hw4.alloc hsz4 _) (by simp; omega) (tri4.o1.alloc _); have tri5 := (tri4.app hgrow5 hat5 hown5).rot; obtain ⟨f5, f6⟩ := F4.out w5 hw5; have hsz5 := hw5.size))
        have l1 := block_lt_of_cell f1
        have l1' : b1 < wS.heap.size := by obtain ⟨b', o', e', hc'⟩ := amS.at hlt; cases e'; exact block_lt_of_cell (hc' t hlt)
        have l2' : b2 < wS.heap.size := by obtain ⟨b', o', e', hc'⟩ := bmS.at hlt; cases e'; exact block_lt_of_cell (hc' t hlt)
        have rA5 := rA.out.keep hw5
        have rB5 := rB.out.keep hw5
        first | generalize hRq : some ad = RQ at f5 rA5 ⊢ | generalize hRq : RT = RQ at f5 rA5 ⊢
        have HRq : Hid (_ = RQ) := hRq
        clear hRq f4 f1
        go_region_held3 (fun w' => w'.cell? ⟨b1, o1 + t, none⟩ = some (.slice RQ q (C t)) ∧ w'.cell? ⟨b2, o2 + t, none⟩ = some (.slice (S t) q (E t)))
          (first | go_keep | (go_split_ands; exact ⟨cell_bw hw6 (by assumption), cell_bw hw6 (by assumption)⟩) | (go_split_ands; exact ⟨far_of hgrow7 (tri6.o1.alloc _) (by simp; omega) l1' (by assumption), far_of hgrow7 (tri6.o1.alloc _) (by simp; omega) l2' (by assumption)⟩))
          (first
            | (go_at_call 24; refine (plus3_any _ _ q _ _ (Z t) (Y t) (fun c => addI (Z t c) (Y t c)) hq _ (rA5.keep (Bw.refl _).drew) (rB5.keep (Bw.refl _).drew) (fun _ => rfl)).mono ?_; rintro e w6 ⟨v6, rfl, hown6, hw6⟩; obtain ⟨A6, c6, rfl, hl6, hcc6, hrow6, hA6⟩ := row_of_own (fun i => addI_bd _ _ (rA5.2 i).2 (rB5.2 i).2) hown6; have tri6 := Tri.row (W := w6) tri5 (show Bw w5 w6 from ⟨hw6.os, hw6.tape, hw6.output, hw6.size, hw6.block⟩) hrow6 hA6; have hsz6 : wS.heap.size ≤ w6.heap.size := Nat.le_trans hsz5 (show w5.heap.size ≤ w6.heap.size from hw6.size))
            | (refine step_append_lies _ (by rfl) _ _ _ (by rfl) wS.heap.size 37 j0 _ 1 24 Try.underlying22 hj0 hy0 hy1 hy2 rfl (by omega) _ _ _ (by rfl) (tri6.o1.alloc _) ⟨w6.heap.size, 0, none⟩ 1 1 [.slice A6 q c6] (by rfl) (by rfl) (World.news_of_block (cs := #[.slice A6 q c6]) (t := 37) (fr := (0, 0)) (heap_alloc_new w6 _)) (by simp [Value.oneCell']) (by omega) hmx (by omega) (by simp; omega) (w6.heap.size + 1) (by simp) ?_; intro g7 c7 w7 hown7 hgrow7 hat7 hlt7))
        have hb56 : Bw w5 w6 := ⟨hw6.os, hw6.tape, hw6.output, hw6.size, hw6.block⟩
        have hw7 : Bw wS w7 := bw_grow hgrow7 ((hw5.trans hb56).alloc hsz6 _) (by simp; omega) (tri6.o1.alloc _)
        have tri7 := (tri6.app hgrow7 hat7 hown7).rot
        have el : ∀ x, R t = x → rowsU R (fun _ => p) C t ++ [Value.slice x p (C t)] = rowsU R (fun _ => p) C (t + 1) := fun x hx => by rw [rowsU_succ, hx]
        have er : ∀ x y, cutA R C p t = x → C t - p = y → rowsU (cutA R C p) (fun _ => q - p) (fun r => C r - p) t ++ [Value.slice x (q - p) y] = rowsU (cutA R C p) (fun _ => q - p) (fun r => C r - p) (t + 1) := fun x y hx hy => by rw [rowsU_succ, hx, hy]
        rw [el _ HRT.out, rows_upd sR sC q t c6 A6] at tri7
        first | rw [er _ _ (by unfold cutA; rw [if_pos hcp, HRT.out]) hcp] at tri7 | rw [er _ _ (by unfold cutA; rw [if_neg hcp, HRT.out]; rfl) rfl] at tri7
        have HT7 : Hid _ := tri7
        clear tri7 tri6 tri5 tri4 htri el er hown4 hown5 hown7 hgrow4 hgrow5 hgrow7 hown6 F4
        go_wp2
        go_roundw
        case rel => exact ⟨t + 1, _, _, by omega, by go_num, HT7.out, hw7⟩
        case measure => simp [intOf]; omega
    · have ek : k = t := by omega
      subst ek
      have a3 := amS.keep hw3
      obtain ⟨Al, cl, rfl, hml⟩ := mat_of_own (Z := Z) htri.o1 (fun r hr => by have := a3.2 r hr; rw [HLq.out r hr] at this; exact row_take this (by omega))
      obtain ⟨Ar, cr, rfl, hmr⟩ := mat_of_own (Z := fun r c => Z r (p + c)) htri.o2 (fun r hr => by have := a3.2 r hr; rw [HLq.out r hr] at this; exact cut_row this (by omega) (by have := (HCA.out r hr).1; rw [HLq.out r hr] at this; exact this))
      obtain ⟨As, cs, rfl, hms⟩ := mat_of_own (Z := fun r c => addI (Z r c) (Y r c)) htri.o3 htri.rows
      have hXw := hXS.keep hw3
      have hUw := hUS.keep hw3
      clear htri a3 hXS hUS
      go_wp2_with (first
        | (go_at_call_of 14 cl; refine (enc_ok2 Al k n cl R _ C Z _ hml HK.out (rows_lit2 (by omega))).mono ?_; rintro e w4 ⟨bu, Ru, Cu, rfl, hu0, hw4⟩; have hu := hu0.mat; have hmr4 := hmr.keep hw4; have hms4 := hms.keep hw4; clear hu0 hml hmr hms)
        | (go_at_call_of 14 cr; refine (enc_ok2 Ar k n cr _ _ _ _ _ hmr4 HK.out (rows_lit2 (by omega))).mono ?_; rintro e w5 ⟨bv, Rv, Cv, rfl, hv0, hw5⟩; have hv := hv0.mat; have hms5 := hms4.keep hw5; clear hv0 hmr4 hms4)
        | (go_at_call_of 14 cs; refine (enc_ok2 As k n cs _ _ _ _ _ hms5 HK.out (rows_lit2 hq)).mono ?_; rintro e w6 ⟨bs, Rs, Cs, rfl, hs0, hw6⟩; have hs := hs0.mat; clear hs0 hms5))
      have hX6 := hXw.keep (hw4.trans (hw5.trans hw6))
      have hU6 := hUw.keep (hw4.trans (hw5.trans hw6))
      have hu6 := hu.keep (hw5.trans hw6)
      have hv6 := hv.keep hw6
      have pq2 : p ≤ q := by omega
      have bw6 : Bw w w6 := hw1.trans (hw2.trans (hbS.trans (hw3.trans (hw4.trans (hw5.trans hw6)))))
      clear hXw hUw hu hv
      go_loopw [25] (fun i wr => ∃ t : Nat, t ≤ n ∧ i = .int .i64 t ∧ Bw w6 wr) (fun i _ => n - (intOf i).toNat)
      case atStart => exact ⟨0, Nat.zero_le _, rfl, Bw.refl _⟩
      case round =>
        obtain ⟨t, ht', rfl, hwt⟩ := hrel
        by_cases hlt' : t < n
        · have rX : Hid (RowAt w6 (RX t) q (wordI k Z t)) := hX6.2 t hlt'
          have rU : Hid (RowAt w6 (RU t) q (wordI k Y t)) := hU6.2 t hlt'
          have ru : Hid (RowAt w6 (Ru t) p (wordI k Z t)) := hu6.2 t hlt'
          have rv : Hid (RowAt w6 (Rv t) (q - p) (wordI k (fun r c => Z r (p + c)) t)) := hv6.2 t hlt'
          have rs : Hid (RowAt w6 (Rs t) q (wordI k (fun r c => addI (Z r c) (Y r c)) t)) := hs.2 t hlt'
          have HCOL : Hid (∀ w', Bw w6 w' → (Bw w6 w' ∧ w'.cell? ⟨bX, t, none⟩ = some (.slice (RX t) q (CX t)) ∧ w'.cell? ⟨bU, t, none⟩ = some (.slice (RU t) q (CU t)) ∧ w'.cell? ⟨bu, t, none⟩ = some (.slice (Ru t) p (Cu t)) ∧ w'.cell? ⟨bv, t, none⟩ = some (.slice (Rv t) (q - p) (Cv t)) ∧ w'.cell? ⟨bs, t, none⟩ = some (.slice (Rs t) q (Cs t)) ∧
              (convert 37 9 (.slice (RX t) q (CX t))).run Try.prog w' = .ok (.string (str (wordI k Z t) q)) w' ∧ (convert 37 9 (.slice (Ru t) p (Cu t))).run Try.prog w' = .ok (.string (str (wordI k Z t) p)) w' ∧ (convert 37 9 (.slice (Rv t) (q - p) (Cv t))).run Try.prog w' = .ok (.string (str (wordI k (fun r c => Z r (p + c)) t) (q - p))) w' ∧ (convert 37 9 (.slice (Rs t) q (Cs t))).run Try.prog w' = .ok (.string (str (wordI k (fun r c => addI (Z r c) (Y r c)) t) q)) w')) := fun w' hb => by
            refine ⟨hb, head_at (hX6.keep hb) hlt', head_at (hU6.keep hb) hlt', head_at (hu6.keep hb) hlt', head_at (hv6.keep hb) hlt', head_at (hs.keep (hb)) hlt', conv_row (rX.out.keep hb), conv_row (ru.out.keep hb), conv_row (rv.out.keep hb), conv_row (rs.out.keep hb)⟩
          have t0' : (0 : Int) ≤ (t : Int) := Int.natCast_nonneg _
          have t1' : (t : Int) < (n : Int) := by omega
          have hdrew : Bw w6 wr.drew := hwt.drew
          have sza : (str (wordI k Z t) p).size = p := str_size _ _
          have szb : (str (wordI k (fun r c => Z r (p + c)) t) (q - p)).size = q - p := str_size _ _
          have hcat : ¬ 9223372036854775807 < (str (wordI k Z t) p).size + (str (wordI k (fun r c => Z r (p + c)) t) (q - p)).size := by rw [sza, szb]; omega
          clear sza szb
          have he1 : ((str (wordI k Z t) q).toList == (str (wordI k Z t) p ++ str (wordI k (fun r c => Z r (p + c)) t) (q - p)).toList) = true := by
            have := str_cut (wordI k Z t) (wordI k (fun r c => Z r (p + c)) t) p q pq2 (fun c => (word_congr (fun j _ => rfl)))
            simpa using this
          have he3 : ((str (wordI k (fun r c => addI (Z r c) (Y r c)) t) q).toList == (str (fun c => addI (wordI k Z t c) (wordI k Y t c)) q).toList) = true := by
            have := (str_inj (f := wordI k (fun r c => addI (Z r c) (Y r c)) t) (g := fun c => addI (wordI k Z t c) (wordI k Y t c)) (L := q) (M := q) (fun c => wordI_bd _ _ _ _) (fun i => addI_bd _ _ (wordI_bd k Z t i).2 (wordI_bd k Y t i).2)).2 ⟨rfl, fun c _ => word_sum (fun j hj => (am.2 j hj).2 c) (fun j hj => (bm.2 j hj).2 c)⟩
            simpa using this
          go_wp2
          try clear g1
          try clear g2
          try clear am
          try clear bm
          try clear amS
          try clear bmS
          try clear HLq
          try clear HMq
          try clear HK
          try clear HRA
          try clear HRB
          try clear HCA
          try clear hx
          try clear hy
          try clear h1
          try clear h2
          try clear AL
          try clear BL
          try clear hkn
          try clear hm0
          try clear hz
          try clear hzb
          try clear hp
          try clear hpq
          try clear nz
          try clear hX6
          try clear hU6
          try clear hu6
          try clear hv6
          try clear hs
          try clear bw6
          try clear hw1
          try clear hw2
          try clear hbS
          try clear hw3
          try clear hw4
          try clear hw5
          try clear hw6
          try clear hq0
          try clear ru
          try clear rv
          try clear rs
          try clear n1
          try clear n2
          try clear k0
          try clear c3
          try clear hk
          try clear j0
          try clear hj0
          try clear hy0
          try clear hy1
          try clear hy2
          try clear hwt
          try clear ht
          try clear ht'
          try clear pq2
          try clear hlt
          refine wp_region_held_drew (S := (fun w' => Bw w6 w' ∧ w'.cell? ⟨bX, t, none⟩ = some (.slice (RX t) q (CX t)) ∧ w'.cell? ⟨bU, t, none⟩ = some (.slice (RU t) q (CU t)) ∧ w'.cell? ⟨bu, t, none⟩ = some (.slice (Ru t) p (Cu t)) ∧ w'.cell? ⟨bv, t, none⟩ = some (.slice (Rv t) (q - p) (Cv t)) ∧ w'.cell? ⟨bs, t, none⟩ = some (.slice (Rs t) q (Cs t)) ∧
              (convert 37 9 (.slice (RX t) q (CX t))).run Try.prog w' = .ok (.string (str (wordI k Z t) q)) w' ∧ (convert 37 9 (.slice (Ru t) p (Cu t))).run Try.prog w' = .ok (.string (str (wordI k Z t) p)) w' ∧ (convert 37 9 (.slice (Rv t) (q - p) (Cv t))).run Try.prog w' = .ok (.string (str (wordI k (fun r c => Z r (p + c)) t) (q - p))) w' ∧ (convert 37 9 (.slice (Rs t) q (Cs t))).run Try.prog w' = .ok (.string (str (wordI k (fun r c => addI (Z r c) (Y r c)) t) q)) w')) (by kernel_rfl) (HCOL.out _ hdrew) (fun hHeld => ?_)
          refine wpAnyH_take (i := 0) (oi := { dst := some 183, op := Op.move (Operand.tmp 9), type := 22, pos := "outright.go:146", after := #[], guard := none }) (v := ?_) rfl (by kernel_rfl) (by kernel_rfl) (by kernel_rfl) (fun _ _ _ h => h) (Or.inl ⟨by rfl, ?_⟩) (by assumption) ?_
          rotate_left
          · intro w hSw; (try dsimp only at hSw); go_simp; all_goals (with_reducible rfl)
          try simp only [Act.put, List.setIfInBounds_toArray, List.set_cons_zero, List.set_cons_succ]
          refine wpAnyH_take (i := 1) (oi := { dst := some 184, op := Op.move (Operand.tmp 25), type := 3, pos := "outright.go:146", after := #[], guard := none }) (v := ?_) rfl (by kernel_rfl) (by kernel_rfl) (by kernel_rfl) (fun _ _ _ h => h) (Or.inl ⟨by rfl, ?_⟩) (by assumption) ?_
          rotate_left
          · intro w hSw; (try dsimp only at hSw); go_simp; all_goals (with_reducible rfl)
          try simp only [Act.put, List.setIfInBounds_toArray, List.set_cons_zero, List.set_cons_succ]
          refine wpAnyH_take (i := 2) (oi := { dst := some 185, op := Op.indexAddr 22 (Operand.tmp 183) (Operand.tmp 184), type := 0, pos := "outright.go:146", after := #[{ on := 0, ground := Ground.data }, { on := 1, ground := Ground.data }], guard := none }) (v := ?_) rfl (by kernel_rfl) (by kernel_rfl) (by kernel_rfl) (fun _ _ _ h => h) (Or.inl ⟨by rfl, ?_⟩) (by assumption) ?_
          rotate_left
          · intro w hSw; (try dsimp only at hSw); go_simp; all_goals (with_reducible rfl)
          try simp only [Act.put, List.setIfInBounds_toArray, List.set_cons_zero, List.set_cons_succ]
          refine wpAnyH_take (i := 3) (oi := { dst := some 186, op := Op.load 37 (Operand.tmp 185), type := 37, pos := "outright.go:146", after := #[{ on := 2, ground := Ground.data }], guard := none }) (v := ?_) rfl (by kernel_rfl) (by kernel_rfl) (by kernel_rfl) (fun _ _ _ h => h) (Or.inl ⟨by rfl, ?_⟩) (by assumption) ?_
          rotate_left
          · intro w hSw; (try dsimp only at hSw); go_simp; all_goals (with_reducible rfl)
          try simp only [Act.put, List.setIfInBounds_toArray, List.set_cons_zero, List.set_cons_succ]
          refine wpAnyH_take (i := 4) (oi := { dst := some 187, op := Op.convert 37 9 (Operand.tmp 186), type := 9, pos := "outright.go:146", after := #[{ on := 3, ground := Ground.data }], guard := none }) (v := ?_) rfl (by kernel_rfl) (by kernel_rfl) (by kernel_rfl) (fun _ _ _ h => h) (Or.inl ⟨by rfl, ?_⟩) (by assumption) ?_
          rotate_left
          · intro w hSw; (try dsimp only at hSw); go_simp; all_goals (with_reducible rfl)
          try simp only [Act.put, List.setIfInBounds_toArray, List.set_cons_zero, List.set_cons_succ]
          refine wpAnyH_take (i := 5) (oi := { dst := some 188, op := Op.move (Operand.tmp 19), type := 22, pos := "outright.go:146", after := #[], guard := none }) (v := ?_) rfl (by kernel_rfl) (by kernel_rfl) (by kernel_rfl) (fun _ _ _ h => h) (Or.inl ⟨by rfl, ?_⟩) (by assumption) ?_
          rotate_left
          · intro w hSw; (try dsimp only at hSw); go_simp; all_goals (with_reducible rfl)
          try simp only [Act.put, List.setIfInBounds_toArray, List.set_cons_zero, List.set_cons_succ]
          refine wpAnyH_take (i := 6) (oi := { dst := some 189, op := Op.move (Operand.tmp 25), type := 3, pos := "outright.go:146", after := #[], guard := none }) (v := ?_) rfl (by kernel_rfl) (by kernel_rfl) (by kernel_rfl) (fun _ _ _ h => h) (Or.inl ⟨by rfl, ?_⟩) (by assumption) ?_
          rotate_left
          · intro w hSw; (try dsimp only at hSw); go_simp; all_goals (with_reducible rfl)
          try simp only [Act.put, List.setIfInBounds_toArray, List.set_cons_zero, List.set_cons_succ]
          refine wpAnyH_take (i := 7) (oi := { dst := some 190, op := Op.indexAddr 22 (Operand.tmp 188) (Operand.tmp 189), type := 0, pos := "outright.go:146", after := #[{ on := 5, ground := Ground.data }, { on := 6, ground := Ground.data }], guard := none }) (v := ?_) rfl (by kernel_rfl) (by kernel_rfl) (by kernel_rfl) (fun _ _ _ h => h) (Or.inl ⟨by rfl, ?_⟩) (by assumption) ?_
          rotate_left
          · intro w hSw; (try dsimp only at hSw); go_simp; all_goals (with_reducible rfl)
          try simp only [Act.put, List.setIfInBounds_toArray, List.set_cons_zero, List.set_cons_succ]
          refine wpAnyH_take (i := 8) (oi := { dst := some 191, op := Op.load 37 (Operand.tmp 190), type := 37, pos := "outright.go:146", after := #[{ on := 7, ground := Ground.data }], guard := none }) (v := ?_) rfl (by kernel_rfl) (by kernel_rfl) (by kernel_rfl) (fun _ _ _ h => h) (Or.inl ⟨by rfl, ?_⟩) (by assumption) ?_
          rotate_left
          · intro w hSw; (try dsimp only at hSw); go_simp; all_goals (with_reducible rfl)
          try simp only [Act.put, List.setIfInBounds_toArray, List.set_cons_zero, List.set_cons_succ]
          refine wpAnyH_take (i := 9) (oi := { dst := some 192, op := Op.convert 37 9 (Operand.tmp 191), type := 9, pos := "outright.go:146", after := #[{ on := 8, ground := Ground.data }], guard := none }) (v := ?_) rfl (by kernel_rfl) (by kernel_rfl) (by kernel_rfl) (fun _ _ _ h => h) (Or.inl ⟨by rfl, ?_⟩) (by assumption) ?_
          rotate_left
          · intro w hSw; (try dsimp only at hSw); go_simp; all_goals (with_reducible rfl)
          try simp only [Act.put, List.setIfInBounds_toArray, List.set_cons_zero, List.set_cons_succ]
          refine wpAnyH_take (i := 10) (oi := { dst := some 193, op := Op.move (Operand.tmp 21), type := 22, pos := "outright.go:146", after := #[], guard := none }) (v := ?_) rfl (by kernel_rfl) (by kernel_rfl) (by kernel_rfl) (fun _ _ _ h => h) (Or.inl ⟨by rfl, ?_⟩) (by assumption) ?_
          rotate_left
          · intro w hSw; (try dsimp only at hSw); go_simp; all_goals (with_reducible rfl)
          try simp only [Act.put, List.setIfInBounds_toArray, List.set_cons_zero, List.set_cons_succ]
          refine wpAnyH_take (i := 11) (oi := { dst := some 194, op := Op.move (Operand.tmp 25), type := 3, pos := "outright.go:146", after := #[], guard := none }) (v := ?_) rfl (by kernel_rfl) (by kernel_rfl) (by kernel_rfl) (fun _ _ _ h => h) (Or.inl ⟨by rfl, ?_⟩) (by assumption) ?_
          rotate_left
          · intro w hSw; (try dsimp only at hSw); go_simp; all_goals (with_reducible rfl)
          try simp only [Act.put, List.setIfInBounds_toArray, List.set_cons_zero, List.set_cons_succ]
          refine wpAnyH_take (i := 12) (oi := { dst := some 195, op := Op.indexAddr 22 (Operand.tmp 193) (Operand.tmp 194), type := 0, pos := "outright.go:146", after := #[{ on := 10, ground := Ground.data }, { on := 11, ground := Ground.data }], guard := none }) (v := ?_) rfl (by kernel_rfl) (by kernel_rfl) (by kernel_rfl) (fun _ _ _ h => h) (Or.inl ⟨by rfl, ?_⟩) (by assumption) ?_
          rotate_left
          · intro w hSw; (try dsimp only at hSw); go_simp; all_goals (with_reducible rfl)
          try simp only [Act.put, List.setIfInBounds_toArray, List.set_cons_zero, List.set_cons_succ]
          refine wpAnyH_take (i := 13) (oi := { dst := some 196, op := Op.load 37 (Operand.tmp 195), type := 37, pos := "outright.go:146", after := #[{ on := 12, ground := Ground.data }], guard := none }) (v := ?_) rfl (by kernel_rfl) (by kernel_rfl) (by kernel_rfl) (fun _ _ _ h => h) (Or.inl ⟨by rfl, ?_⟩) (by assumption) ?_
          rotate_left
          · intro w hSw; (try dsimp only at hSw); go_simp; all_goals (with_reducible rfl)
          try simp only [Act.put, List.setIfInBounds_toArray, List.set_cons_zero, List.set_cons_succ]
          refine wpAnyH_take (i := 14) (oi := { dst := some 197, op := Op.convert 37 9 (Operand.tmp 196), type := 9, pos := "outright.go:146", after := #[{ on := 13, ground := Ground.data }], guard := none }) (v := ?_) rfl (by kernel_rfl) (by kernel_rfl) (by kernel_rfl) (fun _ _ _ h => h) (Or.inl ⟨by rfl, ?_⟩) (by assumption) ?_
          rotate_left
          · intro w hSw; (try dsimp only at hSw); go_simp; all_goals (with_reducible rfl)
          try simp only [Act.put, List.setIfInBounds_toArray, List.set_cons_zero, List.set_cons_succ]
          refine wpAnyH_take (i := 15) (oi := { dst := some 198, op := Op.binOp BinOp.add 9 (Operand.tmp 192) (Operand.tmp 197) 9, type := 9, pos := "outright.go:146", after := #[{ on := 9, ground := Ground.data }, { on := 14, ground := Ground.data }], guard := none }) (v := ?_) rfl (by kernel_rfl) (by kernel_rfl) (by kernel_rfl) (fun _ _ _ h => h) (Or.inl ⟨by rfl, ?_⟩) (by assumption) ?_
          rotate_left
          · intro w hSw; (try dsimp only at hSw); go_simp; all_goals (with_reducible rfl)
          try simp only [Act.put, List.setIfInBounds_toArray, List.set_cons_zero, List.set_cons_succ]
          refine wpAnyH_take (i := 16) (oi := { dst := some 199, op := Op.binOp BinOp.neq 9 (Operand.tmp 187) (Operand.tmp 198) 9, type := 4, pos := "outright.go:146", after := #[{ on := 4, ground := Ground.data }, { on := 15, ground := Ground.data }], guard := none }) (v := ?_) rfl (by kernel_rfl) (by kernel_rfl) (by kernel_rfl) (fun _ _ _ h => h) (Or.inl ⟨by rfl, ?_⟩) (by assumption) ?_
          rotate_left
          · intro w hSw; (try dsimp only at hSw); go_simp; all_goals (with_reducible rfl)
          try simp only [Act.put, List.setIfInBounds_toArray, List.set_cons_zero, List.set_cons_succ]
          refine wpAnyH_take (i := 17) (oi := { dst := some 200, op := Op.move (Operand.tmp 199), type := 4, pos := "outright.go:146", after := #[{ on := 16, ground := Ground.data }], guard := none }) (v := ?_) rfl (by kernel_rfl) (by kernel_rfl) (by kernel_rfl) (fun _ _ _ h => h) (Or.inl ⟨by rfl, ?_⟩) (by assumption) ?_
          rotate_left
          · intro w hSw; (try dsimp only at hSw); go_simp; all_goals (with_reducible rfl)
          try simp only [Act.put, List.setIfInBounds_toArray, List.set_cons_zero, List.set_cons_succ]
          refine wpAnyH_take (i := 18) (oi := { dst := some 201, op := Op.move (Operand.tmp 11), type := 22, pos := "outright.go:146", after := #[{ on := 17, ground := Ground.guard }], guard := some (17, false) }) (v := ?_) rfl (by kernel_rfl) (by kernel_rfl) (by kernel_rfl) (fun _ _ _ h => h) (Or.inl ⟨by rfl, ?_⟩) (by assumption) ?_
          rotate_left
          · intro w hSw; (try dsimp only at hSw); go_simp; all_goals (with_reducible rfl)
          try simp only [Act.put, List.setIfInBounds_toArray, List.set_cons_zero, List.set_cons_succ]
          refine wpAnyH_take (i := 19) (oi := { dst := some 202, op := Op.move (Operand.tmp 25), type := 3, pos := "outright.go:146", after := #[{ on := 17, ground := Ground.guard }], guard := some (17, false) }) (v := ?_) rfl (by kernel_rfl) (by kernel_rfl) (by kernel_rfl) (fun _ _ _ h => h) (Or.inl ⟨by rfl, ?_⟩) (by assumption) ?_
          rotate_left
          · intro w hSw; (try dsimp only at hSw); go_simp; all_goals (with_reducible rfl)
          try simp only [Act.put, List.setIfInBounds_toArray, List.set_cons_zero, List.set_cons_succ]
          refine wpAnyH_take (i := 20) (oi := { dst := some 203, op := Op.indexAddr 22 (Operand.tmp 201) (Operand.tmp 202), type := 0, pos := "outright.go:146", after := #[{ on := 18, ground := Ground.data }, { on := 19, ground := Ground.data }, { on := 17, ground := Ground.guard }], guard := some (17, false) }) (v := ?_) rfl (by kernel_rfl) (by kernel_rfl) (by kernel_rfl) (fun _ _ _ h => h) (Or.inl ⟨by rfl, ?_⟩) (by assumption) ?_
          rotate_left
          · intro w hSw; (try dsimp only at hSw); go_simp; all_goals (with_reducible rfl)
          try simp only [Act.put, List.setIfInBounds_toArray, List.set_cons_zero, List.set_cons_succ]
          refine wpAnyH_take (i := 21) (oi := { dst := some 204, op := Op.load 37 (Operand.tmp 203), type := 37, pos := "outright.go:146", after := #[{ on := 20, ground := Ground.data }, { on := 17, ground := Ground.guard }], guard := some (17, false) }) (v := ?_) rfl (by kernel_rfl) (by kernel_rfl) (by kernel_rfl) (fun _ _ _ h => h) (Or.inl ⟨by rfl, ?_⟩) (by assumption) ?_
          rotate_left
          · intro w hSw; (try dsimp only at hSw); go_simp; all_goals (with_reducible rfl)
          try simp only [Act.put, List.setIfInBounds_toArray, List.set_cons_zero, List.set_cons_succ]
          refine wpAnyH_take (i := 22) (oi := { dst := some 205, op := Op.call { callee := Callee.builtin Builtin.len, args := #[Operand.tmp 204], argTypes := #[37] }, type := 3, pos := "outright.go:146", after := #[{ on := 21, ground := Ground.data }, { on := 17, ground := Ground.guard }], guard := some (17, false) }) (v := ?_) rfl (by kernel_rfl) (by kernel_rfl) (by kernel_rfl) (fun _ _ _ h => h) (Or.inl ⟨by rfl, ?_⟩) (by assumption) ?_
          rotate_left
          · intro w hSw; (try dsimp only at hSw); go_simp; all_goals (with_reducible rfl)
          try simp only [Act.put, List.setIfInBounds_toArray, List.set_cons_zero, List.set_cons_succ]
          refine wpAnyH_take (i := 23) (oi := { dst := some 206, op := Op.move (Operand.tmp 9), type := 22, pos := "outright.go:146", after := #[{ on := 17, ground := Ground.guard }], guard := some (17, false) }) (v := ?_) rfl (by kernel_rfl) (by kernel_rfl) (by kernel_rfl) (fun _ _ _ h => h) (Or.inl ⟨by rfl, ?_⟩) (by assumption) ?_
          rotate_left
          · intro w hSw; (try dsimp only at hSw); go_simp; all_goals (with_reducible rfl)
          try simp only [Act.put, List.setIfInBounds_toArray, List.set_cons_zero, List.set_cons_succ]
          refine wpAnyH_take (i := 24) (oi := { dst := some 207, op := Op.move (Operand.tmp 25), type := 3, pos := "outright.go:146", after := #[{ on := 17, ground := Ground.guard }], guard := some (17, false) }) (v := ?_) rfl (by kernel_rfl) (by kernel_rfl) (by kernel_rfl) (fun _ _ _ h => h) (Or.inl ⟨by rfl, ?_⟩) (by assumption) ?_
          rotate_left
          · intro w hSw; (try dsimp only at hSw); go_simp; all_goals (with_reducible rfl)
          try simp only [Act.put, List.setIfInBounds_toArray, List.set_cons_zero, List.set_cons_succ]
          refine wpAnyH_take (i := 25) (oi := { dst := some 208, op := Op.indexAddr 22 (Operand.tmp 206) (Operand.tmp 207), type := 0, pos := "outright.go:146", after := #[{ on := 23, ground := Ground.data }, { on := 24, ground := Ground.data }, { on := 17, ground := Ground.guard }], guard := some (17, false) }) (v := ?_) rfl (by kernel_rfl) (by kernel_rfl) (by kernel_rfl) (fun _ _ _ h => h) (Or.inl ⟨by rfl, ?_⟩) (by assumption) ?_
          rotate_left
          · intro w hSw; (try dsimp only at hSw); go_simp; all_goals (with_reducible rfl)
          try simp only [Act.put, List.setIfInBounds_toArray, List.set_cons_zero, List.set_cons_succ]
          refine wpAnyH_take (i := 26) (oi := { dst := some 209, op := Op.load 37 (Operand.tmp 208), type := 37, pos := "outright.go:146", after := #[{ on := 25, ground := Ground.data }, { on := 17, ground := Ground.guard }], guard := some (17, false) }) (v := ?_) rfl (by kernel_rfl) (by kernel_rfl) (by kernel_rfl) (fun _ _ _ h => h) (Or.inl ⟨by rfl, ?_⟩) (by assumption) ?_
          rotate_left
          · intro w hSw; (try dsimp only at hSw); go_simp; all_goals (with_reducible rfl)
          try simp only [Act.put, List.setIfInBounds_toArray, List.set_cons_zero, List.set_cons_succ]
          refine wpAnyH_take (i := 27) (oi := { dst := some 210, op := Op.call { callee := Callee.builtin Builtin.len, args := #[Operand.tmp 209], argTypes := #[37] }, type := 3, pos := "outright.go:146", after := #[{ on := 26, ground := Ground.data }, { on := 17, ground := Ground.guard }], guard := some (17, false) }) (v := ?_) rfl (by kernel_rfl) (by kernel_rfl) (by kernel_rfl) (fun _ _ _ h => h) (Or.inl ⟨by rfl, ?_⟩) (by assumption) ?_
          rotate_left
          · intro w hSw; (try dsimp only at hSw); go_simp; all_goals (with_reducible rfl)
          try simp only [Act.put, List.setIfInBounds_toArray, List.set_cons_zero, List.set_cons_succ]
          refine wpAnyH_take (i := 28) (oi := { dst := some 211, op := Op.binOp BinOp.neq 3 (Operand.tmp 205) (Operand.tmp 210) 3, type := 4, pos := "outright.go:146", after := #[{ on := 22, ground := Ground.data }, { on := 27, ground := Ground.data }, { on := 17, ground := Ground.guard }], guard := some (17, false) }) (v := ?_) rfl (by kernel_rfl) (by kernel_rfl) (by kernel_rfl) (fun _ _ _ h => h) (Or.inl ⟨by rfl, ?_⟩) (by assumption) ?_
          rotate_left
          · intro w hSw; (try dsimp only at hSw); go_simp; all_goals (with_reducible rfl)
          try simp only [Act.put, List.setIfInBounds_toArray, List.set_cons_zero, List.set_cons_succ]
          refine wpAnyH_take (i := 29) (oi := { dst := some 212, op := Op.pick (Operand.tmp 200) (Operand.const (Value.bool true)) (Operand.tmp 211), type := 4, pos := "outright.go:146", after := #[{ on := 17, ground := Ground.data }, { on := 28, ground := Ground.data }], guard := none }) (v := ?_) rfl (by kernel_rfl) (by kernel_rfl) (by kernel_rfl) (fun _ _ _ h => h) (Or.inl ⟨by rfl, ?_⟩) (by assumption) ?_
          rotate_left
          · intro w hSw; (try dsimp only at hSw); go_simp; all_goals (with_reducible rfl)
          try simp only [Act.put, List.setIfInBounds_toArray, List.set_cons_zero, List.set_cons_succ]
          refine wpAnyH_take (i := 30) (oi := { dst := some 213, op := Op.move (Operand.tmp 212), type := 4, pos := "outright.go:146", after := #[{ on := 29, ground := Ground.data }, { on := 17, ground := Ground.chain }], guard := none }) (v := ?_) rfl (by kernel_rfl) (by kernel_rfl) (by kernel_rfl) (fun _ _ _ h => h) (Or.inl ⟨by rfl, ?_⟩) (by assumption) ?_
          rotate_left
          · intro w hSw; (try dsimp only at hSw); go_simp; all_goals (with_reducible rfl)
          try simp only [Act.put, List.setIfInBounds_toArray, List.set_cons_zero, List.set_cons_succ]
          refine wpAnyH_take (i := 31) (oi := { dst := some 214, op := Op.move (Operand.tmp 23), type := 22, pos := "outright.go:146", after := #[{ on := 30, ground := Ground.guard }], guard := some (30, false) }) (v := ?_) rfl (by kernel_rfl) (by kernel_rfl) (by kernel_rfl) (fun _ _ _ h => h) (Or.inl ⟨by rfl, ?_⟩) (by assumption) ?_
          rotate_left
          · intro w hSw; (try dsimp only at hSw); go_simp; all_goals (with_reducible rfl)
          try simp only [Act.put, List.setIfInBounds_toArray, List.set_cons_zero, List.set_cons_succ]
          refine wpAnyH_take (i := 32) (oi := { dst := some 215, op := Op.move (Operand.tmp 25), type := 3, pos := "outright.go:146", after := #[{ on := 30, ground := Ground.guard }], guard := some (30, false) }) (v := ?_) rfl (by kernel_rfl) (by kernel_rfl) (by kernel_rfl) (fun _ _ _ h => h) (Or.inl ⟨by rfl, ?_⟩) (by assumption) ?_
          rotate_left
          · intro w hSw; (try dsimp only at hSw); go_simp; all_goals (with_reducible rfl)
          try simp only [Act.put, List.setIfInBounds_toArray, List.set_cons_zero, List.set_cons_succ]
          refine wpAnyH_take (i := 33) (oi := { dst := some 216, op := Op.indexAddr 22 (Operand.tmp 214) (Operand.tmp 215), type := 0, pos := "outright.go:146", after := #[{ on := 31, ground := Ground.data }, { on := 32, ground := Ground.data }, { on := 30, ground := Ground.guard }], guard := some (30, false) }) (v := ?_) rfl (by kernel_rfl) (by kernel_rfl) (by kernel_rfl) (fun _ _ _ h => h) (Or.inl ⟨by rfl, ?_⟩) (by assumption) ?_
          rotate_left
          · intro w hSw; (try dsimp only at hSw); go_simp; all_goals (with_reducible rfl)
          try simp only [Act.put, List.setIfInBounds_toArray, List.set_cons_zero, List.set_cons_succ]
          refine wpAnyH_take (i := 34) (oi := { dst := some 217, op := Op.load 37 (Operand.tmp 216), type := 37, pos := "outright.go:146", after := #[{ on := 33, ground := Ground.data }, { on := 30, ground := Ground.guard }], guard := some (30, false) }) (v := ?_) rfl (by kernel_rfl) (by kernel_rfl) (by kernel_rfl) (fun _ _ _ h => h) (Or.inl ⟨by rfl, ?_⟩) (by assumption) ?_
          rotate_left
          · intro w hSw; (try dsimp only at hSw); go_simp; all_goals (with_reducible rfl)
          try simp only [Act.put, List.setIfInBounds_toArray, List.set_cons_zero, List.set_cons_succ]
          refine wpAnyH_take (i := 35) (oi := { dst := some 218, op := Op.convert 37 9 (Operand.tmp 217), type := 9, pos := "outright.go:146", after := #[{ on := 34, ground := Ground.data }, { on := 30, ground := Ground.guard }], guard := some (30, false) }) (v := ?_) rfl (by kernel_rfl) (by kernel_rfl) (by kernel_rfl) (fun _ _ _ h => h) (Or.inl ⟨by rfl, ?_⟩) (by assumption) ?_
          rotate_left
          · intro w hSw; (try dsimp only at hSw); go_simp; all_goals (with_reducible rfl)
          try simp only [Act.put, List.setIfInBounds_toArray, List.set_cons_zero, List.set_cons_succ]
          refine wpAnyH_take (i := 36) (oi := { dst := some 219, op := Op.move (Operand.tmp 9), type := 22, pos := "outright.go:146", after := #[{ on := 30, ground := Ground.guard }], guard := some (30, false) }) (v := ?_) rfl (by kernel_rfl) (by kernel_rfl) (by kernel_rfl) (fun _ _ _ h => h) (Or.inl ⟨by rfl, ?_⟩) (by assumption) ?_
          rotate_left
          · intro w hSw; (try dsimp only at hSw); go_simp; all_goals (with_reducible rfl)
          try simp only [Act.put, List.setIfInBounds_toArray, List.set_cons_zero, List.set_cons_succ]
          refine wpAnyH_take (i := 37) (oi := { dst := some 220, op := Op.move (Operand.tmp 25), type := 3, pos := "outright.go:146", after := #[{ on := 30, ground := Ground.guard }], guard := some (30, false) }) (v := ?_) rfl (by kernel_rfl) (by kernel_rfl) (by kernel_rfl) (fun _ _ _ h => h) (Or.inl ⟨by rfl, ?_⟩) (by assumption) ?_
          rotate_left
          · intro w hSw; (try dsimp only at hSw); go_simp; all_goals (with_reducible rfl)
          try simp only [Act.put, List.setIfInBounds_toArray, List.set_cons_zero, List.set_cons_succ]
          refine wpAnyH_take (i := 38) (oi := { dst := some 221, op := Op.indexAddr 22 (Operand.tmp 219) (Operand.tmp 220), type := 0, pos := "outright.go:146", after := #[{ on := 36, ground := Ground.data }, { on := 37, ground := Ground.data }, { on := 30, ground := Ground.guard }], guard := some (30, false) }) (v := ?_) rfl (by kernel_rfl) (by kernel_rfl) (by kernel_rfl) (fun _ _ _ h => h) (Or.inl ⟨by rfl, ?_⟩) (by assumption) ?_
          rotate_left
          · intro w hSw; (try dsimp only at hSw); go_simp; all_goals (with_reducible rfl)
          try simp only [Act.put, List.setIfInBounds_toArray, List.set_cons_zero, List.set_cons_succ]
          refine wpAnyH_take (i := 39) (oi := { dst := some 222, op := Op.load 37 (Operand.tmp 221), type := 37, pos := "outright.go:146", after := #[{ on := 38, ground := Ground.data }, { on := 30, ground := Ground.guard }], guard := some (30, false) }) (v := ?_) rfl (by kernel_rfl) (by kernel_rfl) (by kernel_rfl) (fun _ _ _ h => h) (Or.inl ⟨by rfl, ?_⟩) (by assumption) ?_
          rotate_left
          · intro w hSw; (try dsimp only at hSw); go_simp; all_goals (with_reducible rfl)
          try simp only [Act.put, List.setIfInBounds_toArray, List.set_cons_zero, List.set_cons_succ]
          refine wpAnyH_take (i := 40) (oi := { dst := some 223, op := Op.move (Operand.tmp 11), type := 22, pos := "outright.go:146", after := #[{ on := 30, ground := Ground.guard }], guard := some (30, false) }) (v := ?_) rfl (by kernel_rfl) (by kernel_rfl) (by kernel_rfl) (fun _ _ _ h => h) (Or.inl ⟨by rfl, ?_⟩) (by assumption) ?_
          rotate_left
          · intro w hSw; (try dsimp only at hSw); go_simp; all_goals (with_reducible rfl)
          try simp only [Act.put, List.setIfInBounds_toArray, List.set_cons_zero, List.set_cons_succ]
          refine wpAnyH_take (i := 41) (oi := { dst := some 224, op := Op.move (Operand.tmp 25), type := 3, pos := "outright.go:146", after := #[{ on := 30, ground := Ground.guard }], guard := some (30, false) }) (v := ?_) rfl (by kernel_rfl) (by kernel_rfl) (by kernel_rfl) (fun _ _ _ h => h) (Or.inl ⟨by rfl, ?_⟩) (by assumption) ?_
          rotate_left
          · intro w hSw; (try dsimp only at hSw); go_simp; all_goals (with_reducible rfl)
          try simp only [Act.put, List.setIfInBounds_toArray, List.set_cons_zero, List.set_cons_succ]
          refine wpAnyH_take (i := 42) (oi := { dst := some 225, op := Op.indexAddr 22 (Operand.tmp 223) (Operand.tmp 224), type := 0, pos := "outright.go:146", after := #[{ on := 40, ground := Ground.data }, { on := 41, ground := Ground.data }, { on := 30, ground := Ground.guard }], guard := some (30, false) }) (v := ?_) rfl (by kernel_rfl) (by kernel_rfl) (by kernel_rfl) (fun _ _ _ h => h) (Or.inl ⟨by rfl, ?_⟩) (by assumption) ?_
          rotate_left
          · intro w hSw; (try dsimp only at hSw); go_simp; all_goals (with_reducible rfl)
          try simp only [Act.put, List.setIfInBounds_toArray, List.set_cons_zero, List.set_cons_succ]
          refine wpAnyH_take (i := 43) (oi := { dst := some 226, op := Op.load 37 (Operand.tmp 225), type := 37, pos := "outright.go:146", after := #[{ on := 42, ground := Ground.data }, { on := 30, ground := Ground.guard }], guard := some (30, false) }) (v := ?_) rfl (by kernel_rfl) (by kernel_rfl) (by kernel_rfl) (fun _ _ _ h => h) (Or.inl ⟨by rfl, ?_⟩) (by assumption) ?_
          rotate_left
          · intro w hSw; (try dsimp only at hSw); go_simp; all_goals (with_reducible rfl)
          try simp only [Act.put, List.setIfInBounds_toArray, List.set_cons_zero, List.set_cons_succ]
          refine wpAnyH_ready (rs := [44]) (by kernel_rfl) (by simp) ?_
          refine AllReadyH.cons (o := { dst := some 227, op := Op.call { callee := Callee.value (Operand.func 24), args := #[Operand.tmp 222, Operand.tmp 226], argTypes := #[37, 37] }, type := 37, pos := "outright.go:146", after := #[{ on := 39, ground := Ground.data }, { on := 43, ground := Ground.data }, { on := 30, ground := Ground.chain }, { on := 30, ground := Ground.guard }], guard := some (30, false) }) rfl (fun K hK => ?_) AllReadyH.nil
          go_simp
          refine (plus3_any _ _ q _ _ (wordI k Z t) (wordI k Y t) (fun c => addI (wordI k Z t c) (wordI k Y t c)) hq _ (rX.out.keep hdrew) (rU.out.keep hdrew) (fun _ => rfl)).mono ?_
          rintro e w8 ⟨v8, rfl, hown8, hw8⟩
          obtain ⟨A8, c8, rfl, -, -, hrow8, -⟩ := row_of_own (fun i => addI_bd _ _ (wordI_bd k Z t i).2 (wordI_bd k Y t i).2) hown8
          have cv8 := conv_row (C := c8) hrow8
          have hS8 := HCOL.out _ (Bw.trans hdrew hw8)
          refine hK.out _ _ hS8 (fun hHeld => ?_)
          clear hK K
          try simp only [Act.put, List.setIfInBounds_toArray, List.set_cons_zero, List.set_cons_succ]
          refine wpAnyH_ready (rs := [45]) (by kernel_rfl) (by simp) ?_
          refine AllReadyH.cons (o := { dst := some 228, op := Op.convert 37 9 (Operand.tmp 227), type := 9, pos := "outright.go:146", after := #[{ on := 44, ground := Ground.data }, { on := 30, ground := Ground.guard }], guard := some (30, false) }) rfl (fun K hK => ?_) AllReadyH.nil
          go_simp
          refine hK.out _ _ hS8 (fun hHeld => ?_)
          clear hK K
          try simp only [Act.put, List.setIfInBounds_toArray, List.set_cons_zero, List.set_cons_succ]
          refine wpAnyH_take (i := 46) (oi := { dst := some 229, op := Op.binOp BinOp.neq 9 (Operand.tmp 218) (Operand.tmp 228) 9, type := 4, pos := "outright.go:146", after := #[{ on := 35, ground := Ground.data }, { on := 45, ground := Ground.data }, { on := 30, ground := Ground.guard }], guard := some (30, false) }) (v := ?_) rfl (by kernel_rfl) (by kernel_rfl) (by kernel_rfl) (fun _ _ _ h => h) (Or.inl ⟨by rfl, ?_⟩) (by assumption) ?_
          rotate_left
          · intro w hSw; (try dsimp only at hSw); go_simp; all_goals (with_reducible rfl)
          try simp only [Act.put, List.setIfInBounds_toArray, List.set_cons_zero, List.set_cons_succ]
          refine wpAnyH_take (i := 47) (oi := { dst := some 230, op := Op.pick (Operand.tmp 213) (Operand.const (Value.bool true)) (Operand.tmp 229), type := 4, pos := "outright.go:146", after := #[{ on := 30, ground := Ground.data }, { on := 46, ground := Ground.data }], guard := none }) (v := ?_) rfl (by kernel_rfl) (by kernel_rfl) (by kernel_rfl) (fun _ _ _ h => h) (Or.inl ⟨by rfl, ?_⟩) (by assumption) ?_
          rotate_left
          · intro w hSw; (try dsimp only at hSw); go_simp; all_goals (with_reducible rfl)
          try simp only [Act.put, List.setIfInBounds_toArray, List.set_cons_zero, List.set_cons_succ]
          refine wpAnyH_done (by kernel_rfl) ?_ _
          go_wp2
          go_roundw
          case rel => exact ⟨t + 1, by omega, by go_num, hS8.1⟩
          case measure => simp [intOf]; omega
        · have ek : n = t := by omega
          subst ek
          have nn : ¬ (n : Int) < (n : Int) := by omega
          go_wp2_with (go_at_call 10; refine (wakes3_any _).mono ?_; rintro e w9 ⟨rfl, hw9⟩)
          go_ret
          exact ⟨rfl, bw6.trans (hwt.trans hw9)⟩

end Go.Proofs.Ytbhbdhkifkmkbaa
