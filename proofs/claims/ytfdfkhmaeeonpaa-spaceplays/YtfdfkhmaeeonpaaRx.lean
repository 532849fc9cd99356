/- Layer 16: the document's own Free and Runs. -/
import Derived.Test.YtfdfkhmaeeonpaaRw
namespace Go.Proofs.Ytfdfkhmaeeonpaa
open Go.RowKit Go.Deep
set_option linter.unusedVariables false
set_option linter.unusedSimpArgs false

/-- how many of the first k cells are free -/
def cntF (f : Nat → Bool) : Nat → Nat
  | 0 => 0
  | k + 1 => cntF f k + (if f k = false then 1 else 0)
theorem cntF_le (f : Nat → Bool) : ∀ k, cntF f k ≤ k
  | 0 => Nat.le_refl _
  | k + 1 => by have := cntF_le f k; rw [cntF]; split <;> omega
theorem cntF_sum (f : Nat → Bool) (L : List Sp.Rn) : ∀ k, (∀ j, j < k → Sp.cov L j = if f j = false then 1 else 0) → cntF f k = Sp.sumTo (Sp.cov L) k
  | 0, _ => rfl
  | k + 1, h => by rw [cntF, Sp.sumTo, cntF_sum f L k (fun j hj => h j (by omega)), h k (by omega)]
set_option maxRecDepth 100000 in
set_option maxHeartbeats 1000000 in
theorem rfree16_any {w : World} {g b n : Nat} {f : Nat → Bool} (hs : RfAt w g b n f) :
    Calls Try.prog 17 #[.pointer (some ⟨g, 0, none⟩)] w fun e w' => e = .returned (.int .i64 (cntF f n : Int)) ∧ Bw w w' := by
  have hn1 := hs.n1
  have HS : Hid (∀ u, Bw w u → RfAt u g b n f) := fun u ku => hs.keep ku
  clear hs
  go_enter Try.func17, Try.ntmps17
  go_wp2
  go_loopw [3, 4] (fun s3 s4 wr => ∃ i c : Nat, s3 = .int .i64 (c : Int) ∧ s4 = .int .i64 (i : Int) ∧ i ≤ n ∧ Hid (c = cntF f i) ∧ Hid (Bw w wr)) (fun _ s4 _ => n - (intOf s4).toNat)
  case atStart => exact ⟨0, 0, rfl, rfl, Nat.zero_le _, rfl, Bw.refl _⟩
  case round =>
    obtain ⟨i, c, rfl, rfl, hi, hc, hbw⟩ := hrel
    have q0 := (HS.out _ hbw.out).c0
    have i0 : (0 : Int) ≤ (i : Int) := Int.natCast_nonneg _
    have hcl := cntF_le f i
    rw [← hc.out] at hcl
    have cc : c ≤ 65536 := by omega
    by_cases hlt : i < n
    · have i1 : (i : Int) < (n : Int) := by omega
      have q1 := (HS.out _ hbw.out).cell hlt
      cases hf : f i
      · rw [hf] at q1
        have hc2 : Hid (c + 1 = cntF f (i + 1)) := by refine (?_ : _ = _); rw [cntF, if_pos hf, hc.out]
        go_wp2
        go_roundw
        case rel => exact ⟨i + 1, c + 1, by go_num, by go_num, by omega, hc2, hbw.out⟩
        case measure => simp [intOf]; omega
      · rw [hf] at q1
        have hc2 : Hid (c = cntF f (i + 1)) := by refine (?_ : _ = _); rw [cntF, if_neg (by rw [hf]; decide), hc.out]; rfl
        go_wp2
        go_roundw
        case rel => exact ⟨i + 1, c, by go_num, by go_num, by omega, hc2, hbw.out⟩
        case measure => simp [intOf]; omega
    · have d2 : decide (i < n) = false := by rw [decide_eq_false_iff_not]; exact hlt
      have d3 : decide ((i : Int) < (n : Int)) = false := by rw [decide_eq_false_iff_not]; omega
      have hcn : Hid (c = cntF f n) := by refine (?_ : _ = _); rw [hc.out, show i = n by omega]
      clear hlt hcl
      go_wp2
      go_ret
      exact ⟨by rw [hcn.out]; rfl, hbw.out⟩
theorem RB.put1 {w : World} {t b c : Nat} {L : List Sp.Rn} (h : RB w t b c L) {i : Nat} {r : Sp.Rn} (hr : L[i]? = some r) (m : Nat) : RB (w.setCell ⟨b, i * 2 + 1, none⟩ (.int .i64 (m : Int))) t b c (L.set i (r.1, m)) := by
  obtain ⟨cur, h1, h2, h3, h4, h5⟩ := h
  have hi := (List.getElem?_eq_some_iff.1 hr).1
  have hc : cur.size = c * 2 := h2
  refine ⟨_, heap_setCell_same w b _ cur _ _ h1, by simpa using h2, by rw [List.length_set]; exact h3, h4, ?_⟩
  rw [List.length_set]
  apply List.ext_getElem?
  intro j
  rw [List.getElem?_take]
  by_cases hj : j < L.length * 2
  · rw [if_pos hj, Array.getElem?_toList]
    have hcur : cur[j]? = (Sp.cellsR L)[j]? := by rw [← h5, List.getElem?_take, if_pos hj, Array.getElem?_toList]
    have hq : (L.set i (r.1, m))[j / 2]? = if i = j / 2 then some (r.1, m) else L[j / 2]? := by
      rw [List.getElem?_set]
      by_cases e : i = j / 2
      · rw [if_pos e, if_pos e, if_pos (by omega)]
      · rw [if_neg e, if_neg e]
    by_cases e : i = j / 2
    · rw [if_pos e] at hq
      obtain ⟨g1, g2⟩ := Sp.cellsR_get _ _ _ hq
      rcases Nat.mod_two_eq_zero_or_one j with hm | hm
      · rw [show j / 2 * 2 = j by omega] at g1
        obtain ⟨k1, _⟩ := Sp.cellsR_get _ _ _ hr
        rw [show i * 2 = j by omega] at k1
        rw [g1, Array.getElem?_setIfInBounds_ne (by omega), hcur, k1]
      · rw [show j / 2 * 2 + 1 = j by omega] at g2
        rw [g2, show i * 2 + 1 = j by omega, Array.getElem?_setIfInBounds_self_of_lt (by omega)]
    · rw [if_neg e] at hq
      have hl : L[j / 2]? = some (L[j / 2]'(by omega)) := List.getElem?_eq_getElem (by omega)
      rw [hl] at hq
      have hq2 := Sp.cellsR_get _ _ _ hq
      have hl2 := Sp.cellsR_get _ _ _ hl
      rw [Array.getElem?_setIfInBounds_ne (by omega)]
      rw [hcur]
      rcases Nat.mod_two_eq_zero_or_one j with hm | hm
      · rw [show j / 2 * 2 = j by omega] at hq2 hl2
        rw [hq2.1, hl2.1]
      · rw [show j / 2 * 2 + 1 = j by omega] at hq2 hl2
        rw [hq2.2, hl2.2]
  · rw [if_neg hj, List.getElem?_eq_none]
    rw [Sp.cellsR_len, List.length_set]; omega
theorem rbA16_new1 (w : World) (r : Sp.Rn) : RB (w.alloc (.cells #[.int .i64 (r.1 : Int), .int .i64 (r.2 : Int)] 32)) 32 w.heap.size 1 [r] :=
  ⟨_, (Go.MapKept.heap_alloc w _).1, rfl, Nat.le_refl _, by unfold maxLen; omega, rfl⟩
/-- the free runs among the first i cells -/
structure RunsTo (f : Nat → Bool) (i : Nat) (H : List Sp.Rn) : Prop where
  norm : Sp.Norm i H
  cov : ∀ j, Sp.cov H j = if j < i ∧ f j = false then 1 else 0
theorem Sp.Norm.mono {m n : Nat} {L : List Sp.Rn} (h : Sp.Norm m L) (hm : m ≤ n) : Sp.Norm n L := ⟨fun r hr => ⟨(h.ok r hr).1, Nat.le_trans (h.ok r hr).2 hm⟩, h.apart⟩
theorem RunsTo.zero (f : Nat → Bool) : RunsTo f 0 [] := ⟨Sp.Norm.nil 0, fun j => by rw [if_neg (by omega)]; rfl⟩
theorem RunsTo.taken {f : Nat → Bool} {i : Nat} {H : List Sp.Rn} (h : RunsTo f i H) (hf : f i = true) : RunsTo f (i + 1) H := ⟨h.norm.mono (by omega), fun j => by
  rw [h.cov j]
  by_cases e : j = i
  · subst e; rw [if_neg (by omega), if_neg (by rw [hf]; simp)]
  · by_cases e2 : j < i ∧ f j = false
    · rw [if_pos e2, if_pos ⟨by omega, e2.2⟩]
    · rw [if_neg e2, if_neg (fun h => e2 ⟨by omega, h.2⟩)]⟩
theorem RunsTo.one {f : Nat → Bool} {i : Nat} {H : List Sp.Rn} (h : RunsTo f i H) (hf : f i = false) (hl : ∀ r ∈ H, r.1 + r.2 < i) : RunsTo f (i + 1) (H ++ [(i, 1)]) := by
  refine ⟨⟨fun r hr => ?_, List.pairwise_append.2 ⟨h.norm.apart, List.pairwise_singleton _ _, fun a ha c hc => ?_⟩⟩, fun j => ?_⟩
  · rcases List.mem_append.1 hr with hr | hr
    · exact ⟨(h.norm.ok r hr).1, by have := (h.norm.ok r hr).2; omega⟩
    · simp at hr; subst hr; exact ⟨Nat.le_refl 1, Nat.le_refl _⟩
  · simp at hc; subst hc; exact hl a ha
  · rw [Sp.cov_append, h.cov j, Sp.cov, Sp.cov]
    by_cases e : j = i
    · subst e; rw [Sp.inr_yes (r := (j, 1)) ⟨Nat.le_refl j, Nat.lt_succ_self j⟩, if_neg (by omega), if_pos ⟨by omega, hf⟩]
    · rw [Sp.inr_no (r := (i, 1)) (by dsimp only; omega)]
      by_cases e2 : j < i ∧ f j = false
      · rw [if_pos e2, if_pos ⟨by omega, e2.2⟩]
      · rw [if_neg e2, if_neg (fun h => e2 ⟨by omega, h.2⟩)]
theorem RunsTo.more {f : Nat → Bool} {i x k : Nat} {H : List Sp.Rn} (h : RunsTo f i (H ++ [(x, k)])) (hf : f i = false) (hx : x + k = i) : RunsTo f (i + 1) (H ++ [(x, k + 1)]) := by
  have hp := List.pairwise_append.1 h.norm.apart
  refine ⟨⟨fun r hr => ?_, List.pairwise_append.2 ⟨hp.1, List.pairwise_singleton _ _, fun a ha c hc => ?_⟩⟩, fun j => ?_⟩
  · rcases List.mem_append.1 hr with hr | hr
    · have := h.norm.ok r (List.mem_append_left _ hr); exact ⟨this.1, by omega⟩
    · simp at hr; subst hr; exact ⟨by show 1 ≤ k + 1; omega, by show x + (k + 1) ≤ i + 1; omega⟩
  · simp at hc; subst hc; exact hp.2.2 a ha (x, k) (by simp)
  · have h1 := h.cov j
    rw [Sp.cov_append, Sp.cov, Sp.cov] at h1
    rw [Sp.cov_append, Sp.cov, Sp.cov]
    by_cases e : j = i
    · subst e
      rw [if_neg (by omega)] at h1
      rw [Sp.inr_yes (r := (x, k + 1)) ⟨by show x ≤ j; omega, by show j < x + (k + 1); omega⟩, if_pos ⟨by omega, hf⟩]
      omega
    · have e3 : Sp.inr (x, k + 1) j = Sp.inr (x, k) j := by
        unfold Sp.inr
        dsimp only
        by_cases e4 : x ≤ j ∧ j < x + k
        · rw [if_pos e4, if_pos (by omega)]
        · rw [if_neg e4, if_neg (by omega)]
      rw [e3, h1]
      by_cases e2 : j < i ∧ f j = false
      · rw [if_pos e2, if_pos ⟨by omega, e2.2⟩]
      · rw [if_neg e2, if_neg (fun h => e2 ⟨by omega, h.2⟩)]
def RRunsEnds (n : Nat) (f : Nat → Bool) (w : World) (e : Ending) (w' : World) : Prop := ∃ v M, e = .returned v ∧ Hd16 w.heap.size w' v M ∧ RunsTo f n M ∧ Bw w w'
set_option maxRecDepth 100000 in
set_option maxHeartbeats 4000000 in
theorem rruns16_any {w : World} {g b n : Nat} {f : Nat → Bool} (hs : RfAt w g b n f) :
    Calls Try.prog 20 #[.pointer (some ⟨g, 0, none⟩)] w fun e w' => RRunsEnds n f w e w' := by
  have hn1 := hs.n1
  have HS : Hid (∀ u, Bw w u → RfAt u g b n f) := fun u ku => hs.keep ku
  clear hs
  go_enter Try.func20, Try.ntmps20
  go_wp2
  go_loopw [3, 4] (fun s3 s4 wr => ∃ (i : Nat) (H : List Sp.Rn), s4 = .int .i64 (i : Int) ∧ i ≤ n ∧ Hid (RunsTo f i H) ∧ Hid (Hd16 w.heap.size wr s3 H) ∧ Hid (Bw w wr)) (fun _ s4 _ => n - (intOf s4).toNat)
  case atStart => exact ⟨0, [], rfl, Nat.zero_le _, RunsTo.zero f, ⟨rfl, .inl ⟨rfl, rfl⟩⟩, Bw.refl _⟩
  case round =>
    obtain ⟨i, H, rfl, hi, hr, hh, hbw⟩ := hrel
    have q0 := (HS.out _ hbw.out).c0
    have i0 : (0 : Int) ≤ (i : Int) := Int.natCast_nonneg _
    by_cases hlt : i < n
    · have i1 : (i : Int) < (n : Int) := by omega
      have q1 := (HS.out _ hbw.out).cell hlt
      cases hf : f i
      · rw [hf] at q1
        obtain ⟨A, cc, e3, hsrc, hnil, hle⟩ := hh.out.src
        have hHn := hr.out.norm.len
        by_cases hH : H = []
        · subst hH
          rw [List.length_nil] at e3
          subst e3
          have hn2 : Hid (RunsTo f (i + 1) ([] ++ [(i, 1)])) := hr.out.one hf (fun r hr => by simp at hr)
          have hbs := hbw.out.size
          clear hr hsrc hnil hle hf hlt
          go_upto_region 7 with fail
          go_quiet (fail)
          obtain ⟨W, hW⟩ : ∃ W, W = wr.drewN nq := ⟨_, rfl⟩
          rw [← hW]
          have kW : Bw wr W := by rw [hW]; exact Bw.drewN _ _
          have hhW : Hid (Hd16 w.heap.size W (.slice A 0 cc) []) := hh.out.keep kW
          have hbW : Hid (Bw w W) := hbw.out.trans kW
          clear hW q0 q1
          go_wp2_with (at_builtin; refine wpList_app16 (by rfl) _ _ (by rfl) w.heap.size (.slice A 0 cc) [] [(i, 1)] 1 rfl (by rfl) (hhW.out.keep (Bw.alloc16x W _)) (some ⟨W.heap.size, 0, none⟩) 1 (by rfl) (fun e => by cases e) ((rbA16_new1 W (i, 1)).src0) (by decide) (Nat.le_trans hbW.out.size (by rw [size_alloc]; omega)) ?_; intro v' w3 hh3 hg3; have hh3 : Hid _ := hh3; have hg3 : Hid _ := hg3)
          go_roundw
          case rel => exact ⟨i + 1, [] ++ [(i, 1)], by go_num, by omega, hn2, hh3.out, bw_grow hg3.out (hbW.out.trans (Bw.alloc16x W _)) (Nat.le_trans hbW.out.size (by rw [size_alloc]; omega)) (hhW.out.keep (Bw.alloc16x W _))⟩
          case measure => simp [intOf]; omega
        · obtain ⟨H0, ⟨x, k⟩, rfl⟩ : ∃ H0 r, H = H0 ++ [r] := ⟨H.dropLast, H.getLast hH, (List.dropLast_concat_getLast hH).symm⟩
          obtain ⟨hb, hc, e5, hR, hbB⟩ := hh.out.rb hH
          rw [e3] at e5
          cases e5
          obtain ⟨m, hm⟩ : ∃ m, Hid (H0.length = m) := ⟨_, rfl⟩
          have hlen : (H0 ++ [(x, k)]).length = m + 1 := by rw [List.length_append, hm.out]; rfl
          obtain ⟨q, hq⟩ : ∃ q, Hid (m + 1 = q) := ⟨_, rfl⟩
          rw [hlen, hq.out] at e3
          subst e3
          have hget : (H0 ++ [(x, k)])[m]? = some (x, k) := by rw [← hm.out, List.getElem?_append_right (Nat.le_refl _)]; simp
          have hok := hr.out.norm.ok (x, k) (by simp)
          dsimp only at hok
          have hRl := hR.le
          rw [hlen] at hRl
          have hqq := hq.out
          obtain ⟨s, hs⟩ : ∃ s, Hid (x + k = s) := ⟨_, rfl⟩
          have hss := hs.out
          have hw : IntKind.i64.wrap ((x : Int) + (k : Int)) = (s : Int) := by rw [IntKind.wrap_i64]; omega
          have g1 : (q : Int) - 1 = (m : Int) := by omega
          have g2 : (m : Int) < (q : Int) := by omega
          have g3 : (0 : Int) ≤ (m : Int) := Int.natCast_nonneg _
          have g4 : q ≤ 100000 := by rw [hlen] at hHn; omega
          have g5 : k ≤ 65536 := by omega
          have g6 : (m : Int) ≤ 100000 := by omega
          have hkk0 : (0 : Int) ≤ (k : Int) := Int.natCast_nonneg _
          obtain ⟨y0, y1⟩ := hR.cells hget
          have hbs := hbw.out.size
          have HRk : Hid (∀ u, Bw wr u → RB u 32 hb cc (H0 ++ [(x, k)])) := fun u ku => hR.keep ku
          have hgetH : Hid ((H0 ++ [(x, k)])[m]? = some (x, k)) := hget
          have HLen : Hid ((H0 ++ [(x, k)]).length = m + 1) := hlen
          by_cases e6 : s = i
          · have d6 : ((s : Int) == (i : Int)) = true := by rw [beq_iff_eq]; omega
            have hn2 : Hid (RunsTo f (i + 1) (H0 ++ [(x, k + 1)])) := hr.out.more hf (by omega)
            clear hr hsrc hnil hle hf hlt e6 hR hget hok hRl hqq hss hlen hHn hH
            go_upto_region 7 with fail
            go_quiet (fail)
            obtain ⟨W, hW⟩ : ∃ W, W = wr.drewN nq := ⟨_, rfl⟩
            rw [← hW]
            have kW : Bw wr W := by rw [hW]; exact Bw.drewN _ _
            have hbW : Hid (Bw w W) := hbw.out.trans kW
            have hRW := HRk.out W kW
            obtain ⟨y0, y1⟩ := hRW.cells hgetH.out
            have f1 := hRW.free (m * 2 + 1)
            have HP : Hid (RB (W.setCell ⟨hb, m * 2 + 1, none⟩ (.int .i64 ((k : Int) + 1))) 32 hb cc (H0 ++ [(x, k + 1)])) := by
              have h := hRW.put1 hgetH.out (k + 1)
              rw [show (H0 ++ [(x, k)]).set m (x, k + 1) = H0 ++ [(x, k + 1)] by rw [← hm.out]; simp, show ((k + 1 : Nat) : Int) = (k : Int) + 1 by omega] at h
              exact h
            clear hW q0 q1 hRW kW hw d6 hs
            go_wp2
            go_roundw
            case rel =>
              refine ⟨i + 1, H0 ++ [(x, k + 1)], by go_num, by omega, hn2, ?_, Bw.put hbW.out hbB _ _⟩
              have h := HP.out.own hbB
              have hl : (H0 ++ [(x, k + 1)]).length = q := by have := HLen.out; have := hq.out; rw [List.length_append] at *; simp at *; omega
              refine (?_ : Hd16 _ _ _ _)
              unfold Hd16
              rw [hl] at h ⊢
              exact h
            case measure => simp [intOf]; omega
          · have d6 : ((s : Int) == (i : Int)) = false := by rw [beq_eq_false_iff_ne]; omega
            have hn2 : Hid (RunsTo f (i + 1) ((H0 ++ [(x, k)]) ++ [(i, 1)])) := hr.out.one hf (fun r hr2 => by
              have hp := List.pairwise_append.1 hr.out.norm.apart
              rcases List.mem_append.1 hr2 with hr2 | hr2
              · have := hp.2.2 r hr2 (x, k) (by simp)
                dsimp only at this
                omega
              · simp at hr2; subst hr2; dsimp only; omega)
            clear hr hsrc hnil hle hf hlt e6 hR hget hok hRl hqq hss hlen hHn hH
            go_upto_region 7 with fail
            go_quiet (fail)
            obtain ⟨W, hW⟩ : ∃ W, W = wr.drewN nq := ⟨_, rfl⟩
            rw [← hW]
            have kW : Bw wr W := by rw [hW]; exact Bw.drewN _ _
            have hbW : Hid (Bw w W) := hbw.out.trans kW
            have hhW : Hid (Hd16 w.heap.size W (.slice (some ⟨hb, 0, none⟩) q cc) (H0 ++ [(x, k)])) := hh.out.keep kW
            have hln : Hid ((H0 ++ [(x, k)]).length + 1 ≤ 1000000) := by have := HLen.out; have := hq.out; exact (by omega : (H0 ++ [(x, k)]).length + 1 ≤ 1000000)
            clear hW q0 q1 y0 y1 kW hw d6 hs
            go_wp2_with (at_builtin; refine wpList_app16 (by rfl) _ _ (by rfl) w.heap.size (.slice (some ⟨hb, 0, none⟩) q cc) (H0 ++ [(x, k)]) [(i, 1)] 1 rfl (by rfl) (hhW.out.keep (Bw.alloc16x W _)) (some ⟨W.heap.size, 0, none⟩) 1 (by rfl) (fun e => by cases e) ((rbA16_new1 W (i, 1)).src0) hln.out (Nat.le_trans hbW.out.size (by rw [size_alloc]; omega)) ?_; intro v' w3 hh3 hg3; have hh3 : Hid _ := hh3; have hg3 : Hid _ := hg3)
            go_roundw
            case rel => exact ⟨i + 1, (H0 ++ [(x, k)]) ++ [(i, 1)], by go_num, by omega, hn2, hh3.out, bw_grow hg3.out (hbW.out.trans (Bw.alloc16x W _)) (Nat.le_trans hbW.out.size (by rw [size_alloc]; omega)) (hhW.out.keep (Bw.alloc16x W _))⟩
            case measure => simp [intOf]; omega
      · rw [hf] at q1
        have hn2 : Hid (RunsTo f (i + 1) H) := hr.out.taken hf
        clear hr hf hlt
        go_wp2
        go_roundw
        case rel => exact ⟨i + 1, H, by go_num, by omega, hn2, hh.out, hbw.out⟩
        case measure => simp [intOf]; omega
    · have d2 : decide (i < n) = false := by rw [decide_eq_false_iff_not]; exact hlt
      have HE : Hid (RRunsEnds n f w (.returned u3) wr) := ⟨u3, H, rfl, hh.out, by rw [show n = i by omega]; exact hr.out, hbw.out⟩
      clear hlt hr hh
      go_wp2
      go_ret
      exact HE.out
end Go.Proofs.Ytfdfkhmaeeonpaa
