/- Layer 14: the program's Sync. -/
import Derived.Test.YtppknadflmjefaaC7
import Derived.Test.YtppknadflmjefaaC3
namespace Go.Proofs.Ytppknadflmjefaa
open Go.RowKit Go.Deep Go.Maps
set_option linter.unusedVariables false
set_option linter.unusedSimpArgs false

namespace Dsk
/-- the first i of those that wait are synced -/
def syn (S : Dsk) (i : Nat) : Dsk := { S with last := fun p => if S.is (p / 64) = true ∧ cnt S.is (p / 64) < i then S.wait p else S.last p, is := fun s => S.is s && decide (i ≤ cnt S.is s) }
/-- all that waits lasts -/
def synced (S : Dsk) : Dsk := { S with last := S.read, is := fun _ => false }
theorem syn_at (S : Dsk) {s i : Nat} (hi : S.is s = true) (hc : cnt S.is s = i) : (S.syn i).is s = true := by
  show (S.is s && decide (i ≤ cnt S.is s)) = true
  rw [hi, hc]; simp
theorem syn_lb {S : Dsk} (h : S.Ok) (i p : Nat) : 0 ≤ (S.syn i).last p ∧ (S.syn i).last p < 256 := by
  show 0 ≤ (if S.is (p / 64) = true ∧ cnt S.is (p / 64) < i then S.wait p else S.last p) ∧ (if S.is (p / 64) = true ∧ cnt S.is (p / 64) < i then S.wait p else S.last p) < 256
  by_cases e : S.is (p / 64) = true ∧ cnt S.is (p / 64) < i
  · rw [if_pos e]; exact h.wb p
  · rw [if_neg e]; exact h.lb p
/-- those that wait have unlike counts -/
theorem cnt_inj {is : Nat → Bool} {s t : Nat} (hs : is s = true) (ht : is t = true) (h : cnt is s = cnt is t) : s = t := by
  rcases Nat.lt_trichotomy s t with h1 | h1 | h1
  · have := cnt_lt is h1 hs; omega
  · exact h1
  · have := cnt_lt is h1 ht; omega
/-- what Sync answers, and the disk behind it -/
def syncs (S : Dsk) : Int × Dsk := if S.dead then (140, S) else if S.fuse = 0 then (140, S.killed) else (0, S.burnt.synced)
end Dsk
theorem syn_other {S : Dsk} {s q : Nat} (hi : S.is s = true) (hc : Dsk.cnt S.is s = q) {p : Nat} (hp : p / 64 ≠ s) : (S.syn (q + 1)).last p = (S.syn q).last p := by
  show (if S.is (p / 64) = true ∧ Dsk.cnt S.is (p / 64) < q + 1 then S.wait p else S.last p) = (if S.is (p / 64) = true ∧ Dsk.cnt S.is (p / 64) < q then S.wait p else S.last p)
  by_cases e : S.is (p / 64) = true ∧ Dsk.cnt S.is (p / 64) < q
  · rw [if_pos e, if_pos ⟨e.1, by omega⟩]
  · rw [if_neg e, if_neg (fun e' => e ⟨e'.1, by
      have : Dsk.cnt S.is (p / 64) ≠ q := fun h => hp (Dsk.cnt_inj e'.1 hi (by rw [h, hc]))
      omega⟩)]
theorem syn_del {S : Dsk} {s q : Nat} (hi : S.is s = true) (hc : Dsk.cnt S.is s = q) : (S.syn (q + 1)).is s = false ∧ ∀ x, x ≠ s → (S.syn (q + 1)).is x = (S.syn q).is x := by
  refine ⟨?_, fun x hx => ?_⟩
  · show (S.is s && decide (q + 1 ≤ Dsk.cnt S.is s)) = false
    rw [hc]; simp
  · show (S.is x && decide (q + 1 ≤ Dsk.cnt S.is x)) = (S.is x && decide (q ≤ Dsk.cnt S.is x))
    cases hx' : S.is x
    · rfl
    · have : Dsk.cnt S.is x ≠ q := fun h => hx (Dsk.cnt_inj hx' hi (by rw [h, hc]))
      simp only [Bool.true_and]
      exact decide_eq_decide.2 (by omega)
theorem DiskAt.congr {w : World} {g lb gm : Nat} {S T : Dsk} (h : DiskAt w g lb gm S) (e1 : T.n = S.n) (e2 : ∀ p, p < 64 * S.n → T.last p = S.last p) (e3 : ∀ s, s < S.n → T.is s = S.is s) (e4 : ∀ s c, s < S.n → S.is s = true → c < 64 → T.wait (64 * s + c) = S.wait (64 * s + c)) (e5 : T.fuse = S.fuse) (e6 : T.dead = S.dead)
    (lb' : ∀ i, 0 ≤ T.last i ∧ T.last i < 256) (wb' : ∀ i, 0 ≤ T.wait i ∧ T.wait i < 256) : DiskAt w g lb gm T := by
  refine ⟨?_, ?_, ?_, ⟨e1 ▸ h.ok.n0, e1 ▸ h.ok.n1, lb', wb', e5 ▸ h.ok.f0, e5 ▸ h.ok.f1⟩⟩
  · rw [h.cells]; unfold dcells; rw [e1, e5, e6]
  · rw [e1]; exact h.rows.congr e2
  · rw [e1]; exact h.map.congr e3 e4
theorem DiskAt.setLast {w w' : World} {g lb gm : Nat} {S : Dsk} (h : DiskAt w g lb gm S) (k : Bx (· = lb) w w') {f' : Nat → Int} (hb : BlkT w' lb 77 (64 * S.n) f') (hf : ∀ i, 0 ≤ f' i ∧ f' i < 256) : DiskAt w' g lb gm { S with last := f' } :=
  ⟨(k.block g h.lt h.ne1).trans h.cells, hb, h.map.keepx k (fun e => h.ne3 e.symm), ⟨h.ok.n0, h.ok.n1, hf, h.ok.wb, h.ok.f0, h.ok.f1⟩⟩
theorem RisAt.load {w : World} {base : Nat} {A : Option Addr} {L : List Nat} (h : RisAt w base A L) {i s : Nat} (hi : L[i]? = some s) : ∃ b, A = some ⟨b, 0, none⟩ ∧ base ≤ b ∧ w.cell? ⟨b, i, none⟩ = some (.int .i64 (s : Int)) := by
  rcases h with h | ⟨b, e, hb, hc, hl⟩
  · rw [h] at hi; cases hi
  · exact ⟨b, e, hb, hl i s hi⟩
theorem RisAt.keepd {w w' : World} {base g lb gm : Nat} {A : Option Addr} {L : List Nat} (h : RisAt w base A L) (k : Bx (dIn g lb gm) w w') (hd : ∀ b, dIn g lb gm b → b < base) : RisAt w' base A L := h.kept k (fun b hb => .inl (hd b hb))
theorem DiskAt.low {w : World} {g lb gm : Nat} {S : Dsk} (h : DiskAt w g lb gm S) : ∀ b, dIn g lb gm b → b < w.heap.size := fun b hb => by
  rcases hb with rfl | rfl | rfl
  · exact h.lt
  · exact h.rows.lt
  · exact h.map.lt
theorem sync_nil (w : World) : Calls Try.prog 83 #[.pointer none] w fun e w' => e = .returned (.int .i64 8) ∧ w' = w := by
  have HP := powered_nil w
  go_enter Try.func83, Try.ntmps83
  go_wp2_with (go_at_call 40; refine HP.mono ?_; rintro e w1 ⟨rfl, hw⟩; obtain rfl := hw.symm)
  go_ret
  exact ⟨rfl, rfl⟩
theorem sync_dead {w : World} {g lb gm : Nat} {S : Dsk} (h : DiskAt w g lb gm S) (hd : S.dead = true) :
    Calls Try.prog 83 #[.pointer (some ⟨g, 0, none⟩)] w fun e w' => e = .returned (.int .i64 140) ∧ w' = w := by
  have HP := powered_no h hd
  go_enter Try.func83, Try.ntmps83
  go_wp2_with (go_at_call 40; refine HP.mono ?_; rintro e w1 ⟨rfl, hw⟩; obtain rfl := hw.symm)
  go_ret
  exact ⟨rfl, rfl⟩
theorem sync_burnt {w : World} {g lb gm : Nat} {S : Dsk} (h : DiskAt w g lb gm S) (hd : S.dead = false) (hf : S.fuse = 0) :
    Calls Try.prog 83 #[.pointer (some ⟨g, 0, none⟩)] w fun e w' => e = .returned (.int .i64 140) ∧ DiskAt w' g lb gm S.killed ∧ Bx (dIn g lb gm) w w' := by
  have HP := powered_yes h hd
  have HB := burn_no h hf
  go_enter Try.func83, Try.ntmps83
  go_wp2_with (first
    | (go_at_call 40; refine HP.mono ?_; rintro e w1 ⟨rfl, hw⟩; obtain rfl := hw.symm)
    | (go_at_call 45; refine HB.mono ?_; rintro e w1 ⟨rfl, hd1, hb1⟩))
  go_ret
  exact ⟨rfl, hd1, hb1.more (fun b e => dIn_g e)⟩
set_option maxRecDepth 100000 in
theorem sync_ok {w : World} {g lb gm : Nat} {S0 : Dsk} (h : DiskAt w g lb gm S0) (hd : S0.dead = false) (hf : S0.fuse ≠ 0) :
    Calls Try.prog 83 #[.pointer (some ⟨g, 0, none⟩)] w fun e w' => e = .returned (.int .i64 0) ∧ DiskAt w' g lb gm S0.burnt.synced ∧ Bx (dIn g lb gm) w w' := by
  have HP := powered_yes h hd
  have HB := burn_yes h hf
  have hlow := h.low
  obtain ⟨S, hS⟩ : ∃ S, Hid (S0.burnt = S) := ⟨_, rfl⟩
  rw [hS.out]
  go_enter Try.func83, Try.ntmps83
  go_wp2_with (first
    | (go_at_call 40; refine HP.mono ?_; rintro e w1 ⟨rfl, hw⟩; obtain rfl := hw.symm)
    | (go_at_call 45; refine HB.mono ?_; rintro e w1 ⟨rfl, hd1, hb1⟩; have hd1 : DiskAt w1 g lb gm S0.burnt := hd1; rw [hS.out] at hd1; obtain ⟨m, hm⟩ : ∃ m, Hid ((Dsk.ris S.is S.n).length = m) := ⟨_, rfl⟩; have HRi := rising_any hd1; rw [hm.out] at HRi)
    | (go_at_call 38; refine HRi.mono ?_; rintro e w2 ⟨A, cap, rfl, hri, hb2⟩))
  have hd2 := hd1.keep hb2
  have hok := hd2.ok
  have hbw2 : Bx (dIn g lb gm) w w2 := (hb1.more (fun b e => dIn_g e)).trans (.of_bw hb2)
  have hms : m ≤ S.n := by rw [← hm.out, Dsk.ris_len]; exact Dsk.cnt_le _ _
  have hmn := hok.n1
  have hlow1 : ∀ b, dIn g lb gm b → b < w1.heap.size := hd1.low
  clear HP HB HRi hd1 h
  go_loopw [20] (fun i wr => ∃ q : Nat, q ≤ m ∧ i = .int .i64 (q : Int) ∧ DiskAt wr g lb gm (S.syn q) ∧ RisAt wr w1.heap.size A (Dsk.ris S.is S.n) ∧ Bx (dIn g lb gm) w wr) (fun i _ => m - (intOf i).toNat)
  case atStart =>
    refine ⟨0, Nat.zero_le _, rfl, hd2.congr rfl (fun p _ => ?_) (fun s _ => ?_) (fun _ _ _ _ _ => rfl) rfl rfl (Dsk.syn_lb hok 0) hok.wb, hri, hbw2⟩
    · exact if_neg (fun e => absurd e.2 (Nat.not_lt_zero _))
    · show (S.is s && decide (0 ≤ _)) = _; simp
  case round =>
    obtain ⟨q, hq, rfl, hdq, hriq, hbq⟩ := hrel
    have q0 : (0 : Int) ≤ (q : Int) := Int.natCast_nonneg _
    by_cases hlt : q < m
    · have q1 : (q : Int) < (m : Int) := by omega
      obtain ⟨s, hs⟩ : ∃ s, (Dsk.ris S.is S.n)[q]? = some s := ⟨_, List.getElem?_eq_getElem (by rw [hm.out]; exact hlt)⟩
      obtain ⟨hsn, hsi, hsc⟩ := Dsk.ris_get S.is S.n q s hs
      obtain ⟨b, rfl, hbb, hcell⟩ := hriq.load hs
      have s0 : (0 : Int) ≤ (s : Int) := Int.natCast_nonneg _
      have s1 : (s : Int) < (S.n : Int) := by omega
      have HS : Hid (S.is s = true ∧ Dsk.cnt S.is s = q) := ⟨hsi, hsc⟩
      clear hsi hsc hs
      go_wp2
      have hdd : DiskAt wr.drew g lb gm (S.syn q) := hdq.keep ((Bw.refl wr).drew)
      have hlk : ∀ W, DiskAt W g lb gm (S.syn q) → (Instr.lookup 61 (.map (some gm)) (.int .i64 (s : Int)) false).run Try.prog W = .ok (.agg (secV S.wait s)) W := fun W hW => hW.map.look hok.wb hmn hsn (S.syn_at HS.out.1 HS.out.2)
      refine wp_region_held_drew (S := fun w' => w'.cell? ⟨g, 0, none⟩ = some (.slice (some ⟨lb, 0, none⟩) S.n S.n) ∧ w'.cell? ⟨g, 1, none⟩ = some (.map (some gm)) ∧ (Instr.lookup 61 (.map (some gm)) (.int .i64 (s : Int)) false).run Try.prog w' = .ok (.agg (secV S.wait s)) w') (by kernel_rfl) (⟨hdd.c0, hdd.c1, hlk _ hdd⟩) (fun hHeld => ?_)
      refine wpAnyH_take (i := 0) (v := ?_) rfl (by kernel_rfl) (by kernel_rfl) (by kernel_rfl) (fun _ _ _ h => h) (Or.inl ⟨by rfl, ?_⟩) (by assumption) ?_
      rotate_left
      · intro w hSw; (try dsimp only at hSw); obtain ⟨s0, s1, s2⟩ := hSw; go_simp; all_goals (with_reducible rfl)
      try simp only [Act.put, List.setIfInBounds_toArray, List.set_cons_zero, List.set_cons_succ, List.getElem_toArray, List.getElem_cons_succ, List.getElem_cons_zero]
      refine wpAnyH_take (i := 1) (v := ?_) rfl (by kernel_rfl) (by kernel_rfl) (by kernel_rfl) (fun _ _ _ h => h) (Or.inl ⟨by rfl, ?_⟩) (by assumption) ?_
      rotate_left
      · intro w hSw; (try dsimp only at hSw); obtain ⟨s0, s1, s2⟩ := hSw; go_simp; all_goals (with_reducible rfl)
      try simp only [Act.put, List.setIfInBounds_toArray, List.set_cons_zero, List.set_cons_succ, List.getElem_toArray, List.getElem_cons_succ, List.getElem_cons_zero]
      refine wpAnyH_take (i := 2) (v := ?_) rfl (by kernel_rfl) (by kernel_rfl) (by kernel_rfl) (fun _ _ _ h => h) (Or.inl ⟨by rfl, ?_⟩) (by assumption) ?_
      rotate_left
      · intro w hSw; (try dsimp only at hSw); obtain ⟨s0, s1, s2⟩ := hSw; go_simp; all_goals (with_reducible rfl)
      try simp only [Act.put, List.setIfInBounds_toArray, List.set_cons_zero, List.set_cons_succ, List.getElem_toArray, List.getElem_cons_succ, List.getElem_cons_zero]
      refine wpAnyH_take (i := 3) (v := ?_) rfl (by kernel_rfl) (by kernel_rfl) (by kernel_rfl) (fun _ _ _ h => h) (Or.inl ⟨by rfl, ?_⟩) (by assumption) ?_
      rotate_left
      · intro w hSw; (try dsimp only at hSw); obtain ⟨s0, s1, s2⟩ := hSw; go_simp; all_goals (with_reducible rfl)
      try simp only [Act.put, List.setIfInBounds_toArray, List.set_cons_zero, List.set_cons_succ, List.getElem_toArray, List.getElem_cons_succ, List.getElem_cons_zero]
      refine wpAnyH_take (i := 4) (v := ?_) rfl (by kernel_rfl) (by kernel_rfl) (by kernel_rfl) (fun _ _ _ h => h) (Or.inl ⟨by rfl, ?_⟩) (by assumption) ?_
      rotate_left
      · intro w hSw; (try dsimp only at hSw); obtain ⟨s0, s1, s2⟩ := hSw; go_simp; all_goals (with_reducible rfl)
      try simp only [Act.put, List.setIfInBounds_toArray, List.set_cons_zero, List.set_cons_succ, List.getElem_toArray, List.getElem_cons_succ, List.getElem_cons_zero]
      refine wpAnyH_take (i := 5) (v := ?_) rfl (by kernel_rfl) (by kernel_rfl) (by kernel_rfl) (fun _ _ _ h => h) (Or.inl ⟨by rfl, ?_⟩) (by assumption) ?_
      rotate_left
      · intro w hSw; (try dsimp only at hSw); obtain ⟨s0, s1, s2⟩ := hSw; go_simp; all_goals (with_reducible rfl)
      try simp only [Act.put, List.setIfInBounds_toArray, List.set_cons_zero, List.set_cons_succ, List.getElem_toArray, List.getElem_cons_succ, List.getElem_cons_zero]
      refine wpAnyH_take (i := 6) (v := ?_) rfl (by kernel_rfl) (by kernel_rfl) (by kernel_rfl) (fun _ _ _ h => h) (Or.inl ⟨by rfl, ?_⟩) (by assumption) ?_
      rotate_left
      · intro w hSw; (try dsimp only at hSw); obtain ⟨s0, s1, s2⟩ := hSw; go_simp; all_goals (with_reducible rfl)
      try simp only [Act.put, List.setIfInBounds_toArray, List.set_cons_zero, List.set_cons_succ, List.getElem_toArray, List.getElem_cons_succ, List.getElem_cons_zero]
      refine wpAnyH_take (i := 7) (v := ?_) rfl (by kernel_rfl) (by kernel_rfl) (by kernel_rfl) (fun _ _ _ h => h) (Or.inl ⟨by rfl, ?_⟩) (by assumption) ?_
      rotate_left
      · intro w hSw; (try dsimp only at hSw); obtain ⟨s0, s1, s2⟩ := hSw; go_simp; all_goals (with_reducible rfl)
      try simp only [Act.put, List.setIfInBounds_toArray, List.set_cons_zero, List.set_cons_succ, List.getElem_toArray, List.getElem_cons_succ, List.getElem_cons_zero]
      refine wpAnyH_take (i := 8) (v := ?_) rfl (by kernel_rfl) (by kernel_rfl) (by kernel_rfl) (fun _ _ _ h => h) (Or.inl ⟨by rfl, ?_⟩) (by assumption) ?_
      rotate_left
      · intro w hSw; (try dsimp only at hSw); obtain ⟨s0, s1, s2⟩ := hSw; go_simp; all_goals (with_reducible rfl)
      try simp only [Act.put, List.setIfInBounds_toArray, List.set_cons_zero, List.set_cons_succ, List.getElem_toArray, List.getElem_cons_succ, List.getElem_cons_zero]
      refine wpAnyH_take (i := 9) (v := ?_) rfl (by kernel_rfl) (by kernel_rfl) (by kernel_rfl) (fun _ _ _ h => h) (Or.inl ⟨by rfl, ?_⟩) (by assumption) ?_
      rotate_left
      · intro w hSw; (try dsimp only at hSw); obtain ⟨s0, s1, s2⟩ := hSw; go_simp; all_goals (with_reducible rfl)
      try simp only [Act.put, List.setIfInBounds_toArray, List.set_cons_zero, List.set_cons_succ, List.getElem_toArray, List.getElem_cons_succ, List.getElem_cons_zero]
      refine wpAnyH_take (i := 10) (v := ?_) rfl (by kernel_rfl) (by kernel_rfl) (by kernel_rfl) (fun _ _ _ h => h) (Or.inl ⟨by rfl, ?_⟩) (by assumption) ?_
      rotate_left
      · intro w hSw; (try dsimp only at hSw); obtain ⟨s0, s1, s2⟩ := hSw; go_simp; all_goals (with_reducible rfl)
      try simp only [Act.put, List.setIfInBounds_toArray, List.set_cons_zero, List.set_cons_succ, List.getElem_toArray, List.getElem_cons_succ, List.getElem_cons_zero]
      refine wpAnyH_take (i := 11) (v := ?_) rfl (by kernel_rfl) (by kernel_rfl) (by kernel_rfl) (fun _ _ _ h => h) (Or.inl ⟨by rfl, ?_⟩) (by assumption) ?_
      rotate_left
      · intro w hSw; (try dsimp only at hSw); obtain ⟨s0, s1, s2⟩ := hSw; go_simp; all_goals (with_reducible rfl)
      try simp only [Act.put, List.setIfInBounds_toArray, List.set_cons_zero, List.set_cons_succ, List.getElem_toArray, List.getElem_cons_succ, List.getElem_cons_zero]
      refine wpAnyH_ready (rs := [12]) (by kernel_rfl) (by simp) ?_
      refine AllReadyH.cons rfl (fun K hK => ?_) AllReadyH.nil
      refine step_storeM (by rfl) _ _ (by rfl) lb _ S.n s (S.syn q).last S.wait (S.syn (q + 1)).last (by rfl) (by rfl) hdd.rows hsn (fun c hc => ?_) (fun p hp => ?_) ?_
      · exact if_pos (by rw [show (64 * s + c) / 64 = s by omega]; exact ⟨HS.out.1, by rw [HS.out.2]; exact Nat.lt_succ_self _⟩)
      · exact syn_other HS.out.1 HS.out.2 hp
      intro W3 hx3 hB3
      have hd3 := hdd.setLast hx3 hB3 (Dsk.syn_lb hok (q + 1))
      refine hK.out _ _ (⟨hd3.c0, hd3.c1, hd3.map.look hok.wb hmn hsn (S.syn_at HS.out.1 HS.out.2)⟩) (fun hHeld => ?_)
      clear hK K
      try simp only [Act.put, List.setIfInBounds_toArray, List.set_cons_zero, List.set_cons_succ, List.getElem_toArray, List.getElem_cons_succ, List.getElem_cons_zero]
      refine wpAnyH_done (by kernel_rfl) ?_ _
      obtain ⟨W4, hdel, hm4, hx4⟩ := hd3.map.del hmn hsn (syn_del HS.out.1 HS.out.2).1 (syn_del HS.out.1 HS.out.2).2 0
      have hd4 : DiskAt W4 g lb gm (S.syn (q + 1)) := ⟨(hx4.block g hd3.lt hd3.ne2).trans hd3.cells, hd3.rows.keepx hx4 hd3.ne3, hm4, ⟨hd3.ok.n0, hd3.ok.n1, hd3.ok.lb, hd3.ok.wb, hd3.ok.f0, hd3.ok.f1⟩⟩
      have c1 := hd3.c1
      have hbx : Bx (dIn g lb gm) wr W4 := ((Bx.of_bw (Bw.refl wr).drew).trans (hx3.more (fun b e => dIn_l e))).trans (hx4.more (fun b e => dIn_m e))
      have hri4 := hriq.keepd hbx hlow1
      have hbx' := hbq.trans hbx
      clear hx4 hx3 hm4 hB3 hHeld hlk hdd
      go_wp2
      go_roundw
      case rel => exact ⟨q + 1, hlt, rfl, hd4, hri4, hbx'⟩
      case measure => simp only [intOf]; omega
    · obtain rfl : q = m := by omega
      go_wp2
      go_ret
      refine ⟨rfl, hdq.congr rfl (fun p hp => ?_) (fun s hs => ?_) (fun _ _ _ _ _ => rfl) rfl rfl (fun i => hok.read i) hok.wb, hbq⟩
      · have hp' : p / 64 < S.n := by
          have : p < 64 * S.n := hp
          omega
        show S.read p = if S.is (p / 64) = true ∧ Dsk.cnt S.is (p / 64) < q then S.wait p else S.last p
        unfold Dsk.read
        cases hi : S.is (p / 64)
        · rw [if_neg (by decide), if_neg (fun e => by cases e.1)]
        · have := Dsk.cnt_lt S.is hp' hi
          rw [if_pos rfl, if_pos ⟨rfl, by rw [← hm.out, Dsk.ris_len]; exact this⟩]
      · have hs' : s < S.n := hs
        show false = (S.is s && decide (q ≤ Dsk.cnt S.is s))
        cases hi : S.is s
        · rfl
        · have := Dsk.cnt_lt S.is hs' hi
          have h2 := hm.out
          rw [Dsk.ris_len] at h2
          simp only [Bool.true_and]
          rw [decide_eq_false (by omega)]
theorem sync_any {w : World} {g lb gm : Nat} {S : Dsk} (h : DiskAt w g lb gm S) :
    Calls Try.prog 83 #[.pointer (some ⟨g, 0, none⟩)] w fun e w' => e = .returned (.int .i64 S.syncs.1) ∧ DiskAt w' g lb gm S.syncs.2 ∧ Bx (dIn g lb gm) w w' := by
  unfold Dsk.syncs
  cases hd : S.dead
  · rw [if_neg (by decide)]
    by_cases hf : S.fuse = 0
    · rw [if_pos hf]; exact sync_burnt h hd hf
    · rw [if_neg hf]; exact sync_ok h hd hf
  · rw [if_pos rfl]
    exact (sync_dead h hd).mono fun e w' ⟨h1, h2⟩ => ⟨h1, by rw [h2]; exact h, by rw [h2]; exact Bx.refl _ _⟩
end Go.Proofs.Ytppknadflmjefaa
