/- Layer 14: the program's Write and Read. -/
import Derived.Test.YtppknadflmjefaaC5
namespace Go.Proofs.Ytppknadflmjefaa
open Go.RowKit Go.Deep Go.Maps
set_option linter.unusedVariables false
set_option linter.unusedSimpArgs false

namespace Dsk
/-- the fuse is one less -/
def burnt (S : Dsk) : Dsk := { S with fuse := max (S.fuse - 1) (-1) }
def killed (S : Dsk) : Dsk := { S with dead := true, fuse := -1 }
/-- k sectors that wait from a on -/
def put (S : Dsk) (a k : Nat) (f : Nat → Int) : Dsk := { S with is := fun s => if a ≤ s ∧ s < a + k then true else S.is s, wait := fun p => if 64 * a ≤ p ∧ p < 64 * (a + k) then f (p - 64 * a) else S.wait p }
theorem put_zero (S : Dsk) (a : Nat) (f : Nat → Int) : S.put a 0 f = S := by
  unfold put
  have h1 : (fun s => if a ≤ s ∧ s < a + 0 then true else S.is s) = S.is := funext fun s => if_neg (by omega)
  have h2 : (fun p => if 64 * a ≤ p ∧ p < 64 * (a + 0) then f (p - 64 * a) else S.wait p) = S.wait := funext fun s => if_neg (by omega)
  rw [h1, h2]
/-- what Write answers, and the disk behind it -/
def wrote (S : Dsk) (x : Int) (L : Nat) (f : Nat → Int) : Int × Dsk :=
  if S.dead then (140, S) else if L % 64 ≠ 0 then (6, S) else if ¬ (0 ≤ x ∧ x + ((L / 64 : Nat) : Int) ≤ S.n) then (1, S) else if S.fuse = 0 then (140, S.killed) else (0, S.burnt.put x.toNat (L / 64) f)
end Dsk
theorem loadS {w : World} {q s : Nat} {f : Nat → Int} (h : SecAt w q f s) : (Instr.loadAt 77 (.pointer (some ⟨q, 0, none⟩))).run Try.prog w = .ok (.agg (secV f s)) w := by
  have := run_loadAt_mid (P := Try.prog) w q 0 77 (secV f s).toList _ (by
    have := World.rangeAt_of_block h 0 64
    rw [Nat.zero_add, show (secV f s).extract 0 64 = secV f s by have := secV_size f s; rw [← this]; exact Array.extract_size] at this
    exact this) Try.underlying77 rfl (by rw [Array.length_toList]; exact sizeS _ _)
  rwa [Array.toArray_toList] at this
theorem dIn_g {g lb gm b : Nat} (h : b = g) : dIn g lb gm b := .inl h
theorem dIn_m {g lb gm b : Nat} (h : b = gm) : dIn g lb gm b := .inr (.inr h)
theorem dIn_l {g lb gm b : Nat} (h : b = lb) : dIn g lb gm b := .inr (.inl h)
/-- one sector more -/
theorem DiskAt.putOne {w : World} {g lb gm : Nat} {S : Dsk} (h : DiskAt w g lb gm S) {x : Nat} {f : Nat → Int} (hf : ∀ i, 0 ≤ f i ∧ f i < 256) (S1 : Dsk) (e1 : S1.n = S.n) (e2 : S1.last = S.last) (e3 : S1.fuse = S.fuse) (e4 : S1.dead = S.dead) (hx : x < S.n)
    (i1 : S1.is x = true) (i2 : ∀ s, s ≠ x → S1.is s = S.is s) (w0 : ∀ c, c < 64 → S1.wait (64 * x + c) = f c) (w1 : ∀ s c, s ≠ x → c < 64 → S1.wait (64 * s + c) = S.wait (64 * s + c)) (wb : ∀ i, 0 ≤ S1.wait i ∧ S1.wait i < 256) :
    ∃ w', (Instr.mapUpdate 61 (.map (some gm)) (.int .i64 (x : Int)) (.agg (secV f 0))).run Try.prog w = .ok () w' ∧ DiskAt w' g lb gm S1 ∧ Bx (· = gm) w w' := by
  obtain ⟨w', h1, h2, h3⟩ := h.map.put (is' := S1.is) (f' := S1.wait) wb h.ok.n1 hx i1 i2 w1
  rw [secV_congr (g := f) (t := 0) (fun c hc => by rw [w0 c hc, Nat.mul_zero, Nat.zero_add])] at h1
  refine ⟨w', h1, ⟨?_, ?_, ?_, ?_⟩, h3⟩
  · rw [h3.block g h.lt h.ne2, h.cells]
    unfold dcells; rw [e1, e3, e4]
  · rw [e1, e2]; exact h.rows.keepx h3 h.ne3
  · rw [e1]; exact h2
  · exact ⟨e1 ▸ h.ok.n0, e1 ▸ h.ok.n1, e2 ▸ h.ok.lb, wb, e3 ▸ h.ok.f0, e3 ▸ h.ok.f1⟩
theorem put_bd {S : Dsk} {a k : Nat} {f : Nat → Int} (h : ∀ i, 0 ≤ S.wait i ∧ S.wait i < 256) (hf : ∀ i, 0 ≤ f i ∧ f i < 256) (i : Nat) : 0 ≤ (S.put a k f).wait i ∧ (S.put a k f).wait i < 256 := by
  by_cases e : 64 * a ≤ i ∧ i < 64 * (a + k)
  · have e2 : (S.put a k f).wait i = f (i - 64 * a) := if_pos e
    rw [e2]; exact hf _
  · have e2 : (S.put a k f).wait i = S.wait i := if_neg e
    rw [e2]; exact h i
theorem put_step {w : World} {g lb gm : Nat} {S : Dsk} {x q : Nat} {f : Nat → Int} (h : DiskAt w g lb gm (S.put x q f)) (hf : ∀ i, 0 ≤ f i ∧ f i < 256) (hx : x + q < S.n) :
    ∃ w', (Instr.mapUpdate 61 (.map (some gm)) (.int .i64 ((x : Int) + (q : Int))) (.agg (secV (fun c => f (64 * q + c)) 0))).run Try.prog w = .ok () w' ∧ DiskAt w' g lb gm (S.put x (q + 1) f) ∧ Bx (· = gm) w w' := by
  have hwb : ∀ i, 0 ≤ S.wait i ∧ S.wait i < 256 ∨ 64 * x ≤ i ∧ i < 64 * (x + q) := fun i => by
    have := h.ok.wb i
    by_cases e : 64 * x ≤ i ∧ i < 64 * (x + q)
    · exact .inr e
    · left
      have e2 : (S.put x q f).wait i = S.wait i := if_neg e
      rwa [e2] at this
  rw [show (x : Int) + (q : Int) = ((x + q : Nat) : Int) by omega]
  refine h.putOne (S1 := S.put x (q + 1) f) (f := fun c => f (64 * q + c)) (fun i => hf _) rfl rfl rfl rfl hx ?_ ?_ ?_ ?_ ?_
  · exact if_pos ⟨by omega, by omega⟩
  · intro s hs
    show (if _ then _ else _) = (if _ then _ else _)
    by_cases e : x ≤ s ∧ s < x + q
    · rw [if_pos e, if_pos ⟨e.1, by omega⟩]
    · rw [if_neg e, if_neg (fun e' => e ⟨e'.1, by omega⟩)]
  · intro c hc
    show (if _ then _ else _) = _
    rw [if_pos ⟨by omega, by omega⟩]
    congr 1; omega
  · intro s c hs hc
    show (if _ then _ else _) = (if _ then _ else _)
    by_cases e : 64 * x ≤ 64 * s + c ∧ 64 * s + c < 64 * (x + q)
    · rw [if_pos e, if_pos ⟨e.1, by omega⟩]
    · rw [if_neg e, if_neg (fun e' => e ⟨e'.1, by omega⟩)]
  · intro i
    by_cases e : 64 * x ≤ i ∧ i < 64 * (x + (q + 1))
    · have e2 : (S.put x (q + 1) f).wait i = f (i - 64 * x) := if_pos e
      rw [e2]; exact hf _
    · have e2 : (S.put x (q + 1) f).wait i = S.wait i := if_neg e
      rw [e2]
      rcases hwb i with h1 | h1
      · exact h1
      · exact absurd ⟨h1.1, by omega⟩ e
theorem SecAt.range1 {w : World} {g : Nat} {f : Nat → Int} {s : Nat} (h : SecAt w g f s) : w.rangeAt g 0 (secV f s).toList := by
  have := World.rangeAt_of_block h 0 64
  rw [Nat.zero_add, show (secV f s).extract 0 64 = secV f s by have := secV_size f s; rw [← this]; exact Array.extract_size] at this
  exact this
set_option maxRecDepth 100000 in
theorem write_ok {w : World} {g lb gm : Nat} {S : Dsk} (h : DiskAt w g lb gm S) (x L : Nat) (A : Option Addr) (c : Nat) (f : Nat → Int) (k : Nat) (hL : L = 64 * k) (hx : x + k ≤ S.n) (hd : S.dead = false) (hf : S.fuse ≠ 0) (hr : RowAt w A L f) (hA : ∀ b o, A = some ⟨b, o, none⟩ → 0 < L → ¬ dIn g lb gm b) (hc : L ≤ c) :
    Calls Try.prog 17 #[.pointer (some ⟨g, 0, none⟩), .int .i64 (x : Int), .slice A L c] w fun e w' => e = .returned (.int .i64 0) ∧ DiskAt w' g lb gm (S.burnt.put x k f) ∧ Bx (dIn g lb gm) w w' := by
  have HP := powered_yes h hd
  have HH := has_yes h (x : Int) (k : Int) ⟨Int.natCast_nonneg _, Int.natCast_nonneg _, by omega⟩
  have HB := burn_yes h hf
  have hn := h.ok.n1
  have e1 : (L : Int) / 64 = (k : Int) := by omega
  have e2 : (L : Int) % 64 = 0 := by omega
  have k0 : (0 : Int) ≤ (L : Int) := Int.natCast_nonneg _
  have HL : Hid (L = 64 * k) := hL
  have HA : Hid (∀ b o, A = some ⟨b, o, none⟩ → 0 < L → ¬ dIn g lb gm b) := hA
  have HR : Hid (RowAt w A L f) := hr
  clear hL hA hr
  go_enter Try.func17, Try.ntmps17
  go_wp2_with (first
    | (go_at_call 40; refine HP.mono ?_; rintro e w1 ⟨rfl, hw⟩; obtain rfl := hw.symm)
    | (go_at_call 41; refine HH.mono ?_; rintro e w1 ⟨rfl, hw⟩; obtain rfl := hw.symm)
    | (go_at_call 45; refine HB.mono ?_; rintro e w1 ⟨rfl, hd1, hb1⟩))
  clear HP HH HB h
  go_loopw [37] (fun i wr => ∃ q : Nat, q ≤ k ∧ i = .int .i64 (q : Int) ∧ DiskAt wr g lb gm (S.burnt.put x q f) ∧ Bx (dIn g lb gm) w wr) (fun i _ => k - (intOf i).toNat)
  case atStart => exact ⟨0, Nat.zero_le _, rfl, by rw [Dsk.put_zero]; exact hd1, hb1.more (fun b e => dIn_g e)⟩
  case round =>
    obtain ⟨q, hq, rfl, hdq, hbq⟩ := hrel
    have q0 : (0 : Int) ≤ (q : Int) := Int.natCast_nonneg _
    by_cases hlt : q < k
    · have q1 : (q : Int) < (k : Int) := by omega
      obtain ⟨b, off, rfl, hcell⟩ := HR.out.at (k := 0) (by have := HL.out; omega)
      clear hcell
      have hrq : RowAt wr (some ⟨b, off, none⟩) L f := HR.out.keepx hbq (fun b' o' e h0 => HA.out b' o' e h0)
      have hne : ¬ dIn g lb gm b := HA.out b off rfl (by have := HL.out; omega)
      obtain ⟨p, hp⟩ : ∃ p, Hid (p = q * 64) := ⟨_, rfl⟩
      have p0 : IntKind.i64.wrap ((q : Int) * 64) = (p : Int) := by rw [hp.out]; rw [IntKind.wrap_i64]; omega
      have p1 : (p : Int) ≤ (L : Int) := by have := HL.out; have := hp.out; omega
      have p2 : ¬ c = p := by have := HL.out; have := hp.out; omega
      have p3 : (0 : Int) ≤ (p : Int) := Int.natCast_nonneg _
      go_wp2_with (refine wpList_allocS (by rfl) (by rfl) ?_; intro W1 z1 hz1 hb1 hs1)
      have hrd : RowAt W1.drew (some ⟨b, off + p, none⟩) 64 (fun i => f (64 * q + i)) := by
        rw [hp.out]
        have h1 := (hrq.keep hb1).keep ((Bw.refl W1).drew)
        refine ⟨Or.inr ⟨b, off + q * 64, rfl, fun i hi => ?_⟩, fun i => hrq.2 _⟩
        obtain ⟨b', off', e, hc'⟩ := h1.at (k := 64 * q + i) (by have := HL.out; omega)
        cases e
        have := hc' (64 * q + i) (by have := HL.out; omega)
        rw [show off + q * 64 + i = off + (64 * q + i) by omega]
        exact this
      obtain ⟨W2, hcp, hbl2, hx2⟩ := copyT (w := W1.drew) 0 64 64 (L - p) (c - p) 64 3 (hs1.blk.keep ((Bw.refl W1).drew)) (by omega) (by have := HL.out; have := hp.out; omega) hrd
      go_frame
      go_region
      have b1 : Bw wr W2 := bw_bx (hb1.trans ((Bw.refl W1).drew)) hx2 hz1
      have b2 : Bw wr W2.drew := b1.trans ((Bw.refl W2).drew)
      have hs2 : SecAt W2.drew z1 (fun c => f (64 * q + c)) 0 := SecAt.of (hbl2.keep ((Bw.refl W2).drew)) (fun c hc => by unfold cpyF; rw [if_pos (by omega)]; congr 1; omega)
      have hd2 := hdq.keep b2
      have c1 := hd2.c1
      have hzm : gm < z1 := Nat.lt_of_lt_of_le hdq.map.lt hz1
      obtain ⟨W3, hup, hd3, hx3⟩ := put_step hd2 (fun i => HR.out.2 i) (show x + q < S.burnt.n from by show x + q < S.n; omega)
      have a1 : IntKind.i64.wrap ((x : Int) + (q : Int)) = (x : Int) + (q : Int) := by rw [IntKind.wrap_i64]; omega
      clear hd2 hbl2 hcp hrd p0 p1 p2 p3
      go_wp2
      -- R17
      refine wp_region_held_drew (S := fun w' => w'.cell? ⟨g, 1, none⟩ = some (.map (some gm)) ∧ SecAt w' z1 (fun c => f (64 * q + c)) 0) (by kernel_rfl) (⟨c1, hs2⟩) (fun hHeld => ?_)
      refine wpAnyH_take (i := 0) (v := ?_) rfl (by kernel_rfl) (by kernel_rfl) (by kernel_rfl) (fun _ _ _ h => h) (Or.inl ⟨by rfl, ?_⟩) (by assumption) ?_
      rotate_left
      · intro w hSw; (try dsimp only at hSw); go_simp; all_goals (with_reducible rfl)
      try simp only [Act.put, List.setIfInBounds_toArray, List.set_cons_zero, List.set_cons_succ, List.getElem_toArray, List.getElem_cons_succ, List.getElem_cons_zero]
      refine wpAnyH_take (i := 1) (v := ?_) rfl (by kernel_rfl) (by kernel_rfl) (by kernel_rfl) (fun _ _ _ h => h) (Or.inl ⟨by rfl, ?_⟩) (by assumption) ?_
      rotate_left
      · intro w hSw; (try dsimp only at hSw); go_simp; all_goals (with_reducible rfl)
      try simp only [Act.put, List.setIfInBounds_toArray, List.set_cons_zero, List.set_cons_succ, List.getElem_toArray, List.getElem_cons_succ, List.getElem_cons_zero]
      refine wpAnyH_take (i := 2) (v := ?_) rfl (by kernel_rfl) (by kernel_rfl) (by kernel_rfl) (fun _ _ _ h => h) (Or.inl ⟨by rfl, ?_⟩) (by assumption) ?_
      rotate_left
      · intro w hSw; (try dsimp only at hSw); go_simp; all_goals (with_reducible rfl)
      try simp only [Act.put, List.setIfInBounds_toArray, List.set_cons_zero, List.set_cons_succ, List.getElem_toArray, List.getElem_cons_succ, List.getElem_cons_zero]
      refine wpAnyH_take (i := 3) (v := ?_) rfl (by kernel_rfl) (by kernel_rfl) (by kernel_rfl) (fun _ _ _ h => h) (Or.inl ⟨by rfl, ?_⟩) (by assumption) ?_
      rotate_left
      · intro w hSw; (try dsimp only at hSw); go_simp; all_goals (with_reducible rfl)
      try simp only [Act.put, List.setIfInBounds_toArray, List.set_cons_zero, List.set_cons_succ, List.getElem_toArray, List.getElem_cons_succ, List.getElem_cons_zero]
      refine wpAnyH_take (i := 4) (v := ?_) rfl (by kernel_rfl) (by kernel_rfl) (by kernel_rfl) (fun _ _ _ h => h) (Or.inl ⟨by rfl, ?_⟩) (by assumption) ?_
      rotate_left
      · intro w hSw; (try dsimp only at hSw); go_simp; all_goals (with_reducible rfl)
      try simp only [Act.put, List.setIfInBounds_toArray, List.set_cons_zero, List.set_cons_succ, List.getElem_toArray, List.getElem_cons_succ, List.getElem_cons_zero]
      refine wpAnyH_take (i := 5) (v := ?_) rfl (by kernel_rfl) (by kernel_rfl) (by kernel_rfl) (fun _ _ _ h => h) (Or.inl ⟨by rfl, ?_⟩) (by assumption) ?_
      rotate_left
      · intro w hSw; (try dsimp only at hSw); go_simp; all_goals (with_reducible rfl)
      try simp only [Act.put, List.setIfInBounds_toArray, List.set_cons_zero, List.set_cons_succ, List.getElem_toArray, List.getElem_cons_succ, List.getElem_cons_zero]
      refine wpAnyH_take (i := 6) (v := ?_) rfl (by kernel_rfl) (by kernel_rfl) (by kernel_rfl) (fun _ _ _ h => h) (Or.inl ⟨by rfl, ?_⟩) (by assumption) ?_
      rotate_left
      · intro w hSw; (try dsimp only at hSw); go_simp; all_goals (with_reducible rfl)
      try simp only [Act.put, List.setIfInBounds_toArray, List.set_cons_zero, List.set_cons_succ, List.getElem_toArray, List.getElem_cons_succ, List.getElem_cons_zero]
      refine wpAnyH_take (i := 7) rfl (by kernel_rfl) (by kernel_rfl) (by kernel_rfl) (fun _ _ _ h => h) (yieldsIf_load_mid (by rfl) 77 _ (by rfl) z1 0 (by rfl) (secV (fun c => f (64 * q + c)) 0).toList _ (fun w h => h.2.range1) Try.underlying77 rfl (by rw [Array.length_toList]; exact sizeS _ _)) (by assumption) ?_
      try simp only [Act.put, List.setIfInBounds_toArray, List.set_cons_zero, List.set_cons_succ, List.getElem_toArray, List.getElem_cons_succ, List.getElem_cons_zero]
      rw [Array.toArray_toList]
      refine wpAnyH_ready (rs := [8]) (by kernel_rfl) (by simp) ?_
      refine AllReadyH.cons rfl (fun K hK => ?_) AllReadyH.nil
      go_simp
      refine hK.out _ _ (⟨hd3.c1, hs2.keepx hx3 (fun e => by omega)⟩) (fun hHeld => ?_)
      clear hK K
      try simp only [Act.put, List.setIfInBounds_toArray, List.set_cons_zero, List.set_cons_succ, List.getElem_toArray, List.getElem_cons_succ, List.getElem_cons_zero]
      refine wpAnyH_done (by kernel_rfl) ?_ _
      -- /R17
      have hbx : Bx (dIn g lb gm) w W3 := (hbq.trans (.of_bw b2)).trans (hx3.more (fun b e => dIn_m e))
      clear hx3 hs2 c1 hup hd1 hHeld
      go_wp2
      go_roundw
      case rel => exact ⟨q + 1, hlt, rfl, hd3, hbx⟩
      case measure => simp only [intOf]; omega
    · obtain rfl : q = k := by omega
      go_wp2
      go_ret
      exact ⟨rfl, hdq, hbq⟩
/-- the ways in which Write refuses -/
theorem write_nil (w : World) (x : Int) (A : Option Addr) (L c : Nat) (hL : L < 9223372036854775808) : Calls Try.prog 17 #[.pointer none, .int .i64 x, .slice A L c] w fun e w' => e = .returned (.int .i64 8) ∧ w' = w := by
  have HP := powered_nil w
  have k0 : (0 : Int) ≤ (L : Int) := Int.natCast_nonneg _
  go_enter Try.func17, Try.ntmps17
  go_wp2_with (go_at_call 40; refine HP.mono ?_; rintro e w1 ⟨rfl, hw⟩; obtain rfl := hw.symm)
  go_ret
  exact ⟨rfl, rfl⟩
theorem write_dead {w : World} {g lb gm : Nat} {S : Dsk} (h : DiskAt w g lb gm S) (x : Int) (A : Option Addr) (L c : Nat) (hL : L < 9223372036854775808) (hd : S.dead = true) :
    Calls Try.prog 17 #[.pointer (some ⟨g, 0, none⟩), .int .i64 x, .slice A L c] w fun e w' => e = .returned (.int .i64 140) ∧ w' = w := by
  have HP := powered_no h hd
  have k0 : (0 : Int) ≤ (L : Int) := Int.natCast_nonneg _
  go_enter Try.func17, Try.ntmps17
  go_wp2_with (go_at_call 40; refine HP.mono ?_; rintro e w1 ⟨rfl, hw⟩; obtain rfl := hw.symm)
  go_ret
  exact ⟨rfl, rfl⟩
theorem write_shape {w : World} {g lb gm : Nat} {S : Dsk} (h : DiskAt w g lb gm S) (x : Int) (A : Option Addr) (L c : Nat) (hL : L < 9223372036854775808) (hd : S.dead = false) (hs : ¬ L % 64 = 0) :
    Calls Try.prog 17 #[.pointer (some ⟨g, 0, none⟩), .int .i64 x, .slice A L c] w fun e w' => e = .returned (.int .i64 6) ∧ w' = w := by
  have HP := powered_yes h hd
  have k0 : (0 : Int) ≤ (L : Int) := Int.natCast_nonneg _
  obtain ⟨r, hr⟩ : ∃ r : Nat, r = L % 64 := ⟨_, rfl⟩
  have e1 : (L : Int) % 64 = (r : Int) := by omega
  have e2 : ((r : Int) != 0) = true := by rw [bne_iff_ne]; omega
  clear hr
  go_enter Try.func17, Try.ntmps17
  go_wp2_with (go_at_call 40; refine HP.mono ?_; rintro e w1 ⟨rfl, hw⟩; obtain rfl := hw.symm)
  go_ret
  exact ⟨rfl, rfl⟩
theorem write_arg {w : World} {g lb gm : Nat} {S : Dsk} (h : DiskAt w g lb gm S) (x : Int) (bx : x < 9223372036854775808) (A : Option Addr) (L c : Nat) (hL : L < 9223372036854775808) (hd : S.dead = false) (hs : L % 64 = 0) (ht : ¬ (0 ≤ x ∧ x + ((L / 64 : Nat) : Int) ≤ S.n)) :
    Calls Try.prog 17 #[.pointer (some ⟨g, 0, none⟩), .int .i64 x, .slice A L c] w fun e w' => e = .returned (.int .i64 1) ∧ w' = w := by
  have HP := powered_yes h hd
  have k0 : (0 : Int) ≤ (L : Int) := Int.natCast_nonneg _
  obtain ⟨k, hk⟩ : ∃ k : Nat, k = L / 64 := ⟨_, rfl⟩
  rw [← hk] at ht
  have e1 : (L : Int) / 64 = (k : Int) := by omega
  have e2 : (L : Int) % 64 = 0 := by omega
  have HH := has_no h x (k : Int) bx (fun t => ht ⟨t.1, t.2.2⟩)
  clear hk ht
  go_enter Try.func17, Try.ntmps17
  go_wp2_with (first
    | (go_at_call 40; refine HP.mono ?_; rintro e w1 ⟨rfl, hw⟩; obtain rfl := hw.symm)
    | (go_at_call 41; refine HH.mono ?_; rintro e w1 ⟨rfl, hw⟩; obtain rfl := hw.symm))
  go_ret
  exact ⟨rfl, rfl⟩
theorem write_burnt {w : World} {g lb gm : Nat} {S : Dsk} (h : DiskAt w g lb gm S) (x : Int) (A : Option Addr) (L c : Nat) (hL : L < 9223372036854775808) (hd : S.dead = false) (hs : L % 64 = 0) (ht : 0 ≤ x ∧ x + ((L / 64 : Nat) : Int) ≤ S.n) (hf : S.fuse = 0) :
    Calls Try.prog 17 #[.pointer (some ⟨g, 0, none⟩), .int .i64 x, .slice A L c] w fun e w' => e = .returned (.int .i64 140) ∧ DiskAt w' g lb gm S.killed ∧ Bx (dIn g lb gm) w w' := by
  have HP := powered_yes h hd
  have k0 : (0 : Int) ≤ (L : Int) := Int.natCast_nonneg _
  obtain ⟨k, hk⟩ : ∃ k : Nat, k = L / 64 := ⟨_, rfl⟩
  rw [← hk] at ht
  have e1 : (L : Int) / 64 = (k : Int) := by omega
  have e2 : (L : Int) % 64 = 0 := by omega
  have HH := has_yes h x (k : Int) ⟨ht.1, Int.natCast_nonneg _, ht.2⟩
  have HB := burn_no h hf
  clear hk ht
  go_enter Try.func17, Try.ntmps17
  go_wp2_with (first
    | (go_at_call 40; refine HP.mono ?_; rintro e w1 ⟨rfl, hw⟩; obtain rfl := hw.symm)
    | (go_at_call 41; refine HH.mono ?_; rintro e w1 ⟨rfl, hw⟩; obtain rfl := hw.symm)
    | (go_at_call 45; refine HB.mono ?_; rintro e w1 ⟨rfl, hd1, hb1⟩))
  go_ret
  exact ⟨rfl, hd1, hb1.more (fun b e => dIn_g e)⟩
theorem write_any {w : World} {g lb gm : Nat} {S : Dsk} (h : DiskAt w g lb gm S) (x : Int) (bx : x < 9223372036854775808) (A : Option Addr) (L c : Nat) (f : Nat → Int) (hL : L < 9223372036854775808) (hr : RowAt w A L f) (hA : ∀ b o, A = some ⟨b, o, none⟩ → 0 < L → ¬ dIn g lb gm b) (hc : L ≤ c) :
    Calls Try.prog 17 #[.pointer (some ⟨g, 0, none⟩), .int .i64 x, .slice A L c] w fun e w' => e = .returned (.int .i64 (S.wrote x L f).1) ∧ DiskAt w' g lb gm (S.wrote x L f).2 ∧ Bx (dIn g lb gm) w w' := by
  unfold Dsk.wrote
  cases hd : S.dead
  · rw [if_neg (by decide)]
    by_cases hs : L % 64 = 0
    · rw [if_neg (Decidable.not_not.2 hs)]
      by_cases ht : 0 ≤ x ∧ x + ((L / 64 : Nat) : Int) ≤ S.n
      · rw [if_neg (Decidable.not_not.2 ht)]
        by_cases hf : S.fuse = 0
        · rw [if_pos hf]
          exact write_burnt h x A L c hL hd hs ht hf
        · rw [if_neg hf]
          obtain ⟨y, rfl⟩ : ∃ y : Nat, x = (y : Int) := ⟨x.toNat, by omega⟩
          rw [Int.toNat_natCast]
          exact write_ok h y L A c f (L / 64) (by omega) (by omega) hd hf hr hA hc
      · rw [if_pos ht]
        exact (write_arg h x bx A L c hL hd hs ht).mono fun e w' ⟨h1, h2⟩ => ⟨h1, by rw [h2]; exact h, by rw [h2]; exact Bx.refl _ _⟩
    · rw [if_pos hs]
      exact (write_shape h x A L c hL hd hs).mono fun e w' ⟨h1, h2⟩ => ⟨h1, by rw [h2]; exact h, by rw [h2]; exact Bx.refl _ _⟩
  · rw [if_pos rfl]
    exact (write_dead h x A L c hL hd).mono fun e w' ⟨h1, h2⟩ => ⟨h1, by rw [h2]; exact h, by rw [h2]; exact Bx.refl _ _⟩
end Go.Proofs.Ytppknadflmjefaa
