/- Proved: for every two lists of acts and every row of fates the statement DiskLasts answers true (the document's P14.8, the stage's theorem: what was synced, and not written since, stays, whatever a crash makes of the rest; the rest is as it was, as it was written, or begins as the one and ends as the other), with no condition but the reach. -/
import Derived.Test.YtmmpignjihbbpaaCX
import Derived.Test.YtmmpignjihbbpaaFa
import Derived.ShutString
import Derived.ChangeOld
namespace Go.Proofs.Ytmmpignjihbbpaa.diskLasts
open Go.ChangeShapes Go.WideShapes Go.ChangeAt Go.RowKit
set_option linter.unusedVariables false

set_option linter.unusedSimpArgs false
open Go.Deep
/-- a disk of forty sectors without a fuse -/
structure P40 (S : Dsk) : Prop where
  n : S.n = 40
  fuse : S.fuse = -1
theorem p40_wrote {S : Dsk} (h : P40 S) (x : Int) (L : Nat) (f : Nat → Int) : P40 (S.wrote x L f).2 ∧ (S.wrote x L f).2.dead = S.dead ∧ (S.wrote x L f).2.last = S.last ∧ ∀ s : Nat, (S.wrote x L f).2.is s = true → S.is s = true ∨ (0 ≤ x ∧ x ≤ (s : Int) ∧ (s : Int) < x + ((L / 64 : Nat) : Int)) := by
  unfold Dsk.wrote
  split
  · exact ⟨h, rfl, rfl, fun s hs => .inl hs⟩
  split
  · exact ⟨h, rfl, rfl, fun s hs => .inl hs⟩
  split
  · exact ⟨h, rfl, rfl, fun s hs => .inl hs⟩
  rename_i hx
  split
  · rename_i hf; rw [h.fuse] at hf; cases hf
  · refine ⟨⟨h.n, by show max (S.fuse - 1) (-1) = -1; rw [h.fuse]; decide⟩, rfl, rfl, fun s hs => ?_⟩
    have hx' := Decidable.not_not.1 hx
    by_cases e : x.toNat ≤ s ∧ s < x.toNat + L / 64
    · right; omega
    · left
      have h1 : (S.burnt.put x.toNat (L / 64) f).is s = S.is s := if_neg e
      rw [← h1]; exact hs
theorem p40_sync {S : Dsk} (h : P40 S) : P40 S.burnt.synced := ⟨h.n, by show max (S.fuse - 1) (-1) = -1; rw [h.fuse]; decide⟩
theorem p40_read {w : World} {g lb gm : Nat} {S : Dsk} (h : DiskAt w g lb gm S) (hp : P40 S) (hd : S.dead = false) :
    Calls Try.prog 21 #[.pointer (some ⟨g, 0, none⟩), .int .i64 0, .int .i64 40] w fun e w' => ∃ b, e = .returned (.tuple #[.slice (some ⟨b, 0, none⟩) 2560 2560, .int .i64 0]) ∧ w.heap.size ≤ b ∧ BlockIs w' b 2560 S.read ∧ Bw w w' := by
  refine (read_ok h 0 40 hd (by rw [hp.n]; omega)).mono ?_
  rintro e w' ⟨b, he, hb, hB, hw⟩
  refine ⟨b, he, hb, BlockIs.congr hB (fun c hc => ?_), hw⟩
  show S.read c = S.read (64 * 0 + c)
  rw [Nat.mul_zero, Nat.zero_add]
theorem ints_lt {w : World} {b o m : Nat} {K : Nat → Int} (h : IntsAt w (some ⟨b, o, none⟩) m K) (h0 : 0 < m) : b < w.heap.size := by
  obtain ⟨b', o', e, hc⟩ := h.at h0
  cases e
  exact block_lt_of_cell hc
theorem again_at {S : Dsk} (K : Nat → Int) (m : Nat) (s c : Nat) (hc : c < 64) : (S.again K m).read (64 * s + c) = if S.is s = true ∧ c < Dsk.kept K m (Dsk.cnt S.is s) then S.wait (64 * s + c) else S.last (64 * s + c) := by
  show (S.again K m).last (64 * s + c) = _
  show (if S.is ((64 * s + c) / 64) = true ∧ (64 * s + c) % 64 < Dsk.kept K m (Dsk.cnt S.is ((64 * s + c) / 64)) then S.wait (64 * s + c) else S.last (64 * s + c)) = _
  rw [show (64 * s + c) / 64 = s by omega, show (64 * s + c) % 64 = c by omega]
theorem read_at {S : Dsk} (s c : Nat) (hc : c < 64) : S.read (64 * s + c) = if S.is s = true then S.wait (64 * s + c) else S.last (64 * s + c) := by
  unfold Dsk.read
  rw [show (64 * s + c) / 64 = s by omega]
theorem read_last {S : Dsk} (h : ∀ s, S.is s = false) (p : Nat) : S.read p = S.last p := by unfold Dsk.read; rw [h]; rfl
set_option maxRecDepth 100000 in
set_option maxHeartbeats 8000000 in
theorem walk (a0 : Option Addr) (len0 cap0 : Nat) (X0 : Nat → Ac) (a1 : Option Addr) (len1 cap1 : Nat) (X1 : Nat → Ac) (a2 : Option Addr) (len2 cap2 : Nat) (f2 : Nat → Int) (w : World) (w0 : InActs w a0 len0 cap0 X0) (w1 : InActs w a1 len1 cap1 X1) (w2 : InInts w a2 len2 cap2 f2) :
    Calls Try.prog 5 #[.slice a0 len0 cap0, .slice a1 len1 cap1, .slice a2 len2 cap2] w fun e w' => e = .returned (.bool true) ∧ Below w.heap.size w w' := by
  have HA : Hid (InActs w a0 len0 cap0 X0) := w0
  have HB : Hid (InActs w a1 len1 cap1 X1) := w1
  have HI : Hid (InInts w a2 len2 cap2 f2) := w2
  have l0 := w0.le
  have r0 := w0.room
  have l1 := w1.le
  have r1 := w1.room
  have l2 := w2.le
  have r2 := w2.room
  have HG0 := great14_any w0
  have HG1 := great14_any w1
  have HN := new_ok 40 (by omega) (by omega) w
  clear w0 w1 w2
  have tok1 : Hid (w = w) := rfl
  go_enter Try.func5, Try.ntmps5
  go_upto_region 3 with (first
    | (clear tok1; go_at_call 8; refine HG0.mono ?_; rintro e w1 ⟨⟨B0, rfl⟩, hw⟩; obtain rfl := hw.symm; clear HG0; have tok2 : Hid (w = w) := rfl)
    | (clear tok2; go_at_call 8; refine HG1.mono ?_; rintro e w1 ⟨⟨B1, rfl⟩, hw⟩; obtain rfl := hw.symm; clear HG1)
    | (go_at_call 9; refine (wakes14_any _).mono ?_; rintro e w6 ⟨rfl, hw6⟩))
  · go_ret
    exact ⟨rfl, hw6⟩
  · go_ret
    exact ⟨rfl, hw6⟩
  go_wp2_with (go_at_call 10; refine HN.mono ?_; rintro e w1 ⟨g, lb, gm, rfl, hd1, hge, hbw1⟩; clear HN)
  go_loopw [9] (fun i wr => ∃ (q : Nat) (S : Dsk), q ≤ len0 ∧ i = .int .i64 (q : Int) ∧ DiskAt wr g lb gm S ∧ P40 S ∧ S.dead = false ∧ Bw w wr) (fun i _ => len0 - (intOf i).toNat)
  case atStart => exact ⟨0, _, Nat.zero_le _, rfl, hd1, ⟨rfl, rfl⟩, rfl, hbw1⟩
  case round =>
    obtain ⟨q, S, hq, rfl, hdq, hp, hal, hb⟩ := hrel
    have q0 : (0 : Int) ≤ (q : Int) := Int.natCast_nonneg _
    clear hd1 hbw1
    by_cases hlt : q < len0
    · have q1 : (q : Int) < (len0 : Int) := by omega
      obtain ⟨b, off, rfl, hcw⟩ := (HA.out.keep hb).cell hlt
      have c0 := hcw 0 _ rfl
      rw [Nat.add_zero] at c0
      have Hx := HA.out.acts q hlt
      obtain ⟨x, hx⟩ : ∃ x, Hid (X0 q = x) := ⟨_, rfl⟩
      rw [hx.out] at c0 Hx
      have hfin : Hid (∀ W' S', DiskAt W' g lb gm S' → P40 S' → S'.dead = false → Bw w W' → (∃ (q' : Nat) (S : Dsk), q' ≤ len0 ∧ Value.int .i64 ((q : Int) + 1) = .int .i64 (q' : Int) ∧ DiskAt W' g lb gm S ∧ P40 S ∧ S.dead = false ∧ Bw w W') ∧ len0 - (intOf (.int .i64 ((q : Int) + 1))).toNat < len0 - (intOf (.int .i64 (q : Int))).toNat) := fun W' S' h1 h2 h3 h4 => ⟨⟨q + 1, S', hlt, rfl, h1, h2, h3, h4⟩, by simp only [intOf]; omega⟩
      have Hc : Hid (∀ W', Bw w W' → W'.cell? ⟨b, off + q * 6 + 1, none⟩ = some (.int .i64 x.at_) ∧ W'.cell? ⟨b, off + q * 6 + 3, none⟩ = some (.slice x.B x.L x.C)) := fun W' k => by
        obtain ⟨b', off', e, hc'⟩ := (HA.out.keep k).cell hlt
        cases e
        have d1 := hc' 1 _ rfl
        have d3 := hc' 3 _ rfl
        rw [hx.out] at d1 d3
        exact ⟨d1, d3⟩
      clear hcw
      obtain ⟨dx, hdx⟩ : ∃ d, Hid (x.do_ = d) := ⟨_, rfl⟩
      rw [hdx.out] at c0
      by_cases hd0 : dx = 0
      · subst hd0
        have bwd : Bw w wr.drew := hb.trans ((Bw.refl _).drew)
        have hcd := Hc.out _ bwd
        have HWr := write_any (hdq.keep ((Bw.refl _).drew)) x.at_ (by have := Hx.ab.2; omega) x.B x.L x.C x.f (by have := Hx.row.le; have := Hx.row.room; omega) (Hx.row.row.keep bwd) (fun b o e h0 hin => by
          have h1 := hge b hin
          have h2 := Hx.row.row
          rw [e] at h2
          have := h2.lt (k := 0) h0
          omega) Hx.row.le
        obtain ⟨hp', hal', -, -⟩ := p40_wrote hp x.at_ x.L x.f
        obtain ⟨S', hS'⟩ : ∃ S', Hid ((S.wrote x.at_ x.L x.f).2 = S') := ⟨_, rfl⟩
        rw [hS'.out] at HWr hp' hal'
        rw [hal] at hal'
        clear Hx
        go_wp2
        go_region_held3 (fun w' => w'.cell? ⟨b, off + q * 6 + 1, none⟩ = some (.int .i64 x.at_) ∧ w'.cell? ⟨b, off + q * 6 + 3, none⟩ = some (.slice x.B x.L x.C)) (first | exact hcd | exact hcd2) (first | (go_at_call 22; refine HWr.mono ?_; rintro e w2 ⟨rfl, hd2, hx2⟩; have hb2 : Bw w w2 := Below.trans bwd (hx2.below bwd.size hge); have hcd2 := Hc.out _ hb2))
        go_wp2
        exact hfin.out _ _ hd2 hp' hal' hb2
      · have e0 : (dx == 0) = false := by rw [beq_eq_false_iff_ne]; exact hd0
        clear Hx
        go_wp2
        exact hfin.out _ _ hdq hp hal hb
    · have q1 : ¬ (q : Int) < (len0 : Int) := by omega
      have HSy := sync_ok hdq hal (by rw [hp.fuse]; decide)
      have hpS := p40_sync hp
      obtain ⟨S1, hS1⟩ : ∃ S', Hid (S.burnt.synced = S') := ⟨_, rfl⟩
      have hS1i : Hid (∀ s, S1.is s = false) := by rw [← hS1.out]; exact fun s => rfl
      have hS1d : S1.dead = false := by rw [← hS1.out]; exact hal
      rw [hS1.out] at HSy hpS
      clear hp hal
      go_wp2_with (first
        | (go_at_call 23; refine HSy.mono ?_; rintro e w2 ⟨rfl, hd2, hx2⟩; clear HSy; have hb2 : Bw w w2 := Below.trans hb (hx2.below hb.size hge))
        | (go_at_call 21; refine (p40_read hd2 hpS hS1d).mono ?_; rintro e w3 ⟨z1, rfl, hz1, hB3, hbw3⟩; have hd3 := hd2.keep hbw3; have hb3 := hb2.trans hbw3; have hz1d : ¬ dIn g lb gm z1 := (fun h => absurd (hd2.low _ h) (Nat.not_lt.2 hz1)); clear hd2 hbw3))
      obtain ⟨WAS, hWAS⟩ : ∃ f, Hid (S1.read = f) := ⟨_, rfl⟩
      have HL1 : Hid (∀ p, S1.last p = WAS p) := by rw [← hWAS.out]; exact fun p => (read_last hS1i.out p).symm
      have hWb : ∀ i, 0 ≤ WAS i ∧ WAS i < 256 := by rw [← hWAS.out]; exact fun i => hd3.ok.read i
      rw [hWAS.out] at hB3
      clear hdq hb hx2 hb2
      go_loopw [11] (fun i wr => ∃ (q : Nat) (S : Dsk), q ≤ len1 ∧ i = .int .i64 (q : Int) ∧ DiskAt wr g lb gm S ∧ P40 S ∧ S.last = S1.last ∧ (∀ s, S.is s = true → ∃ j, j < q ∧ Tch (X1 j) s) ∧ BlockIs wr z1 2560 WAS ∧ Bw w wr) (fun i _ => len1 - (intOf i).toNat)
      case atStart => exact ⟨0, S1, Nat.zero_le _, rfl, hd3, hpS, rfl, (fun s h => by rw [hS1i.out s] at h; cases h), hB3, hb3⟩
      case round =>
        obtain ⟨p, S2, hp2, rfl, hdp, hp4, hla, hto, hBz, hb⟩ := hrel
        have p0 : (0 : Int) ≤ (p : Int) := Int.natCast_nonneg _
        have Hto : Hid (∀ s, S2.is s = true → ∃ j, j < p ∧ Tch (X1 j) s) := hto
        clear hd3 hb3 hB3 hto
        by_cases hlt1 : p < len1
        · have p1 : (p : Int) < (len1 : Int) := by omega
          obtain ⟨b, off, rfl, hcw⟩ := (HB.out.keep hb).cell hlt1
          have c0 := hcw 0 _ rfl
          rw [Nat.add_zero] at c0
          have Hx := HB.out.acts p hlt1
          obtain ⟨x, hx⟩ : ∃ x, Hid (X1 p = x) := ⟨_, rfl⟩
          rw [hx.out] at c0 Hx
          have hfin : Hid (∀ W' S', DiskAt W' g lb gm S' → P40 S' → S'.last = S1.last → (∀ s, S'.is s = true → ∃ j, j < p + 1 ∧ Tch (X1 j) s) → BlockIs W' z1 2560 WAS → Bw w W' → (∃ (q' : Nat) (S : Dsk), q' ≤ len1 ∧ Value.int .i64 ((p : Int) + 1) = .int .i64 (q' : Int) ∧ DiskAt W' g lb gm S ∧ P40 S ∧ S.last = S1.last ∧ (∀ s, S.is s = true → ∃ j, j < q' ∧ Tch (X1 j) s) ∧ BlockIs W' z1 2560 WAS ∧ Bw w W') ∧ len1 - (intOf (.int .i64 ((p : Int) + 1))).toNat < len1 - (intOf (.int .i64 (p : Int))).toNat) := fun W' S' h1 h2 h3 h4 h5 h6 => ⟨⟨p + 1, S', hlt1, rfl, h1, h2, h3, h4, h5, h6⟩, by simp only [intOf]; omega⟩
          have Hc : Hid (∀ W', Bw w W' → W'.cell? ⟨b, off + p * 6 + 1, none⟩ = some (.int .i64 x.at_) ∧ W'.cell? ⟨b, off + p * 6 + 3, none⟩ = some (.slice x.B x.L x.C)) := fun W' k => by
            obtain ⟨b', off', e, hc'⟩ := (HB.out.keep k).cell hlt1
            cases e
            have d1 := hc' 1 _ rfl
            have d3 := hc' 3 _ rfl
            rw [hx.out] at d1 d3
            exact ⟨d1, d3⟩
          have Hto' : Hid (∀ s, S2.is s = true → ∃ j, j < p + 1 ∧ Tch (X1 j) s) := fun s h => by
            obtain ⟨j, h1, h2⟩ := Hto.out s h
            exact ⟨j, by omega, h2⟩
          clear hcw
          obtain ⟨dx, hdx⟩ : ∃ d, Hid (x.do_ = d) := ⟨_, rfl⟩
          rw [hdx.out] at c0
          by_cases hd0 : dx = 0
          · subst hd0
            have bwd : Bw w wr.drew := hb.trans ((Bw.refl _).drew)
            have hcd := Hc.out _ bwd
            have HWr := write_any (hdp.keep ((Bw.refl _).drew)) x.at_ (by have := Hx.ab.2; omega) x.B x.L x.C x.f (by have := Hx.row.le; have := Hx.row.room; omega) (Hx.row.row.keep bwd) (fun b o e h0 hin => by
              have h1 := hge b hin
              have h2 := Hx.row.row
              rw [e] at h2
              have := h2.lt (k := 0) h0
              omega) Hx.row.le
            obtain ⟨hp', -, hla', hto'⟩ := p40_wrote hp4 x.at_ x.L x.f
            have Hto2 : Hid (∀ s, (S2.wrote x.at_ x.L x.f).2.is s = true → ∃ j, j < p + 1 ∧ Tch (X1 j) s) := fun s h => by
              rcases hto' s h with h1 | h1
              · exact Hto'.out s h1
              · exact ⟨p, Nat.lt_succ_self _, by rw [hx.out]; exact ⟨hdx.out, h1⟩⟩
            obtain ⟨S', hS'⟩ : ∃ S', Hid ((S2.wrote x.at_ x.L x.f).2 = S') := ⟨_, rfl⟩
            rw [hS'.out] at HWr hp' hla' Hto2
            clear Hx hto'
            go_wp2
            go_region_held3 (fun w' => w'.cell? ⟨b, off + p * 6 + 1, none⟩ = some (.int .i64 x.at_) ∧ w'.cell? ⟨b, off + p * 6 + 3, none⟩ = some (.slice x.B x.L x.C)) (first | exact hcd | exact hcd2) (first | (go_at_call 22; refine HWr.mono ?_; rintro e w2 ⟨rfl, hd2, hx2⟩; have hb2 : Bw w w2 := Below.trans bwd (hx2.below bwd.size hge); have hcd2 := Hc.out _ hb2))
            go_wp2
            exact hfin.out _ _ hd2 hp' (hla'.trans hla) Hto2.out (BlkT.keepx (t := 5) (hBz.keep ((Bw.refl _).drew)) hx2 hz1d) hb2
          · have e0 : (dx == 0) = false := by rw [beq_eq_false_iff_ne]; exact hd0
            clear Hx
            by_cases hd4 : dx = 4
            · subst hd4
              go_wp2_with (go_at_call 20; refine (kill_any hdp).mono ?_; rintro e w2 ⟨rfl, hd2, hx2⟩)
              exact hfin.out _ _ hd2 ⟨hp4.n, rfl⟩ hla Hto'.out (BlkT.keepx (t := 5) hBz hx2 (fun e => hz1d (dIn_g e))) (Below.trans hb (hx2.below hb.size (fun b e => hge b (dIn_g e))))
            · have e4 : (dx == 4) = false := by rw [beq_eq_false_iff_ne]; exact hd4
              go_wp2
              exact hfin.out _ _ hdp hp4 hla Hto'.out hBz hb
        · have p1 : ¬ (p : Int) < (len1 : Int) := by omega
          obtain rfl : p = len1 := by omega
          have HRs := restart_any hdp a2 len2 cap2 f2 (by omega) (HI.out.row.keep hb) (fun b o e h0 hin => by
            have h1 := hge b hin
            have h2 := HI.out.row
            rw [e] at h2
            have := ints_lt h2 h0
            omega)
          obtain ⟨S3, hS3⟩ : ∃ S', Hid (S2.again f2 len2 = S') := ⟨_, rfl⟩
          have hp3 : P40 S3 := by rw [← hS3.out]; exact ⟨hp4.n, rfl⟩
          have hd3 : S3.dead = false := by rw [← hS3.out]; rfl
          obtain ⟨OUT, hOUT⟩ : ∃ f, Hid (S3.read = f) := ⟨_, rfl⟩
          have HTs : Hid (∀ s, s < 40 → (∀ i, i < p → ¬ Tch (X1 i) s) → ∀ c, c < 64 → OUT (64 * s + c) = WAS (64 * s + c)) := fun s hs hn c hc => by
            rw [← hOUT.out, ← hS3.out, again_at f2 len2 s c hc, if_neg (fun e => by
              obtain ⟨j, h1, h2⟩ := Hto.out s e.1
              exact hn j h1 h2), hla]
            exact HL1.out _
          have HXs : Hid (∀ k c, c < 64 → OUT (64 * k + c) ≠ S2.read (64 * k + c) → ∀ c', c ≤ c' → c' < 64 → OUT (64 * k + c') = WAS (64 * k + c')) := fun k c hc hne c' h1 h2 => by
            rw [← hOUT.out, ← hS3.out, again_at f2 len2 k c hc, read_at k c hc] at hne
            rw [← hOUT.out, ← hS3.out, again_at f2 len2 k c' h2, if_neg (fun e => hne (by rw [if_pos ⟨e.1, by omega⟩, if_pos e.1])), hla]
            exact HL1.out _
          rw [hS3.out] at HRs
          have hdeadS := dead_any hdp
          cases hdd : S2.dead
          · rw [hdd] at hdeadS
            replace HRs : Hid (∀ W, Bw wr W → Calls Try.prog 17 #[.pointer (some ⟨g, 0, none⟩), .slice a2 len2 cap2] W fun e w' => e = .returned (.tuple #[]) ∧ DiskAt w' g lb gm S3 ∧ Bx (dIn g lb gm) W w') := fun W kW => by
              have h1 := restart_any (hdp.keep kW) a2 len2 cap2 f2 (by omega) (HI.out.row.keep (hb.trans kW)) (fun b o e h0 hin => by
                have h1 := hge b hin
                have h2 := HI.out.row
                rw [e] at h2
                have := ints_lt h2 h0
                omega)
              rwa [hS3.out] at h1
            have tok1 : Hid (w = w) := rfl
            go_wp2_with (first
              | (go_at_call 13; clear tok1; refine hdeadS.mono ?_; rintro e w6 ⟨rfl, hw⟩; obtain rfl := hw.symm; have tok2 : Hid (w = w) := rfl)
              | (go_at_call 21; clear tok2; refine (p40_read hdp hp4 hdd).mono ?_; rintro e w3 ⟨z3, rfl, hz3, hB3, hbw3⟩; have hl3 : Hid (¬ dIn g lb gm z3) := (fun h => absurd (hdp.low _ h) (Nat.not_lt.2 hz3)); replace hdp := hdp.keep hbw3; replace hb := hb.trans hbw3; replace hBz := BlkT.keep (t := 5) hBz hbw3; replace hdeadS := dead_any hdp; rw [hdd] at hdeadS; have tok3 : Hid (w = w) := rfl)
              | (go_at_call 13; clear tok3; refine hdeadS.mono ?_; rintro e w6 ⟨rfl, hw⟩; obtain rfl := hw.symm; have tok4 : Hid (w = w) := rfl)
              | (go_at_call 17; clear tok4; refine (HRs.out _ hbw3).mono ?_; rintro e w4 ⟨rfl, hd4, hx4⟩; clear HRs; have hb4 : Bw w w4 := Below.trans hb (hx4.below hb.size hge); have hB4 := BlkT.keepx (t := 5) hBz hx4 hz1d; have hN4 := BlkT.keepx (t := 5) hB3 hx4 hl3.out; have tok5 : Hid (w = w) := rfl)
              | (go_at_call 21; clear tok5; refine (p40_read hd4 hp3 hd3).mono ?_; rintro e w5 ⟨z5, rfl, hz5, hB5, hbw5⟩; rw [hOUT.out] at hB5; have hd5 := hd4.keep hbw5; have hb5 := hb4.trans hbw5; have hBz5 := BlkT.keep hB4 hbw5; have hN5 := BlkT.keep hN4 hbw5; have tok6 : Hid (w = w) := rfl)
              | (go_at_call 13; clear tok6; refine (dead_any hd5).mono ?_; rintro e w6 ⟨rfl, hw⟩; obtain rfl := hw.symm; rw [hd3]))
            have hOb : ∀ i, 0 ≤ OUT i ∧ OUT i < 256 := by rw [← hOUT.out]; exact fun i => hd5.ok.read i
            obtain ⟨NOW, hNOW⟩ : ∃ f, Hid (S2.read = f) := ⟨_, rfl⟩
            rw [hNOW.out] at hN5 HXs
            clear hdeadS hx4 hB4 hN4 hd4 hB3 hbw3 hBz hbw5 hb4 hd5 hdp
            go_loopw [16] (fun i wy => ∃ k : Nat, k ≤ 40 ∧ i = .int .i64 (k : Int) ∧ Bw w5 wy) (fun i _ => 40 - (intOf i).toNat)
            case atStart => exact ⟨0, Nat.zero_le _, rfl, Bw.refl _⟩
            case round =>
              obtain ⟨k, hk, rfl, hbk⟩ := hrel
              have k0 : (0 : Int) ≤ (k : Int) := Int.natCast_nonneg _
              by_cases hlt40 : k < 40
              · have k1 : (k : Int) < 40 := by omega
                obtain ⟨u, hu⟩ : ∃ u, Hid (u = k * 64) := ⟨_, rfl⟩
                have u1 : IntKind.i64.wrap ((k : Int) * 64) = (u : Int) := by rw [hu.out, IntKind.wrap_i64]; omega
                have hfin : Hid (∀ W', Bw w5 W' → (∃ k' : Nat, k' ≤ 40 ∧ Value.int .i64 ((k : Int) + 1) = .int .i64 (k' : Int) ∧ Bw w5 W') ∧ 40 - (intOf (.int .i64 ((k : Int) + 1))).toNat < 40 - (intOf (.int .i64 (k : Int))).toNat) := fun W' h => ⟨⟨k + 1, hlt40, rfl, h⟩, by simp only [intOf]; omega⟩
                go_wp2
                go_loopw [17] (fun i wy => ∃ c : Nat, c ≤ 64 ∧ i = .int .i64 (c : Int) ∧ Bw w5 wy) (fun i _ => 64 - (intOf i).toNat)
                case atStart => exact ⟨0, Nat.zero_le _, rfl, hbk⟩
                case round =>
                  obtain ⟨c, hc64, rfl, hbc⟩ := hrel
                  have c0 : (0 : Int) ≤ (c : Int) := Int.natCast_nonneg _
                  have bwd : Bw w5 wr.drew := hbc.trans ((Bw.refl _).drew)
                  by_cases hcl : c < 64
                  · have c1 : (c : Int) < 64 := by omega
                    obtain ⟨v, hv⟩ : ∃ v, Hid (v = u + c) := ⟨_, rfl⟩
                    have v1 : IntKind.i64.wrap ((u : Int) + (c : Int)) = (v : Int) := by have := hu.out; rw [hv.out, IntKind.wrap_i64]; omega
                    have v2 : (v : Int) < 2560 := by have := hu.out; have := hv.out; omega
                    have v3 : (0 : Int) ≤ (v : Int) := Int.natCast_nonneg _
                    have co := ((hB5.keep bwd).cell (c := v) (by omega)).1
                    have cn := ((BlkT.keep hN5 bwd).cell (c := v) (by omega)).1
                    obtain ⟨o, ho⟩ : ∃ o, Hid (OUT v = o) := ⟨_, rfl⟩
                    obtain ⟨m, hm⟩ : ∃ o, Hid (NOW v = o) := ⟨_, rfl⟩
                    rw [ho.out] at co
                    rw [hm.out] at cn
                    by_cases heq : o = m
                    · subst heq
                      have hfin1 : Hid ((∃ c' : Nat, c' ≤ 64 ∧ Value.int .i64 ((c : Int) + 1) = .int .i64 (c' : Int) ∧ Bw w5 wr.drew) ∧ 64 - (intOf (.int .i64 ((c : Int) + 1))).toNat < 64 - (intOf (.int .i64 (c : Int))).toNat) := ⟨⟨c + 1, hcl, rfl, bwd⟩, by simp only [intOf]; omega⟩
                      go_wp2
                      go_region
                      go_wp2
                      exact hfin1.out
                    · have hne : (o == m) = false := by rw [beq_eq_false_iff_ne]; exact heq
                      have HM : Hid (∀ c', c ≤ c' → c' < 64 → OUT (64 * k + c') = WAS (64 * k + c')) := HXs.out k c hcl (by
                        rw [show 64 * k + c = v by have := hv.out; have := hu.out; omega, ho.out, hm.out]; exact heq)
                      clear heq
                      go_wp2
                      go_region
                      go_wp2
                      go_loopw [17] (fun i wy => ∃ c : Nat, c ≤ 64 ∧ i = .int .i64 (c : Int) ∧ (∀ c', c ≤ c' → c' < 64 → OUT (64 * k + c') = WAS (64 * k + c')) ∧ Bw w5 wy) (fun i _ => 64 - (intOf i).toNat)
                      case atStart => exact ⟨c, by omega, rfl, HM.out, bwd⟩
                      case round =>
                        obtain ⟨d, hd64, rfl, hdw, hbd⟩ := hrel
                        have Hdw : Hid (∀ c', d ≤ c' → c' < 64 → OUT (64 * k + c') = WAS (64 * k + c')) := hdw
                        clear hdw
                        have d0 : (0 : Int) ≤ (d : Int) := Int.natCast_nonneg _
                        by_cases hdl : d < 64
                        · have d1 : (d : Int) < 64 := by omega
                          obtain ⟨y, hy⟩ : ∃ y, Hid (y = u + d) := ⟨_, rfl⟩
                          have y1 : IntKind.i64.wrap ((u : Int) + (d : Int)) = (y : Int) := by have := hu.out; rw [hy.out, IntKind.wrap_i64]; omega
                          have y2 : (y : Int) < 2560 := by have := hu.out; have := hy.out; omega
                          have y3 : (0 : Int) ≤ (y : Int) := Int.natCast_nonneg _
                          have bwd : Bw w5 wr.drew := hbd.trans ((Bw.refl _).drew)
                          have co := ((hB5.keep bwd).cell (c := y) (by omega)).1
                          have cw := ((BlkT.keep hBz5 bwd).cell (c := y) (by omega)).1
                          rw [show OUT y = WAS y by rw [hy.out, hu.out, show k * 64 + d = 64 * k + d by omega]; exact Hdw.out d (Nat.le_refl _) hdl] at co
                          have hfin2 : Hid ((∃ c' : Nat, c' ≤ 64 ∧ Value.int .i64 ((d : Int) + 1) = .int .i64 (c' : Int) ∧ (∀ c'', c' ≤ c'' → c'' < 64 → OUT (64 * k + c'') = WAS (64 * k + c'')) ∧ Bw w5 wr.drew) ∧ 64 - (intOf (.int .i64 ((d : Int) + 1))).toNat < 64 - (intOf (.int .i64 (d : Int))).toNat) := ⟨⟨d + 1, hdl, rfl, fun c'' h1 h2 => Hdw.out c'' (by omega) h2, bwd⟩, by simp only [intOf]; omega⟩
                          go_wp2
                          go_region
                          go_wp2
                          exact hfin2.out
                        · have d1 : ¬ (d : Int) < 64 := by omega
                          go_wp2
                          exact hfin.out _ hbd
                  · obtain rfl : c = 64 := by omega
                    clear hcl
                    go_wp2
                    go_region
                    go_wp2
                    go_loopw [17] (fun i wy => ∃ c : Nat, c ≤ 64 ∧ i = .int .i64 (c : Int) ∧ (∀ c', c ≤ c' → c' < 64 → OUT (64 * k + c') = WAS (64 * k + c')) ∧ Bw w5 wy) (fun i _ => 64 - (intOf i).toNat)
                    case atStart => exact ⟨64, Nat.le_refl _, rfl, (fun c' h1 h2 => by omega), bwd⟩
                    case round =>
                      obtain ⟨d, hd64, rfl, hdw, hbd⟩ := hrel
                      have Hdw : Hid (∀ c', d ≤ c' → c' < 64 → OUT (64 * k + c') = WAS (64 * k + c')) := hdw
                      clear hdw
                      have d0 : (0 : Int) ≤ (d : Int) := Int.natCast_nonneg _
                      by_cases hdl : d < 64
                      · have d1 : (d : Int) < 64 := by omega
                        obtain ⟨y, hy⟩ : ∃ y, Hid (y = u + d) := ⟨_, rfl⟩
                        have y1 : IntKind.i64.wrap ((u : Int) + (d : Int)) = (y : Int) := by have := hu.out; rw [hy.out, IntKind.wrap_i64]; omega
                        have y2 : (y : Int) < 2560 := by have := hu.out; have := hy.out; omega
                        have y3 : (0 : Int) ≤ (y : Int) := Int.natCast_nonneg _
                        have bwd : Bw w5 wr.drew := hbd.trans ((Bw.refl _).drew)
                        have co := ((hB5.keep bwd).cell (c := y) (by omega)).1
                        have cw := ((BlkT.keep hBz5 bwd).cell (c := y) (by omega)).1
                        rw [show OUT y = WAS y by rw [hy.out, hu.out, show k * 64 + d = 64 * k + d by omega]; exact Hdw.out d (Nat.le_refl _) hdl] at co
                        have hfin2 : Hid ((∃ c' : Nat, c' ≤ 64 ∧ Value.int .i64 ((d : Int) + 1) = .int .i64 (c' : Int) ∧ (∀ c'', c' ≤ c'' → c'' < 64 → OUT (64 * k + c'') = WAS (64 * k + c'')) ∧ Bw w5 wr.drew) ∧ 64 - (intOf (.int .i64 ((d : Int) + 1))).toNat < 64 - (intOf (.int .i64 (d : Int))).toNat) := ⟨⟨d + 1, hdl, rfl, fun c'' h1 h2 => Hdw.out c'' (by omega) h2, bwd⟩, by simp only [intOf]; omega⟩
                        go_wp2
                        go_region
                        go_wp2
                        exact hfin2.out
                      · have d1 : ¬ (d : Int) < 64 := by omega
                        go_wp2
                        exact hfin.out _ hbd
              · have k1 : ¬ (k : Int) < 40 := by omega
                have hb6 := hb5.trans hbk
                have HSt := stays_any (HB.out.keep hb6) z1 z5 WAS OUT (BlkT.keep hBz5 hbk) (hB5.keep hbk) hWb hOb HTs.out
                go_wp2_with (first
                  | (go_at_call 25; refine HSt.mono ?_; rintro e w7 ⟨rfl, hw7⟩)
                  | (go_at_call 9; refine (wakes14_any _).mono ?_; rintro e w8 ⟨rfl, hw8⟩))
                go_ret
                exact ⟨rfl, (hb6.trans hw7).trans hw8⟩
          · rw [hdd] at hdeadS
            have tok1 : Hid (w = w) := rfl
            go_wp2_with (first
              | (go_at_call 17; refine HRs.mono ?_; rintro e w4 ⟨rfl, hd4, hx4⟩; clear HRs tok1; have hb4 : Bw w w4 := Below.trans hb (hx4.below hb.size hge); have hB4 := BlkT.keepx (t := 5) hBz hx4 hz1d; have tok2 : Hid (w = w) := rfl)
              | (go_at_call 21; refine (p40_read hd4 hp3 hd3).mono ?_; rintro e w5 ⟨z5, rfl, hz5, hB5, hbw5⟩; rw [hOUT.out] at hB5; have hd5 := hd4.keep hbw5; have hb5 := hb4.trans hbw5; have hBz5 := BlkT.keep hB4 hbw5)
              | (go_at_call 13; have ht1 := tok1; refine hdeadS.mono ?_; rintro e w6 ⟨rfl, hw⟩; obtain rfl := hw.symm)
              | (go_at_call 13; have ht1 := tok2; refine (dead_any hd5).mono ?_; rintro e w6 ⟨rfl, hw⟩; obtain rfl := hw.symm; rw [hd3]))
            have hOb : ∀ i, 0 ≤ OUT i ∧ OUT i < 256 := by rw [← hOUT.out]; exact fun i => hd5.ok.read i
            go_loopw [16] (fun i wy => i = .int .i64 0 ∧ wy = w5) (fun _ _ => 0)
            case atStart => exact ⟨rfl, rfl⟩
            case round =>
              obtain ⟨rfl, hwx⟩ := hrel
              obtain rfl := hwx.symm
              have hb6 := hb5
              have HSt := stays_any (HB.out.keep hb6) z1 z5 WAS OUT hBz5 hB5 hWb hOb HTs.out
              go_wp2_with (first
                | (go_at_call 25; refine HSt.mono ?_; rintro e w7 ⟨rfl, hw7⟩)
                | (go_at_call 9; refine (wakes14_any _).mono ?_; rintro e w8 ⟨rfl, hw8⟩))
              go_ret
              exact ⟨rfl, (hb6.trans hw7).trans hw8⟩

set_option maxRecDepth 100000 in
theorem lifted (os : Os) (started : os.Started) (H : Type) (enc : TypeId × Value → H) :
    ReturnsInHanded {} Try.checked os 5 .any (Rows.diskLastsSpec.pre6 enc Try.prog Try.f5 Rows.diskLastsRow.domain false) (Rows.diskLastsSpec.post enc Try.prog Try.f5 false true false false) := by
  refine returnsInHanded_of_change_sized (C := Try.checked) own started (by kernel_rfl) Try.func5
    (ChangeSpec.witness6 (enc := enc) (C := Try.checked) false ⟨#[], #[.slice none 0 0, .slice none 0 0, .slice none 0 0], []⟩ 8 (by kernel_rfl) (by kernel_rfl) (by kernel_rfl) (by kernel_rfl)) ?_
  intro W base args ds gs before hval0 hW hcnd hsz0 _
  have hval : ∀ (j : Nat) t v, Try.f5.params[j]? = some t → args[j]? = some v → Value.okWide Try.prog W .any base t v := hval0
  have hW' := hW
  obtain ⟨p, q, hA0, hV, rfl, hfz, hnd⟩ := hW
  have hA : DataW.TrodAll enc Try.prog W 0 (fun _ => true) true Try.f5.params.toList args.toList ds p := hA0
  have hsz : (DataW.weightsEach Try.prog (Try.f5.params.toList ++ Rows.diskLastsSpec.plain.varTypes Try.prog) (ds ++ gs)).all (· ≤ reachBytes) = true := hsz0
  rw [Try.params5] at hA hval hsz
  obtain ⟨v0, vs0, d0, ds0, p0, q0, hargs, rfl, rfl, h0, r0⟩ := trodAll_cons hA
  obtain ⟨v1, vs1, d1, ds1, p1, q1, rfl, rfl, rfl, h1, r1⟩ := trodAll_cons r0
  obtain ⟨v2, vs2, d2, ds2, p2, q2, rfl, rfl, rfl, h2, r2⟩ := trodAll_cons r1
  obtain ⟨rfl, rfl, rfl⟩ := trodAll_nil r2
  obtain rfl : args = #[v0, v1, v2] := by cases args; simp_all
  obtain ⟨rfl, rfl⟩ := trodVars_none hV
  obtain ⟨a0, len0, cap0, rfl⟩ := okWide_slice Try.underlying22 (hval 0 22 v0 rfl rfl)
  have k0 := h0
  have lt0 : ∀ x ∈ p0, x.block < W.heap.size := by obtain ⟨m, hm⟩ := k0; exact DataW.trod_lt m _ _ _ hm
  obtain ⟨X0, w0⟩ := open_acts h0 (fun x hx => by simpa using List.all_eq_true.1 hsz x (DataW.weights_mem_each (j := 0) (t := 22) rfl rfl x hx))
  obtain ⟨a1, len1, cap1, rfl⟩ := okWide_slice Try.underlying22 (hval 1 22 v1 rfl rfl)
  have k1 := h1
  have lt1 : ∀ x ∈ p1, x.block < W.heap.size := by obtain ⟨m, hm⟩ := k1; exact DataW.trod_lt m _ _ _ hm
  obtain ⟨X1, w1⟩ := open_acts h1 (fun x hx => by simpa using List.all_eq_true.1 hsz x (DataW.weights_mem_each (j := 1) (t := 22) rfl rfl x hx))
  obtain ⟨a2, len2, cap2, rfl⟩ := okWide_slice Try.underlying34 (hval 2 34 v2 rfl rfl)
  have k2 := h2
  have lt2 : ∀ x ∈ p2, x.block < W.heap.size := by obtain ⟨m, hm⟩ := k2; exact DataW.trod_lt m _ _ _ hm
  obtain ⟨f2, w2⟩ := open_introw h2 (fun x hx => by simpa using List.all_eq_true.1 hsz x (DataW.weights_mem_each (j := 2) (t := 34) rfl rfl x hx))
  clear hA0 hval0
  refine (walk a0 len0 cap0 X0 a1 len1 cap1 X1 a2 len2 cap2 f2 W w0 w1 w2).mono fun e W' ⟨he, bel⟩ => ?_
  subst he
  exact ⟨_, rfl, _, _, _, [], _, [], hW', trodAll_mk1 (shut_bool Try.underlying4 _), (trodAll_cons_mk (Below.trod laidOut (by kernel_rfl) (of_decide_eq_true (by kernel_rfl)) k0 bel lt0) (trodAll_cons_mk (Below.trod laidOut (by kernel_rfl) (of_decide_eq_true (by kernel_rfl)) k1 bel lt1) (trodAll_cons_mk (Below.trod laidOut (by kernel_rfl) (of_decide_eq_true (by kernel_rfl)) k2 bel lt2) trodAll_mk0))), rfl, bel.frame _, fun h => by cases h⟩

theorem over : Rows.diskLastsRow.holds Try.pinned (OpenSpec.ofChange Rows.diskLastsSpec) :=
  OpenClaim.holds_of_wide 5 Try.f5 rfl rfl rfl rfl rfl rfl rfl ⟨rfl, rfl, rfl, rfl, rfl⟩ rfl rfl rfl rfl rfl (by kernel_rfl) Try.func5 (by kernel_rfl)
    (of_decide_eq_true (by kernel_rfl)) (by unfold Func.isWrapper; first | (rw [if_pos (by decide +kernel)]; kernel_rfl) | (rw [if_neg (by decide +kernel)]; exact ⟨rfl, rfl⟩))
    (fun os started H enc _ => lifted os started H enc)

theorem proved : Rows.DiskLastsSaid := over
#print axioms proved
end Go.Proofs.Ytmmpignjihbbpaa.diskLasts
