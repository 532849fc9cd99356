/- Layer 15: what the rounds of JournalBack keep. -/
import Derived.Test.YtppknadflmjefaaWV
import Derived.Maps.AppendAt
import Derived.Laws.AppendOwnNone
namespace Go.Proofs.Ytppknadflmjefaa
open Go.RowKit Go.Deep Go.Maps
set_option linter.unusedVariables false
set_option linter.unusedSimpArgs false

namespace Jl
/-- an Add on a disk without a fuse, where there is room -/
theorem add_all {J : Jn} {S : Dsk} {l : List (List Nat)} (h : Inv J S) (nb : J.h.n + 1 < 1000000) (hb : ∀ r ∈ l, Byt r) (h65 : ∀ r ∈ l, r.length ≤ 65535) (hf : S.fuse = -1) (hsz : (packed l).length ≤ room J.rc - J.h.len) :
    ∃ S' J', add J S l = (0, S', J') ∧ Inv J' S' ∧ J'.L = J.L ++ l ∧ J'.r0 = J.r0 ∧ J'.rc = J.rc ∧ J'.h.n ≤ J.h.n + 1 ∧ S'.fuse = -1 ∧ S'.n = S.n := by
  have hlong : long l = false := by
    cases e : long l with
    | false => rfl
    | true =>
      obtain ⟨r, hr, hl⟩ := (long_iff l).1 e
      have := h65 r hr
      omega
  have hm : may J l (room J.rc - J.h.len) = 0 := by
    unfold may
    rw [h.dead, if_neg (by decide), hlong, if_neg (by decide), if_neg (by omega)]
  have hlen := h.len
  unfold add
  rw [hm, if_neg (by decide)]
  by_cases h0 : l.length = 0
  · rw [if_pos h0]
    obtain rfl : l = [] := List.length_eq_zero_iff.1 h0
    exact ⟨S, J, rfl, h, (List.append_nil _).symm, rfl, rfl, Nat.le_succ _, hf, rfl⟩
  · rw [if_neg h0]
    have hp : PutEnds J S (next J J.h.area J.h.len (packed l)) (J.L ++ l) (put J S (packed l) J.h.area J.h.len) := put_inv h nb h.area (by omega) (packed_byt l hb h65) (.inl ⟨rfl, Nat.le_refl _⟩) (fun r hr => by
      rcases List.mem_append.1 hr with hr | hr
      · exact h.lens r hr
      · exact h65 r hr) (by rw [h.dat, packed_append])
    have en := next_n (J := J) (area := J.h.area) (at_ := J.h.len) (B := packed l)
    rcases hp with ⟨h1, h2, h3, h4, h5, h6⟩ | ⟨h1, h2, h3, h4⟩
    · refine ⟨_, ⟨J.r0, J.rc, next J J.h.area J.h.len (packed l), J.L ++ l, false⟩, ?_, h2, rfl, rfl, rfl, en, h4 hf, h5⟩
      unfold withL
      rw [h1, h3]
      have := h.dead
      simp [this]
    · exact absurd hf h2
/-- .. and where there is none -/
theorem add_full {J : Jn} {S : Dsk} {l : List (List Nat)} (h : Inv J S) (h65 : ∀ r ∈ l, r.length ≤ 65535) (hsz : room J.rc - J.h.len < (packed l).length) : add J S l = (3, S, J) := by
  have hlong : long l = false := by
    cases e : long l with
    | false => rfl
    | true =>
      obtain ⟨r, hr, hl⟩ := (long_iff l).1 e
      have := h65 r hr
      omega
  have hm : may J l (room J.rc - J.h.len) = 3 := by
    unfold may
    rw [h.dead, if_neg (by decide), hlong, if_neg (by decide), if_pos hsz]
  unfold add
  rw [hm, if_pos (by decide)]
end Jl
theorem JrAt.sharp {w : World} {base gj g : Nat} {R : Nat → Prop} {v : Value} {J : Jl.Jn} (h : JrAt w base gj g R v J) : JrAt w base gj g (fun b => R b ∧ b < w.heap.size) v J := by
  obtain ⟨vs, k1, k2, k3⟩ := h.recs
  refine ⟨h.cells, ⟨vs, k1, k2, ?_, k3.2⟩, h.ge, h.ok⟩
  intro u hu b o n c e h0
  exact ⟨k3.1 u hu b o n c e h0, k2.low u hu b o n c e h0⟩
/-- what a round finds, and leaves; M : the records that the statement keeps -/
structure BkI (w wr : World) (B z g lb gm i : Nat) (S : Dsk) (J : Jl.Jn) (gj : Nat) (R : Nat → Prop) (v va : Value) (M : List (List Nat)) : Prop where
  d : DiskAt wr g lb gm S
  j : JrAt wr B gj g R v J
  wB : w.heap.size ≤ B
  sep : ∀ b, R b → ¬ dIn g lb gm b
  inv : Jl.Inv J S
  r0 : J.r0 = 0
  rc : J.rc = 300
  n : J.h.n ≤ i
  sn : S.n = 300
  fuse : S.fuse = -1
  bw : Bw w wr
  dge : ∀ b, dIn g lb gm b → w.heap.size ≤ b
  zc : wr.heap[z]? = some (.cells #[.int .i64 0, .int .i64 300] 23 (0, 0))
  zd : ¬ dIn g lb gm z
  zb : z < B
  all : ∃ us, wr.ownsRow B 37 1 va M.length us ∧ RowsV wr us M ∧ RIn (fun b => b < w.heap.size) us
  sepA : ∀ b, va.ownBlock = some b → ¬ (dIn g lb gm b ∨ jIn gj v b)
  sepR : ∀ b, va.ownBlock = some b → ¬ R b
theorem BkI.keep {w wr W : World} {B z g lb gm i : Nat} {S : Dsk} {J : Jl.Jn} {gj : Nat} {R : Nat → Prop} {v va : Value} {M : List (List Nat)} (h : BkI w wr B z g lb gm i S J gj R v va M) (k : Bw wr W) : BkI w W B z g lb gm i S J gj R v va M := by
  obtain ⟨us, h1, h2, h3⟩ := h.all
  exact ⟨h.d.keep k, h.j.keep k, h.wB, h.sep, h.inv, h.r0, h.rc, h.n, h.sn, h.fuse, h.bw.trans k, h.dge, (k.block z (Array.getElem?_eq_some_iff.1 h.zc).1).trans h.zc, h.zd, h.zb, ⟨us, own_keep h1 k, h2.keep k, h3⟩, h.sepA, h.sepR⟩
theorem BkI.next {w wr : World} {B z g lb gm i : Nat} {S : Dsk} {J : Jl.Jn} {gj : Nat} {R : Nat → Prop} {v va : Value} {M : List (List Nat)} (h : BkI w wr B z g lb gm i S J gj R v va M) : BkI w wr B z g lb gm (i + 1) S J gj R v va M :=
  ⟨h.d, h.j, h.wB, h.sep, h.inv, h.r0, h.rc, Nat.le_succ_of_le h.n, h.sn, h.fuse, h.bw, h.dge, h.zc, h.zd, h.zb, h.all, h.sepA, h.sepR⟩
/-- what the rounds know: hidden names -/
def Bk (w : World) (z g gj i : Nat) (L : List (List Nat)) (va : Value) (M : List (List Nat)) (wr : World) : Prop := ∃ B lb gm S J R v, BkI w wr B z g lb gm i S J gj R v va M ∧ J.L = L
theorem Bk.keep {w wr W : World} {z g gj i : Nat} {L : List (List Nat)} {va : Value} {M : List (List Nat)} (h : Bk w z g gj i L va M wr) (k : Bw wr W) : Bk w z g gj i L va M W := by
  obtain ⟨B, lb, gm, S, J, R, v, h, e⟩ := h
  exact ⟨B, lb, gm, S, J, R, v, h.keep k, e⟩
theorem Bk.bw {w wr : World} {z g gj i : Nat} {L : List (List Nat)} {va : Value} {M : List (List Nat)} (h : Bk w z g gj i L va M wr) : Bw w wr := by
  obtain ⟨B, lb, gm, S, J, R, v, h, e⟩ := h
  exact h.bw
theorem bk_room {w wr : World} {z g gj i : Nat} {L : List (List Nat)} {va : Value} {M : List (List Nat)} (h : Bk w z g gj i L va M wr) : (Jl.packed L).length ≤ Jl.room 300 ∧ Calls Try.prog 23 #[.pointer (some ⟨gj, 0, none⟩)] wr fun e w' => e = .returned (.int .i64 (((Jl.room 300 - (Jl.packed L).length : Nat)) : Int)) ∧ Bw wr w' := by
  obtain ⟨B, lb, gm, S, J, R, v, h, rfl⟩ := h
  have h1 := jroom_any h.j
  have h2 := h.inv.plen
  have h3 := h.inv.len
  rw [h.rc, ← h2] at h1
  rw [h.rc, ← h2] at h3
  exact ⟨h3, h1⟩
/-- an Add: done, or refused, and nothing turned but what is the journal's -/
theorem bk_add {w wr : World} {z g gj i : Nat} {L : List (List Nat)} {va : Value} {M : List (List Nat)} (h : Bk w z g gj i L va M wr) (hi : i < 100) {A : Option Addr} {n : Nat} (ca : Nat) {vs : List Value} {l : List (List Nat)} (hM : MatV wr A n vs l) (hn : n ≤ 1000000) (hs : (Jl.packed l).length ≤ 1000000) (hlo : ∀ b, ArgIn A n vs b → b < w.heap.size) (hl : ∀ r ∈ l, r.length ≤ 65535) :
    Calls Try.prog 21 #[.pointer (some ⟨gj, 0, none⟩), .slice A n ca] wr fun e w' => (((Jl.packed l).length ≤ Jl.room 300 - (Jl.packed L).length → e = .returned (.int .i64 0) ∧ Bk w z g gj (i + 1) (L ++ l) va M w') ∧ (Jl.room 300 - (Jl.packed L).length < (Jl.packed l).length → e = .returned (.int .i64 3) ∧ Bk w z g gj (i + 1) L va M w')) ∧ MatV w' A n vs l := by
  obtain ⟨B, lb, gm, S, J, R, v, h, rfl⟩ := h
  have hby : ∀ r ∈ l, Jl.Byt r := hM.rows.byt
  have hAr : ∀ b, ArgIn A n vs b → ¬ (dIn g lb gm b ∨ jIn gj v b) := fun b hb hx => by
    have h1 := hlo b hb
    rcases hx with hx | hx
    · have := h.dge b hx; omega
    · have := h.j.jge b hx; have := h.wB; omega
  have hrun := jadd_any h.j h.d h.sep (by rw [h.r0, h.rc, h.sn]; omega) h.inv.few ca hM hn hs hAr
  have hpl := h.inv.plen
  refine hrun.mono ?_
  rintro e w' ⟨v', he, hd, hj, hx, hv⟩
  have hge : ∀ b, (dIn g lb gm b ∨ jIn gj v b) → w.heap.size ≤ b := fun b hb => hb.elim (h.dge b) (fun h' => Nat.le_trans h.wB (h.j.jge b h'))
  have hbw : Bw w w' := Below.trans h.bw (hx.below h.bw.size hge)
  have hMk : MatV w' A n vs l := hM.keepx hx (fun b o e h0 => hAr b (.inl ⟨o, e, h0⟩)) (fun u hu b o m c e h0 => hAr b (.inr ⟨u, hu, o, m, c, e, h0⟩))
  obtain ⟨us, a1, a2, a3⟩ := h.all
  have hall : ∃ us, w'.ownsRow B 37 1 va M.length us ∧ RowsV w' us M ∧ RIn (fun b => b < w.heap.size) us :=
    ⟨us, own_keepx15 a1 hx h.sepA, a2.keepx hx (a3.mono (fun b hb hx => by have := hge b hx; omega)), a3⟩
  have hlt : ∀ b, va.ownBlock = some b → b < wr.heap.size := fun b hb => (a1.lt b hb).2
  have hjs := hj.sharp
  have hzc : w'.heap[z]? = some (.cells #[.int .i64 0, .int .i64 300] 23 (0, 0)) := (hx.block z (Array.getElem?_eq_some_iff.1 h.zc).1 (by
    rintro (e | e)
    · exact h.zd e
    · have := h.j.jge z e; have := h.zb; omega)).trans h.zc
  have hsep : ∀ b, ((R b ∨ wr.heap.size ≤ b) ∧ b < w'.heap.size) → ¬ dIn g lb gm b := fun b hb hi => by
    rcases hb.1 with hb | hb
    · exact h.sep b hb hi
    · have := h.d.low b hi; omega
  have hsepR : ∀ b, va.ownBlock = some b → ¬ ((R b ∨ wr.heap.size ≤ b) ∧ b < w'.heap.size) := fun b hb hr => by
    rcases hr.1 with hr | hr
    · exact h.sepR b hb hr
    · have := hlt b hb; omega
  have hsepA : ∀ b, va.ownBlock = some b → ¬ (dIn g lb gm b ∨ jIn gj v' b) := fun b hb hx => by
    have h1 := h.sepA b hb
    rcases hx with hx | hx | hx
    · exact h1 (.inl hx)
    · exact h1 (.inr (.inl hx))
    · rcases hv b hx with h2 | h2
      · exact h1 (.inr (.inr h2))
      · have := hlt b hb; omega
  refine ⟨⟨fun hsz => ?_, fun hsz => ?_⟩, hMk⟩
  · obtain ⟨S', J', e1, i1, i2, i3, i4, i5, i6, i7⟩ := Jl.add_all h.inv (by have := h.n; omega) hby hl h.fuse (by rw [h.rc, ← hpl]; exact hsz)
    rw [e1] at he hd hjs
    exact ⟨he, B, lb, gm, S', J', _, v', ⟨hd, hjs, h.wB, hsep, i1, i3.trans h.r0, i4.trans h.rc, by have := h.n; omega, i7.trans h.sn, i6, hbw, h.dge, hzc, h.zd, h.zb, hall, hsepA, hsepR⟩, i2⟩
  · have e1 := Jl.add_full (l := l) h.inv hl (by rw [h.rc, ← hpl]; exact hsz)
    rw [e1] at he hd hjs
    exact ⟨he, B, lb, gm, S, J, _, v', ⟨hd, hjs, h.wB, hsep, h.inv, h.r0, h.rc, by have := h.n; omega, h.sn, h.fuse, hbw, h.dge, hzc, h.zd, h.zb, hall, hsepA, hsepR⟩, rfl⟩
/-- the statement's own list, and what is appended to it -/
structure AllI (w wr : World) (B : Nat) (va : Value) (M : List (List Nat)) (us : List Value) : Prop where
  own : wr.ownsRow B 37 1 va M.length us
  rows : RowsV wr us M
  lo : RIn (fun b => b < w.heap.size) us
theorem Bk.all {w wr : World} {z g gj i : Nat} {L : List (List Nat)} {va : Value} {M : List (List Nat)} (h : Bk w z g gj i L va M wr) : ∃ B us, AllI w wr B va M us ∧ B ≤ wr.heap.size ∧ (∀ va' w' (l : List (List Nat)) (ul : List Value), RowsV wr ul l → RIn (fun b => b < w.heap.size) ul → w'.ownsRow B 37 1 va' (M.length + ul.length) (us ++ ul) → wr.grownBy w' va.ownBlock → (va'.ownBlock = va.ownBlock ∨ va'.ownBlock = some wr.heap.size) → Bk w z g gj i L va' (M ++ l) w') := by
  obtain ⟨B, lb, gm, S, J, R, v, h, rfl⟩ := h
  obtain ⟨us, h1, h2, h3⟩ := h.all
  have hBs : B ≤ wr.heap.size := by have := h.j.jge gj (.inl rfl); have := h.j.lt; omega
  refine ⟨B, us, ⟨h1, h2, h3⟩, hBs, fun va' w' l ul l1 l2 ho hg hb => ?_⟩
  have hx := bx_grown hg
  have hge : ∀ b, va.ownBlock = some b → B ≤ b := fun b hb => own_ge h1 b hb
  have hwB := h.wB
  have hRl : JrAt wr B gj g (fun b => R b ∧ b < wr.heap.size) v J := h.j.sharp
  have hjx : JrAt w' B gj g (fun b => R b ∧ b < wr.heap.size) v J := hRl.keepx hx (fun e => h.sepA _ e (.inr (.inl rfl))) (fun b e e' => h.sepA b e' (.inr (.inr e))) (fun b hb e => h.sepR b e hb.1)
  have hdx : DiskAt w' g lb gm S := h.d.keepx hx (fun e => h.sepA _ e (.inl (.inl rfl))) (fun e => h.sepA _ e (.inl (.inr (.inl rfl)))) (fun e => h.sepA _ e (.inl (.inr (.inr rfl))))
  have hzc : w'.heap[z]? = some (.cells #[.int .i64 0, .int .i64 300] 23 (0, 0)) := (hx.block z (Array.getElem?_eq_some_iff.1 h.zc).1 (fun e => by have := hge z e; have := h.zb; omega)).trans h.zc
  have hll : (M ++ l).length = M.length + ul.length := by rw [List.length_append, l1.1]
  refine ⟨B, lb, gm, S, J, _, v, ⟨hdx, hjx, h.wB, fun b hb => h.sep b hb.1, h.inv, h.r0, h.rc, h.n, h.sn, h.fuse, Below.trans h.bw (hx.below h.bw.size (fun b hb => Nat.le_trans hwB (hge b hb))), h.dge, hzc, h.zd, h.zb, ⟨us ++ ul, by rw [hll]; exact ho, ?_, h3.append l2⟩, fun b e => ?_, fun b e hr => ?_⟩, rfl⟩
  · exact (h2.keepx hx (h3.mono (fun b hb e => by have := hge b e; omega))).append (l1.keepx hx (l2.mono (fun b hb e => by have := hge b e; omega)))
  · rcases hb with hb | hb
    · rw [hb] at e; exact h.sepA b e
    · rw [hb] at e
      cases e
      rintro (hx | hx)
      · have := h.d.low _ hx; omega
      · rcases hx with hx | hx
        · have := h.j.lt; omega
        · obtain ⟨vs, k1, _⟩ := h.j.recs
          have := (k1.lt _ hx).2
          omega
  · rcases hb with hb | hb
    · rw [hb] at e; exact h.sepR b e hr.1
    · rw [hb] at e
      cases e
      omega
/-- a list of rows appended to a list of the call's own: where it lies then -/
theorem wpList_append_mat_at {w : World} {ops : Array Oper} {rest : List Oper} {o : Oper} {a : Act} {Q : Exit → Act → World → Prop} (hgd : o.guard = none) (s x : Operand)
    (ho : o.op = .call { callee := .builtin .append, args := #[s, x], argTypes := #[42, 42] })
    (base : Nat) (v : Value) (n : Nat) (xs : List Value) (hs : a.eval s = v) (hown : w.ownsRow base 37 1 v n xs)
    (A : Option Addr) (m C : Nat) (us : List Value) (L : List (List Nat)) (hx : a.eval x = .slice A m C) (hM : MatV w A m us L) (hC : A = none → C = 0) (h63 : n + m ≤ 90000000) (hbase : base ≤ w.heap.size)
    (h : ∀ v' w', w'.ownsRow base 37 1 v' (n + m) (xs ++ us) → w.grownBy w' v.ownBlock → (v'.ownBlock = v.ownBlock ∨ v'.ownBlock = some w.heap.size) → wpList Try.prog ops Q rest (a.put o.dst v') w') : wpList Try.prog ops Q (o :: rest) a w := by
  obtain ⟨i0, hi0, hz0, hz1, hz2⟩ := info_parts info_row15
  cases A with
  | some ad =>
    refine wpList_append_own_at w hgd s x _ ho base 37 i0 _ 1 24 Try.underlying42 hi0 hz0 hz1 hz2 rfl (by decide) v n xs hs hown ad m C us hx (by rw [hM.len, Nat.mul_one]) (fun j u hu => ?_) (fun u hu => ?_) (by unfold maxLen; omega) (by omega) hbase (fun v' w' h1 h2 _ h3 => h v' w' h1 h2 h3)
    · rcases hM.cells with h0 | ⟨b', o', e', hc'⟩
      · have := (List.getElem?_eq_some_iff.1 hu).1
        rw [hM.len] at this
        omega
      · cases e'
        rw [Addr.add_lit]
        exact hc' j u hu
    · obtain ⟨i, hi, rfl⟩ := List.getElem_of_mem hu
      have hi' : i < L.length := hM.rows.1 ▸ hi
      obtain ⟨A2, c2, e2, _⟩ := hM.rows.2 i us[i] (L[i]'hi') (List.getElem?_eq_getElem hi) (List.getElem?_eq_getElem hi')
      rw [e2]; rfl
  | none =>
    have h0 : m = 0 := by
      rcases hM.cells with h0 | ⟨b', o', e', _⟩
      · exact h0
      · cases e'
    subst h0
    obtain rfl := hC rfl
    obtain rfl : us = [] := List.length_eq_zero_iff.1 hM.len
    refine wpList_append_own_none hgd s x 42 ho base 37 i0 1 Try.underlying42 hi0 v n xs hs hown hx ?_
    exact h v w (by rw [List.append_nil]; exact hown) (World.grownBy.refl _ _) (.inl rfl)
theorem MatV.takeN {w : World} {A : Option Addr} {n : Nat} {vs : List Value} {L : List (List Nat)} (h : MatV w A n vs L) {k : Nat} (hk : k ≤ n) : MatV w A k (vs.take k) (L.take k) := by
  rcases h.cells with h0 | ⟨b, o, rfl, _⟩
  · obtain rfl : k = 0 := by omega
    refine ⟨by simp, .inl rfl, by simp, fun i v l h1 _ => by simp at h1⟩
  · have := h.sub (p := 0) (m := k) (by omega)
    simpa using this
theorem MatV.dropN {w : World} {A A' : Option Addr} {n : Nat} {vs : List Value} {L : List (List Nat)} (h : MatV w A n vs L) {k c : Nat} (hk : k ≤ n) (hc : n ≤ c) (hA : (if c = k then A else A.map (fun a => a.add k)) = A') : MatV w A' (n - k) (vs.drop k) (L.drop k) := by
  have hL := h.lenL
  have hv := h.len
  by_cases h0 : n - k = 0
  · rw [h0, List.drop_eq_nil_of_le (by omega), List.drop_eq_nil_of_le (by omega)]
    exact ⟨rfl, .inl rfl, rfl, fun i v l h1 _ => by simp at h1⟩
  · rw [if_neg (by omega)] at hA
    rcases h.cells with h1 | ⟨b, o, rfl, _⟩
    · omega
    · rw [← hA]
      have := h.sub (p := k) (m := n - k) (by omega)
      rw [List.take_of_length_le (by rw [List.length_drop]; omega), List.take_of_length_le (by rw [List.length_drop]; omega)] at this
      show MatV w (some ((⟨b, o, none⟩ : Addr).add k)) _ _ _
      rw [Addr.add_lit]
      exact this
/-- what is still to be added -/
structure RestI (w : World) (A : Option Addr) (n c : Nat) (us : List Value) (l : List (List Nat)) : Prop where
  mat : MatV w A n us l
  le : n ≤ c
  nil : A = none → c = 0
  lo : RIn (fun b => b < w.heap.size) us
  few : (Jl.packed l).length ≤ 200000
  l65 : ∀ r ∈ l, r.length ≤ 65535
theorem RestI.arg {w : World} {A : Option Addr} {n c : Nat} {us : List Value} {l : List (List Nat)} (h : RestI w A n c us l) (b : Nat) (hb : ArgIn A n us b) : b < w.heap.size := by
  rcases hb with ⟨o, e, h0⟩ | ⟨u, hu, o, m, c', e, h0⟩
  · exact h.mat.low e h0
  · exact h.lo u hu b o m c' e h0
theorem RestI.take {w : World} {A : Option Addr} {n c : Nat} {us : List Value} {l : List (List Nat)} (h : RestI w A n c us l) {k : Nat} (hk : k ≤ n) : RestI w A k c (us.take k) (l.take k) :=
  ⟨h.mat.takeN hk, Nat.le_trans hk h.le, h.nil, fun u hu => h.lo u (List.mem_of_mem_take hu), Nat.le_trans (packed_take_le l k) h.few, fun r hr => h.l65 r (List.mem_of_mem_take hr)⟩
theorem packed_drop_le (L : List (List Nat)) (k : Nat) : (Jl.packed (L.drop k)).length ≤ (Jl.packed L).length := by
  have h := congrArg (fun x => (Jl.packed x).length) (List.take_append_drop k L)
  simp only [Jl.packed_append, List.length_append] at h
  omega
theorem RestI.drop {w : World} {A A' : Option Addr} {n c : Nat} {us : List Value} {l : List (List Nat)} (h : RestI w A n c us l) {k : Nat} (hk : k ≤ n) (hA : (if c = k then A else A.map (fun a => a.add k)) = A') : RestI w A' (n - k) (c - k) (us.drop k) (l.drop k) :=
  ⟨h.mat.dropN hk h.le hA, by have := h.le; omega, fun e => by
    by_cases hc : c = k
    · omega
    · rw [if_neg hc] at hA
      cases A with
      | none => have := h.nil rfl; omega
      | some a => rw [← hA] at e; exact absurd e (by simp), fun u hu => h.lo u (List.mem_of_mem_drop hu), Nat.le_trans (packed_drop_le l k) h.few, fun r hr => h.l65 r (List.mem_of_mem_drop hr)⟩
theorem modn15 (x : Int) (n : Nat) : ∃ (r : Int) (k : Nat), Int.tmod x ((n : Int) + 1) = r ∧ -((n : Int) + 1) < r ∧ r < (n : Int) + 1 ∧ Int.tmod (r + (n : Int) + 1) ((n : Int) + 1) = (k : Int) ∧ k ≤ n := by
  have hm' : (0 : Int) < (n : Int) + 1 := by omega
  have h1 : -((n : Int) + 1) < Int.tmod x ((n : Int) + 1) ∧ Int.tmod x ((n : Int) + 1) < (n : Int) + 1 := by
    rcases Int.le_total 0 x with h | h
    · rw [Int.tmod_eq_emod_of_nonneg h]
      have := Int.emod_nonneg x (show (n : Int) + 1 ≠ 0 by omega)
      have := Int.emod_lt_of_pos x hm'
      omega
    · have e : Int.tmod x ((n : Int) + 1) = -(Int.tmod (-x) ((n : Int) + 1)) := by rw [Int.neg_tmod, Int.neg_neg]
      rw [e, Int.tmod_eq_emod_of_nonneg (by omega)]
      have := Int.emod_nonneg (-x) (show (n : Int) + 1 ≠ 0 by omega)
      have := Int.emod_lt_of_pos (-x) hm'
      omega
  have h2 := Int.emod_nonneg (Int.tmod x ((n : Int) + 1) + (n : Int) + 1) (show (n : Int) + 1 ≠ 0 by omega)
  have h3 := Int.emod_lt_of_pos (Int.tmod x ((n : Int) + 1) + (n : Int) + 1) hm'
  refine ⟨_, ((Int.tmod x ((n : Int) + 1) + (n : Int) + 1) % ((n : Int) + 1)).toNat, rfl, h1.1, h1.2, ?_, by omega⟩
  rw [Int.tmod_eq_emod_of_nonneg (by omega)]
  omega
/-- the journal opened anew -/
theorem bk_open {w wr : World} {z g gj i : Nat} {L : List (List Nat)} {va : Value} {M : List (List Nat)} (h : Bk w z g gj i L va M wr) : Calls Try.prog 19 #[.pointer (some ⟨g, 0, none⟩), .agg #[.int .i64 0, .int .i64 300]] wr fun e w' => ∃ gk, e = .returned (.tuple #[.pointer (some ⟨gk, 0, none⟩), .int .i64 0]) ∧ (∃ B R v J, JrAt w' B gk g R v J ∧ J.L = L ∧ J.rc = 300 ∧ J.h.len = (Jl.packed L).length) ∧ Bw wr w' := by
  obtain ⟨B, lb, gm, S, J, R, v, h, rfl⟩ := h
  have h1 := jopen_any h.d 0 300 (by decide) (by decide)
  obtain ⟨e1, e2⟩ := h.inv.open_
  rw [h.r0, h.rc] at e1 e2
  have e1' : Jl.openE S 0 300 = 0 := e1
  have e2' : Jl.openJ S 0 300 = some J := e2
  rw [e1', e2'] at h1
  refine h1.mono ?_
  rintro e w' ⟨h2, p, v2, h3, gk, h4, h5⟩
  subst h4
  exact ⟨gk, h3, ⟨_, _, v2, J, h5, rfl, h.rc, h.inv.plen.symm⟩, h2⟩
theorem bk_records {w wr : World} {z g gj i : Nat} {L : List (List Nat)} {va : Value} {M : List (List Nat)} (h : Bk w z g gj i L va M wr) : Calls Try.prog 20 #[.pointer (some ⟨gj, 0, none⟩)] wr fun e w' => CopyV wr L.length L e w' := by
  obtain ⟨B, lb, gm, S, J, R, v, h, rfl⟩ := h
  exact jrecords_any h.j
end Go.Proofs.Ytppknadflmjefaa
