/- Texts of mine, put together. -/
import Derived.Test.YtbhbdhkifkmkbaaB1
import Derived.Laws.BytesArg
import Derived.Deep.OwnRows
import Derived.Deep.RegionWith
import Derived.BigRegion
import Derived.Deep.DrawnRows

set_option linter.unusedVariables false

/- New rows and new matrices: a row scaled, a matrix copied. -/
namespace Go.Proofs.Ytbhbdhkifkmkbaa
open Go.RowKit

/-! a row that the call itself has made, as a row in memory -/
theorem row_of_own {W : World} {base L : Nat} {v : Value} {f : Nat → Int} (hf : ∀ i, 0 ≤ f i ∧ f i < 256) (h : W.ownsRow base 5 1 v L (cellsU f L)) :
    ∃ A cap, v = .slice A L cap ∧ L ≤ cap ∧ cap ≤ maxLen ∧ RowAt W A L f ∧ ∀ a, A = some a → base ≤ a.block ∧ a.block < W.heap.size := by
  obtain ⟨_, h⟩ := h
  rcases h with ⟨rfl, rfl⟩ | ⟨g, cap, cur, rfl, hb, hg, h1, h2, h3, h4⟩
  · exact ⟨none, 0, rfl, Nat.le_refl _, Nat.zero_le _, ⟨Or.inl rfl, hf⟩, fun a ha => by cases ha⟩
  · refine ⟨_, cap, rfl, h1, h2, ⟨Or.inr ⟨g, 0, rfl, fun i hi => ?_⟩, hf⟩, fun a ha => by cases ha; exact ⟨hb, (Array.getElem?_eq_some_iff.1 hg).1⟩⟩
    rw [Nat.zero_add, cell_of_row W g i cur _ _ hg]
    have e : (cur.toList.take (L * 1))[i]? = (cellsU f L)[i]? := by rw [h4]
    rw [Nat.mul_one, List.getElem?_take, if_pos hi] at e
    rw [← Array.getElem?_toList, e]
    unfold cellsU
    rw [List.getElem?_map, List.getElem?_range hi]; rfl

theorem info_row : (Try.prog.info? 37).map (fun i => (i.zero, i.size, i.bytes)) = some (some (.slice none 0 0), 1, 24) := by kernel_rfl

/-- the cells of the outer row -/
def rowsU (R : Nat → Option Addr) (L C : Nat → Nat) (k : Nat) : List Value := (List.range k).map fun r => .slice (R r) (L r) (C r)

theorem rowsU_succ (R : Nat → Option Addr) (L C : Nat → Nat) (k : Nat) : rowsU R L C (k + 1) = rowsU R L C k ++ [.slice (R k) (L k) (C k)] := by
  unfold rowsU; rw [List.range_succ, List.map_append]; rfl

theorem rowsU_congr {R R' : Nat → Option Addr} {L L' C C' : Nat → Nat} {k : Nat} (h : ∀ r, r < k → R r = R' r ∧ L r = L' r ∧ C r = C' r) : rowsU R L C k = rowsU R' L' C' k :=
  List.map_congr_left fun r hr => by rw [(h r (List.mem_range.1 hr)).1, (h r (List.mem_range.1 hr)).2.1, (h r (List.mem_range.1 hr)).2.2]

/-- a matrix that the call itself has made: its outer row, its rows apart from it -/
structure OwnMat (W : World) (base : Nat) (v : Value) (n : Nat) (R : Nat → Option Addr) (L C : Nat → Nat) (Z : Nat → Nat → Int) : Prop where
  own : W.ownsRow base 37 1 v n (rowsU R L C n)
  row : ∀ r, r < n → RowAt W (R r) (L r) (Z r)
  cap : ∀ r, r < n → L r ≤ C r ∧ C r ≤ maxLen
  apart : ∀ r a, r < n → R r = some a → base ≤ a.block ∧ a.block < W.heap.size ∧ v.ownBlock ≠ some a.block

theorem OwnMat.nil (W : World) (base : Nat) (R : Nat → Option Addr) (L C : Nat → Nat) (Z : Nat → Nat → Int) : OwnMat W base (.slice none 0 0) 0 R L C Z :=
  ⟨World.ownsRow_nil _ _ _ _, fun r hr => by omega, fun r hr => by omega, fun r _ hr => by omega⟩

/-- a row in memory is as it was behind an append onto another block -/
theorem RowAt.grown {W w1 : World} {row : Option Nat} {A : Option Addr} {L : Nat} {f : Nat → Int} (h : RowAt W A L f) (g : W.grownBy w1 row) (hne : ∀ a, A = some a → row ≠ some a.block) : RowAt w1 A L f := by
  refine ⟨?_, h.2⟩
  rcases h.1 with h0 | ⟨b, off, hA, hc⟩
  · exact Or.inl h0
  · refine Or.inr ⟨b, off, hA, fun i hi => ?_⟩
    have := hc i hi
    rw [World.cell?_of_block (w := W) (g.block b (block_lt_of_cell this) (fun e => hne _ hA e.symm))]
    exact this

end Go.Proofs.Ytbhbdhkifkmkbaa

/- New matrices, row by row: what one more row makes of one, and a matrix copied. -/
namespace Go.Proofs.Ytbhbdhkifkmkbaa
open Go.RowKit

theorem own_keep {W W' : World} {base : Nat} {e : TypeId} {size n : Nat} {v : Value} {xs : List Value} (h : W.ownsRow base e size v n xs) (g : Bw W W') : W'.ownsRow base e size v n xs := by
  obtain ⟨h1, h2⟩ := h
  refine ⟨h1, ?_⟩
  rcases h2 with h | ⟨b, cap, cur, hv, hb, hg, hr⟩
  · exact Or.inl h
  · refine Or.inr ⟨b, cap, cur, hv, hb, ?_, hr⟩
    rw [g.block b (Array.getElem?_eq_some_iff.1 hg).1, hg]

theorem OwnMat.keep {W W' : World} {base : Nat} {v : Value} {n : Nat} {R : Nat → Option Addr} {L C : Nat → Nat} {Z : Nat → Nat → Int} (h : OwnMat W base v n R L C Z) (g : Bw W W') : OwnMat W' base v n R L C Z :=
  ⟨own_keep h.own g, fun r hr => (h.row r hr).keep g, h.cap, fun r a hr ha => by have hp := h.apart r a hr ha; have := g.size; exact ⟨hp.1, by omega, hp.2.2⟩⟩

/-- a value put in one place of a row of values -/
def upd {α : Type} (f : Nat → α) (k : Nat) (x : α) : Nat → α := fun r => if r = k then x else f r
theorem upd_at {α : Type} (f : Nat → α) (k : Nat) (x : α) : upd f k x k = x := by unfold upd; rw [if_pos rfl]
theorem upd_ne {α : Type} (f : Nat → α) {k r : Nat} (x : α) (h : r ≠ k) : upd f k x r = f r := by unfold upd; rw [if_neg h]

theorem own_lt {W : World} {base : Nat} {e : TypeId} {size n : Nat} {v : Value} {xs : List Value} (h : W.ownsRow base e size v n xs) : ∀ g, v.ownBlock = some g → g < W.heap.size := by
  intro g hg
  rcases h.2 with ⟨rfl, _⟩ | ⟨b, cap, cur, rfl, hb, hh, hr⟩
  · cases hg
  · simp only [Value.ownBlock, Option.some.injEq] at hg
    subst hg
    exact (Array.getElem?_eq_some_iff.1 hh).1

/-- what a value that owns a row looks like -/
theorem own_form {W : World} {base : Nat} {e : TypeId} {size n : Nat} {v : Value} {xs : List Value} (h : W.ownsRow base e size v n xs) : ∃ A c, v = .slice A n c := by
  rcases h.2 with ⟨rfl, rfl⟩ | ⟨g, cap, cur, rfl, _⟩
  · exact ⟨_, _, rfl⟩
  · exact ⟨_, _, rfl⟩

/-- one row more: 'W': ahead of the new row; 'W1': the new row lies at A1, in a block of its own; 'w2': behind the append -/
theorem OwnMat.push {W W1 w2 : World} {base : Nat} {v : Value} {n g c2 : Nat} {R : Nat → Option Addr} {L C : Nat → Nat} {Z : Nat → Nat → Int} (h : OwnMat W base v n R L C Z) (b1 : Bw W W1)
    {A1 : Option Addr} {l1 c1 : Nat} {z1 : Nat → Int} (hbase : base ≤ W.heap.size) (hrow : RowAt W1 A1 l1 z1) (hcap : l1 ≤ c1 ∧ c1 ≤ maxLen) (hA : ∀ a, A1 = some a → W.heap.size ≤ a.block ∧ a.block < W1.heap.size) {o : Obj}
    (hgrow : (W1.alloc o).grownBy w2 v.ownBlock) (hat : v.ownBlock = some g ∨ g = W1.heap.size + 1)
    (hown : w2.ownsRow base 37 1 (.slice (some ⟨g, 0, none⟩) (n + 1) c2) (n + 1) (rowsU R L C n ++ [.slice A1 l1 c1])) :
    OwnMat w2 base (.slice (some ⟨g, 0, none⟩) (n + 1) c2) (n + 1) (upd R n A1) (upd L n l1) (upd C n c1) (upd Z n z1) ∧ Below base W w2 := by
  have hs1 : W.heap.size ≤ W1.heap.size := b1.size
  have hs2 : W1.heap.size + 1 ≤ w2.heap.size := by have := hgrow.size; rw [size_alloc] at this; exact this
  have hlt := own_lt h.own
  have hge := own_ge h.own
  have ba : Bw W1 (W1.alloc o) := (Below.refl _ _).alloc (Nat.le_refl _) o
  refine ⟨⟨?_, fun r hr => ?_, fun r hr => ?_, fun r a hr ha => ?_⟩, ?_⟩
  · have e : rowsU (upd R n A1) (upd L n l1) (upd C n c1) (n + 1) = rowsU R L C n ++ [.slice A1 l1 c1] := by
      rw [rowsU_succ, upd_at, upd_at, upd_at, rowsU_congr (R' := R) (L' := L) (C' := C) (fun r hr => ⟨upd_ne _ _ (by omega), upd_ne _ _ (by omega), upd_ne _ _ (by omega)⟩)]
    rw [e]; exact hown
  · by_cases e : r = n
    · subst e
      rw [upd_at, upd_at, upd_at]
      refine (hrow.keep ba).grown hgrow (fun a ha hv => ?_)
      have := hA a ha
      have := hlt _ hv
      omega
    · rw [upd_ne _ _ e, upd_ne _ _ e, upd_ne _ _ e]
      refine (((h.row r (by omega)).keep b1).keep ba).grown hgrow (fun a ha hv => ?_)
      exact (h.apart r a (by omega) ha).2.2 hv
  · by_cases e : r = n
    · subst e; rw [upd_at, upd_at]; exact hcap
    · rw [upd_ne _ _ e, upd_ne _ _ e]; exact h.cap r (by omega)
  · by_cases e : r = n
    · subst e
      rw [upd_at] at ha
      have := hA a ha
      refine ⟨by omega, by omega, fun hg => ?_⟩
      simp only [Value.ownBlock, Option.some.injEq] at hg
      rcases hat with h1 | h1
      · have := hlt _ h1; omega
      · omega
    · rw [upd_ne _ _ e] at ha
      have hp := h.apart r a (by omega) ha
      refine ⟨hp.1, by omega, fun hg => ?_⟩
      simp only [Value.ownBlock, Option.some.injEq] at hg
      rcases hat with h1 | h1
      · exact hp.2.2 (by rw [h1, hg])
      · omega
  · exact ((b1.mono hbase).trans (ba.mono (by omega))).grown hgrow (by rw [size_alloc]; omega) (fun k hk => hge k hk)

theorem cellsU_len (f : Nat → Int) (L : Nat) : (cellsU f L).length = L := by unfold cellsU; simp

theorem cellsU_get (f : Nat → Int) (L j : Nat) (u : Value) (h : (cellsU f L)[j]? = some u) : j < L ∧ u = .int .u8 (f j) := by
  have hj : j < L := by have := (List.getElem?_eq_some_iff.1 h).1; rwa [cellsU_len] at this
  refine ⟨hj, ?_⟩
  unfold cellsU at h
  rw [List.getElem?_map, List.getElem?_range hj] at h
  exact (Option.some.inj h).symm

theorem cellsU_one (f : Nat → Int) (L : Nat) : ∀ u ∈ cellsU f L, u.oneCell' = true := by
  intro u hu
  unfold cellsU at hu
  obtain ⟨i, _, rfl⟩ := List.mem_map.1 hu
  rfl

/-- a row in memory appended to a row of the call's own, whatever lies where -/
theorem wpList_append_rowat {P : Program} (w : World) {ops : Array Oper} {rest : List Oper} {o : Oper} {a : Act} {Q : Exit → Act → World → Prop} (hgd : o.guard = none) (s x : Operand) (t : TypeId)
    (ho : o.op = .call { callee := .builtin .append, args := #[s, x], argTypes := #[t, t] })
    (base : Nat) (e : TypeId) (i : TypeInfo) (z : Value) (bytes : Nat) (ht : P.underlying t = some (.slice e)) (hi : P.info? e = some i) (hz : i.zero = some z)
    (hsize : i.size = 1) (hby : i.bytes = bytes) (hzs : z.cells.size = 1)
    (v : Value) (n : Nat) (xs : List Value) (hs : a.eval s = v) (hown : w.ownsRow base e 1 v n xs)
    (A : Option Addr) (L C : Nat) (f : Nat → Int) (hx : a.eval x = .slice A L C) (hr : RowAt w A L f) (hC : A = none → C = 0)
    (h63 : n + L ≤ maxLen) (hbytes : (n + L) * bytes ≤ 140737488355328) (hbase : base ≤ w.heap.size)
    (h : ∀ v' w', w'.ownsRow base e 1 v' (n + L) (xs ++ cellsU f L) → w.grownBy w' v.ownBlock → wpList P ops Q rest (a.put o.dst v') w') : wpList P ops Q (o :: rest) a w := by
  cases A with
  | some ad =>
    refine wpList_append_own w hgd s x t ho base e i z 1 bytes ht hi hz hsize hby hzs (by decide) v n xs hs hown ad L C (cellsU f L) hx (by rw [cellsU_len, Nat.mul_one]) (fun j u hu => ?_) (cellsU_one f L) h63 hbytes hbase (fun v' w' h1 h2 _ => h v' w' h1 h2)
    obtain ⟨hj, rfl⟩ := cellsU_get f L j u hu
    obtain ⟨b, off, e', hc⟩ := hr.at hj
    cases e'
    have := hc j hj
    have hadd : (⟨b, off, none⟩ : Addr).add j = ⟨b, off + j, none⟩ := by rw [Addr.add_lit]
    rw [hadd]; exact this
  | none =>
    have hL : L = 0 := by
      rcases hr.1 with h0 | ⟨b, off, e', _⟩
      · exact h0
      · cases e'
    subst hL
    obtain rfl := hC rfl
    refine wpList_plain hgd fun K hK' => ?_
    have hrun := run_append_owned_none (P := P) w base t o.type e i 1 ht hi v n xs hown
    unfold Oper.wp
    simp [execOp, ho, resolve, invoke, builtin, hs, hx, hrun, Result.andThen]
    exact hK' _ _ (h v w (by simpa [cellsU] using hown) (World.grownBy.refl _ _))

/-- an empty row that has just been laid -/
theorem own_empty (W : World) (base : Nat) (t : TypeId) (h : base ≤ W.heap.size) : (W.alloc (.cells #[] t)).ownsRow base t 1 (.slice (some ⟨W.heap.size, 0, none⟩) 0 0) 0 [] :=
  ⟨rfl, Or.inr ⟨W.heap.size, 0, #[], rfl, h, heap_alloc_new _ _, Nat.le_refl _, Nat.zero_le _, rfl, rfl⟩⟩

end Go.Proofs.Ytbhbdhkifkmkbaa

/- What the document's own Copied makes: the same matrix in memory of its own. -/
namespace Go.Proofs.Ytbhbdhkifkmkbaa
open Go.RowKit

theorem Bw.trans' {a b c : World} (h : Bw a b) (k : Below a.heap.size b c) : Bw a c := Below.trans h k

theorem same_upd {k : Nat} {L L' : Nat → Nat} {Z Z' : Nat → Nat → Int} (h : Hid (∀ r, r < k → L' r = L r ∧ Z' r = Z r)) : Hid (∀ r, r < k + 1 → upd L' k (L k) r = L r ∧ upd Z' k (Z k) r = Z r) := fun r hr => by
  by_cases e : r = k
  · subst e; rw [upd_at, upd_at]; exact ⟨rfl, rfl⟩
  · rw [upd_ne _ _ e, upd_ne _ _ e]; exact h r (by omega)

theorem OwnMat.congr {W : World} {base : Nat} {v : Value} {n : Nat} {R : Nat → Option Addr} {L L' C : Nat → Nat} {Z Z' : Nat → Nat → Int} (h : OwnMat W base v n R L' C Z') (e : ∀ r, r < n → L' r = L r ∧ Z' r = Z r) : OwnMat W base v n R L C Z := by
  refine ⟨?_, fun r hr => ?_, fun r hr => ?_, h.apart⟩
  · rw [rowsU_congr (R' := R) (L' := L') (C' := C) (fun r hr => ⟨rfl, (e r hr).1.symm, rfl⟩)]; exact h.own
  · rw [← (e r hr).1, ← (e r hr).2]; exact h.row r hr
  · rw [← (e r hr).1]; exact h.cap r hr

/-- a block laid anew and appended to: what was there stays -/
theorem bw_fresh {W w1 : World} {o : Obj} {n cap : Nat} (h : (W.alloc o).grownBy w1 (Value.slice (some ⟨W.heap.size, 0, none⟩) n cap).ownBlock) : Bw W w1 :=
  ((Below.refl _ _).alloc (Nat.le_refl _) o).grown h (by rw [size_alloc]; omega) (fun k hk => by simp only [Value.ownBlock, Option.some.injEq] at hk; omega)

set_option maxHeartbeats 1000000 in
theorem rcopied_any (A : Option Addr) (n cap : Nat) (R : Nat → Option Addr) (L C : Nat → Nat) (Z : Nat → Nat → Int) (w : World) (h : MatAt w A n R L C Z) (hC : ∀ r, r < n → R r = none → C r = 0)
    (hL : ∀ r, r < n → L r ≤ 140737488351232) (hn : n ≤ 5000000000) :
    Calls Try.prog 13 #[.slice A n cap] w fun e w' => ∃ v R' C', e = .returned v ∧ OwnMat w' w.heap.size v n R' L C' Z ∧ Bw w w' := by
  obtain ⟨i0, hi0, hz0, hz1, hz2⟩ := info_parts info_u8
  obtain ⟨j0, hj0, hy0, hy1, hy2⟩ := info_parts info_row
  go_enter Try.func13, Try.ntmps13
  go_wp2
  go_loopw [3, 4] (fun v i wr => ∃ (k : Nat) (R' : Nat → Option Addr) (L' C' : Nat → Nat) (Z' : Nat → Nat → Int), k ≤ n ∧ i = .int .i64 k ∧ OwnMat wr w.heap.size v k R' L' C' Z' ∧ Hid (∀ r, r < k → L' r = L r ∧ Z' r = Z r) ∧ Bw w wr) (fun _ i _ => n - (intOf i).toNat)
  case atStart => exact ⟨0, fun _ => none, fun _ => 0, fun _ => 0, Z, Nat.zero_le _, rfl, OwnMat.nil _ _ _ _ _ _, (fun r hr => by omega), Bw.refl _⟩
  case round =>
    obtain ⟨k, R', L', C', Z', hk, rfl, hmat, hsame, hw⟩ := hrel
    by_cases hlt : k < n
    · obtain ⟨b1, o1, rfl, hc1⟩ := (h.keep hw).at hlt
      have h1 := hc1 k hlt
      have hr := (h.2 k hlt).keep hw
      have hCk := hC k hlt
      have hLk := hL k hlt
      have hsz := hw.size
      have hmx : 0 + L k ≤ maxLen := by unfold maxLen; omega
      have hmx2 : k + 1 ≤ maxLen := by unfold maxLen; omega
      have hb1 : b1 < wr.heap.size := block_lt_of_cell h1
      have hZ := hr.2
      clear hc1
      go_wp2_with (first | (at_builtin; refine wpList_append_rowat _ (by rfl) (.tmp 12) (.tmp 16) _ (by rfl) wr.heap.size 5 i0 _ 1 Try.underlying37 hi0 hz0 hz1 hz2 rfl _ _ _ (by rfl) (own_empty wr wr.heap.size _ (Nat.le_refl _)) (R k) (L k) (C k) (Z k) (by rfl) (hr.keep ((Below.refl _ _).alloc (Nat.le_refl _) _)) hCk hmx (by omega) (by simp) ?_; intro v1 w1 hown1 hgrow1; simp only [Nat.zero_add, List.nil_append] at hown1; obtain ⟨A1, cap1, rfl, hl1, hc1, hrow1, hA1⟩ := row_of_own hZ hown1; have bw1 := bw_fresh hgrow1; have sz1 := bw1.size; clear hown1 hgrow1) | (at_builtin; refine wpList_append_lies _ (by rfl) (.tmp 11) (.tmp 18) _ (by rfl) w.heap.size 37 j0 _ 1 24 Try.underlying22 hj0 hy0 hy1 hy2 rfl (by omega) _ _ _ (by rfl) ((own_keep hmat.own bw1).alloc _) ⟨w1.heap.size, 0, none⟩ 1 1 [.slice A1 (L k) cap1] (by rfl) (by rfl) (World.news_of_block (cs := #[.slice A1 (L k) cap1]) (t := 37) (fr := (0, 0)) (heap_alloc_new w1 _)) (by simp [Value.oneCell']) (by omega) hmx2 (by omega) (by simp; omega) (w1.heap.size + 1) (by simp) ?_; intro gg c2 w2 hown2 hgrow2 hat hlt'))
      have hp := OwnMat.push hmat bw1 hsz hrow1 ⟨hl1, hc1⟩ hA1 hgrow2 hat hown2
      go_roundw
      case rel => exact ⟨k + 1, _, _, _, _, by omega, by go_num, hp.1, same_upd hsame, hw.trans' hp.2⟩
      case measure => simp [intOf]; omega
    · have ek : n = k := by omega
      subst ek
      go_wp2
      go_ret
      exact ⟨_, _, _, rfl, hmat.congr hsame, hw⟩

end Go.Proofs.Ytbhbdhkifkmkbaa

/- Rows of bytes as texts, and what the document's own Same tells of two matrices. -/
namespace Go.Proofs.Ytbhbdhkifkmkbaa
open Go.RowKit

/-- the text of a row -/
def str (f : Nat → Int) (L : Nat) : ByteArray := strOfNums ((List.range L).map f)

theorem str_inj {f g : Nat → Int} {L M : Nat} (hf : ∀ i, 0 ≤ f i ∧ f i < 256) (hg : ∀ i, 0 ≤ g i ∧ g i < 256) : (str f L).toList = (str g M).toList ↔ L = M ∧ ∀ i, i < L → f i = g i := by
  have e : ∀ (h : Nat → Int) (n : Nat), (str h n).toList = (List.range n).map fun i => UInt8.ofNat (h i).toNat := fun h n => by
    rw [ByteArray.toList_eq]
    show (strOfNums _).data.toList = _
    rw [strOfNums_data, List.map_map]; rfl
  rw [e, e]
  constructor
  · intro h
    have hl : L = M := by have := congrArg List.length h; simpa using this
    subst hl
    refine ⟨rfl, fun i hi => ?_⟩
    have h2 := congrArg (fun l => l[i]?) h
    simp only [List.getElem?_map, List.getElem?_range hi, Option.map_some, Option.some.injEq] at h2
    have h3 := congrArg UInt8.toNat h2
    have a := hf i
    have b := hg i
    simp only [UInt8.toNat_ofNat'] at h3
    omega
  · rintro ⟨rfl, h⟩
    exact List.map_congr_left fun i hi => by rw [h i (List.mem_range.1 hi)]

theorem conv_row {w : World} {A : Option Addr} {L C : Nat} {f : Nat → Int} (h : RowAt w A L f) : (convert 37 9 (.slice A L C)).run Try.prog w = .ok (.string (str f L)) w := by
  cases A with
  | none =>
    have hL : L = 0 := by
      rcases h.1 with h0 | ⟨b, off, e', _⟩
      · exact h0
      · cases e'
    subst hL
    rw [run_convert_bytes_nil w 37 5 Try.underlying37 Try.underlying5 0 C 9 Try.underlying9]
    rfl
  | some a =>
    rcases h.1 with h0 | ⟨b, off, e, hc⟩
    · subst h0
      have hl : (loadCells a 0).run Try.prog w = .ok (([] : List Int).map (Value.int .u8)).toArray w := by simp [loadCells, loadCellsFrom]
      rw [run_convert_bytes_string w 37 9 5 _ 0 C Try.underlying37 Try.underlying5 Try.underlying9, run_bytesToString w a 0 C [] hl]
      rfl
    · cases e
      refine run_convert_bytes_arg w 37 5 Try.underlying37 Try.underlying5 b off L C ((List.range L).map f) (by simp) (fun i hi => ?_) 9 Try.underlying9
      rw [hc i hi]
      simp [List.getD, List.getElem?_range hi]

theorem ret_of_bool {a b : Bool} (h : a = b) : Ending.returned (.bool a) = .returned (.bool b) := by rw [h]

/-- two matrices are the same -/
def SameM (n m : Nat) (L M : Nat → Nat) (Z Y : Nat → Nat → Int) : Prop := n = m ∧ ∀ r, r < n → L r = M r ∧ ∀ i, i < L r → Z r i = Y r i

theorem rsame_any (A B : Option Addr) (n m ca cb : Nat) (R S : Nat → Option Addr) (L C M D : Nat → Nat) (Z Y : Nat → Nat → Int) (hn : n ≤ 9223372036854775807) (w : World) (ha : MatAt w A n R L C Z) (hb : MatAt w B m S M D Y) :
    Calls Try.prog 15 #[.slice A n ca, .slice B m cb] w fun e w' => ∃ x, e = .returned (.bool x) ∧ (x = true ↔ SameM n m L M Z Y) ∧ Bw w w' := by
  by_cases hnm : n = m
  · subst hnm
    go_enter Try.func15, Try.ntmps15
    go_wp2
    go_loopw [5] (fun i wr => ∃ k : Nat, k ≤ n ∧ i = .int .i64 k ∧ Hid (∀ r, r < k → L r = M r ∧ ∀ i, i < L r → Z r i = Y r i) ∧ Bw w wr) (fun i _ => n - (intOf i).toNat)
    case atStart => exact ⟨0, Nat.zero_le _, rfl, (fun r hr => by omega), Bw.refl _⟩
    case round =>
      obtain ⟨k, hk, rfl, hsame, hw⟩ := hrel
      by_cases hlt : k < n
      · obtain ⟨b1, o1, rfl, hc1⟩ := (ha.keep hw).at hlt
        obtain ⟨b2, o2, rfl, hc2⟩ := (hb.keep hw).at hlt
        have h1 := hc1 k hlt
        have h2 := hc2 k hlt
        have r1 := (ha.2 k hlt).keep hw
        have r2 := (hb.2 k hlt).keep hw
        have cv1 : ∀ q, (convert 37 9 (.slice (R k) (L k) (C k))).run Try.prog (wr.drewN q) = .ok (.string (str (Z k) (L k))) (wr.drewN q) := fun q => conv_row (r1.keep (Bw.drewN _ q))
        have cv2 : ∀ q, (convert 37 9 (.slice (S k) (M k) (D k))).run Try.prog (wr.drewN q) = .ok (.string (str (Y k) (M k))) (wr.drewN q) := fun q => conv_row (r2.keep (Bw.drewN _ q))
        have hk0 : (0 : Int) ≤ (k : Int) := Int.natCast_nonneg _
        have hk1 : (k : Int) < (n : Int) := by omega
        have hin := str_inj (L := L k) (M := M k) r1.2 r2.2
        clear hc1 hc2
        by_cases he : (str (Z k) (L k)).toList = (str (Y k) (M k)).toList
        · have he2 : ((str (Z k) (L k)).toList == (str (Y k) (M k)).toList) = true := by simpa using he
          go_wp2
          go_quiet (fail)
          go_wp2
          go_roundw
          case rel => exact ⟨k + 1, by omega, by go_num, (fun r hr => by by_cases e : r = k; (subst e; exact hin.1 he); exact hsame r (by omega)), hw.trans (Bw.drewN _ _)⟩
          case measure => simp [intOf]; omega
        · have he2 : ((str (Z k) (L k)).toList == (str (Y k) (M k)).toList) = false := by simpa using he
          go_wp2
          go_quiet (fail)
          go_wp2
          go_ret
          exact ⟨false, rfl, ⟨fun h => (by cases h), fun h => absurd (hin.2 (h.2 k hlt)) he⟩, hw.trans (Bw.drewN _ _)⟩
      · have ek : n = k := by omega
        subst ek
        go_wp2
        go_ret
        exact ⟨true, rfl, ⟨fun _ => ⟨rfl, hsame.out⟩, fun _ => rfl⟩, hw⟩
  · have hne : ((n : Int) != (m : Int)) = true := by simp; omega
    go_enter Try.func15, Try.ntmps15
    go_wp2
    go_ret
    exact ⟨false, rfl, ⟨fun h => (by cases h), fun h => absurd h.1 hnm⟩, Bw.refl _⟩

end Go.Proofs.Ytbhbdhkifkmkbaa

/- What the document's own One makes. -/
namespace Go.Proofs.Ytbhbdhkifkmkbaa
open Go.RowKit Go.Deep

theorem made_bytes (n : Nat) (h : n ≤ 140737488355328) : ∃ M : Array Value, M.size = n ∧ (∀ i, i < n → M[i]? = some (.int .u8 0)) ∧
    ∀ w, (Instr.makeSlice 37 (.int .i64 (n : Int)) (.int .i64 (n : Int))).run Try.prog w = .ok (.slice (some ⟨w.heap.size, 0, none⟩) n n) (w.alloc (.cells M 5)) := by
  refine ⟨madeCells #[.int .u8 0] n, ?_, ?_, fun w => run_make_row' 37 5 (.int .u8 0) 1 Try.underlying37 info_u8 rfl .i64 .i64 n (by omega) (by omega) w⟩
  · simp [madeCells]
  · intro i hi
    simp [madeCells, hi, Nat.mod_one]

/-- a row that has just been laid -/
theorem row_new (W : World) (cs : Array Value) (t : TypeId) (n : Nat) (f : Nat → Int) (hf : ∀ i, 0 ≤ f i ∧ f i < 256) (h : ∀ i, i < n → cs[i]? = some (.int .u8 (f i))) : RowAt (W.alloc (.cells cs t)) (some ⟨W.heap.size, 0, none⟩) n f :=
  ⟨Or.inr ⟨W.heap.size, 0, rfl, fun i hi => by rw [Nat.zero_add, World.cell?_alloc_at cs t _ i rfl]; exact h i hi⟩, hf⟩

def oneZ (i j : Nat) : Int := if i = j then 1 else 0
theorem oneZ_bd (i j : Nat) : 0 ≤ oneZ i j ∧ oneZ i j < 256 := by unfold oneZ; split <;> decide

end Go.Proofs.Ytbhbdhkifkmkbaa

/- What the document's own Turned makes. -/
namespace Go.Proofs.Ytbhbdhkifkmkbaa
open Go.RowKit

theorem Wrong.unique {n : Nat} {L : Nat → Nat} {x y : Int} (h : Wrong n L x) (k : Wrong n L y) : x = y := by
  rcases h with ⟨rfl, h⟩ | ⟨rfl, h1, h2, r, hr, hne⟩ | ⟨rfl, h1, h2, h3⟩ <;> rcases k with ⟨rfl, k⟩ | ⟨rfl, k1, k2, s, hs, kne⟩ | ⟨rfl, k1, k2, k3⟩
  · rfl
  · rcases h with h | ⟨r, hr, h⟩
    · omega
    · have := k2 r hr; omega
  · rcases h with h | ⟨r, hr, h⟩
    · omega
    · have := k2 r hr; omega
  · rcases k with h | ⟨r, hr, h⟩
    · omega
    · have := h2 r hr; omega
  · rfl
  · exact absurd (k3 r hr) hne
  · rcases k with h | ⟨r, hr, h⟩
    · omega
    · have := h2 r hr; omega
  · exact absurd (h3 s hs) kne
  · rfl

/-- rows and columns changed about -/
def tz (n : Nat) (Z : Nat → Nat → Int) (j i : Nat) : Int := if i < n then Z i j else 0
theorem tz_at (n : Nat) (Z : Nat → Nat → Int) (j i : Nat) (h : i < n) : tz n Z j i = Z i j := by unfold tz; rw [if_pos h]
theorem tz_bd {n : Nat} {Z : Nat → Nat → Int} (h : ∀ i, i < n → ∀ j, 0 ≤ Z i j ∧ Z i j < 256) (j i : Nat) : 0 ≤ tz n Z j i ∧ tz n Z j i < 256 := by
  unfold tz; split
  · exact h i ‹_› j
  · decide

end Go.Proofs.Ytbhbdhkifkmkbaa

/- What the document's own Mul of two matrices makes. -/
namespace Go.Proofs.Ytbhbdhkifkmkbaa
open Go.RowKit

attribute [local go_sem ↓] Go.wp_at_zero Go.wp_at_succ

/-- the product's numbers -/
def prodZ (m : Nat) (Z Y : Nat → Nat → Int) (i j : Nat) : Int := dotU (Z i) (fun t => Y t j) m
/-- a row of the product under way: j numbers are there, t terms of the next one -/
def wayZ (m : Nat) (Z Y : Nat → Nat → Int) (i j t c : Nat) : Int := if c < j then prodZ m Z Y i c else if c = j then dotU (Z i) (fun t => Y t j) t else 0

theorem wayZ_at (m : Nat) (Z Y : Nat → Nat → Int) (k j t : Nat) (hZ : ∀ i, 0 ≤ Z k i ∧ Z k i < 256) : 0 ≤ wayZ m Z Y k j t j ∧ wayZ m Z Y k j t j < 256 ∧ addI (wayZ m Z Y k j t j) (mulI (Z k t) (Y t j)) = wayZ m Z Y k j (t + 1) j := by
  have e : ∀ s, wayZ m Z Y k j s j = dotU (Z k) (fun t => Y t j) s := fun s => by unfold wayZ; rw [if_neg (by omega), if_pos rfl]
  have b := dotU_bd (Z k) (fun t => Y t j) hZ t
  rw [e, e]
  exact ⟨b.1, b.2, rfl⟩

theorem wayZ_ne (m : Nat) (Z Y : Nat → Nat → Int) (k j t s c : Nat) (h : c ≠ j) : wayZ m Z Y k j s c = wayZ m Z Y k j t c := by
  unfold wayZ; rw [if_neg h, if_neg h]
theorem wayZ_next (m : Nat) (Z Y : Nat → Nat → Int) (k j c : Nat) : wayZ m Z Y k (j + 1) 0 c = wayZ m Z Y k j m c := by
  unfold wayZ
  by_cases h1 : c < j
  · rw [if_pos h1, if_pos (by omega)]
  · by_cases h2 : c = j
    · subst h2; rw [if_pos (by omega), if_neg (by omega), if_pos rfl]; rfl
    · rw [if_neg (by omega), if_neg h1, if_neg h2]; split <;> rfl
theorem wayZ_end (m : Nat) (Z Y : Nat → Nat → Int) (k q c : Nat) (h : c < q) : wayZ m Z Y k q 0 c = prodZ m Z Y k c := by
  unfold wayZ; rw [if_pos h]

/-- a row of bytes that fills a block -/
def BlockIs (w : World) (g q : Nat) (f : Nat → Int) : Prop := ∃ cur, w.heap[g]? = some (.cells cur 5 (0, 0)) ∧ cur.size = q ∧ ∀ c, c < q → cur[c]? = some (.int .u8 (f c))

theorem BlockIs.keep {w w' : World} {g q : Nat} {f : Nat → Int} (h : BlockIs w g q f) (b : Bw w w') : BlockIs w' g q f := by
  obtain ⟨cur, h1, h2⟩ := h
  exact ⟨cur, by rw [b.block g (Array.getElem?_eq_some_iff.1 h1).1, h1], h2⟩

theorem BlockIs.cell {w : World} {g q : Nat} {f : Nat → Int} (h : BlockIs w g q f) {c : Nat} (hc : c < q) : w.cell? ⟨g, c, none⟩ = some (.int .u8 (f c)) ∧ w.frozen? ⟨g, c, none⟩ = false := by
  obtain ⟨cur, h1, h2, h3⟩ := h
  exact ⟨(cell_of_row w g c cur _ _ h1).trans (h3 c hc), frozen_of_row w g c cur _ h1⟩

theorem BlockIs.set {w : World} {g q : Nat} {f f' : Nat → Int} (h : BlockIs w g q f) {j : Nat} {x : Int} (hj : j < q) (e : f' j = x) (hf : ∀ c, c < q → c ≠ j → f' c = f c) : BlockIs (w.setCell ⟨g, j, none⟩ (.int .u8 x)) g q f' := by
  obtain ⟨cur, h1, h2, h3⟩ := h
  refine ⟨_, heap_setCell_same w g j cur _ _ h1, by simpa using h2, fun c hc => ?_⟩
  by_cases hcj : c = j
  · subst hcj; rw [Array.getElem?_setIfInBounds_self_of_lt (by omega), e]
  · rw [Array.getElem?_setIfInBounds_ne (Ne.symm hcj), h3 c hc, hf c hc hcj]

theorem BlockIs.congr {w : World} {g q : Nat} {f f' : Nat → Int} (h : BlockIs w g q f) (hf : ∀ c, c < q → f' c = f c) : BlockIs w g q f' := by
  obtain ⟨cur, h1, h2, h3⟩ := h
  exact ⟨cur, h1, h2, fun c hc => by rw [h3 c hc, hf c hc]⟩

theorem BlockIs.row {w : World} {g q : Nat} {f : Nat → Int} (h : BlockIs w g q f) (hf : ∀ i, 0 ≤ f i ∧ f i < 256) : RowAt w (some ⟨g, 0, none⟩) q f :=
  ⟨Or.inr ⟨g, 0, rfl, fun i hi => by rw [Nat.zero_add]; exact (h.cell hi).1⟩, hf⟩

theorem Bw.put {w w' : World} (h : Bw w w') {g : Nat} (hg : w.heap.size ≤ g) (j : Nat) (v : Value) : Bw w (w'.setCell ⟨g, j, none⟩ v) := Below.setCell h hg v

end Go.Proofs.Ytbhbdhkifkmkbaa

/- Plain linear algebra over the field of 256 numbers: sums, products of matrices in any order of brackets, a matrix that is taken back from one side is taken back from the other, and the rank is one number; nothing of the program is named here. -/
namespace Go.Proofs.Ytbhbdhkifkmkbaa.La

/-- a number of the field -/
structure F8 where
  v : Nat
  h : v < 256

theorem F8.ext {a b : F8} (e : a.v = b.v) : a = b := by
  cases a; cases b; simp only at e; subst e; rfl

/-- the sum -/
def ad (a b : F8) : F8 := ⟨a.v ^^^ b.v, Gf.xor_lt _ _ a.h b.h⟩
/-- the product -/
def ml (a b : F8) : F8 := ⟨Gf.mul a.v b.v, Gf.mul_lt _ _ a.h⟩
def f0 : F8 := ⟨0, by decide⟩
def f1 : F8 := ⟨1, by decide⟩

theorem add_v (a b : F8) : (ad a b).v = a.v ^^^ b.v := rfl
theorem mul_v (a b : F8) : (ml a b).v = Gf.mul a.v b.v := rfl

theorem add_comm (a b : F8) : ad a b = ad b a := F8.ext (Nat.xor_comm _ _)
theorem add_assoc (a b c : F8) : ad (ad a b) c = ad a (ad b c) := F8.ext (Nat.xor_assoc _ _ _)
theorem add_zero (a : F8) : ad a f0 = a := F8.ext (Nat.xor_zero _)
theorem zero_add (a : F8) : ad f0 a = a := F8.ext (Nat.zero_xor _)
theorem add_self (a : F8) : ad a a = f0 := F8.ext (Nat.xor_self _)
theorem mul_comm (a b : F8) : ml a b = ml b a := F8.ext (Gf.mul_comm _ _ a.h b.h)
theorem mul_assoc (a b c : F8) : ml (ml a b) c = ml a (ml b c) := F8.ext (Gf.mul_assoc _ _ _ a.h b.h)
theorem mul_add (a b c : F8) : ml a (ad b c) = ad (ml a b) (ml a c) := F8.ext (Gf.mul_add _ _ _ a.h)
theorem add_mul (a b c : F8) : ml (ad a b) c = ad (ml a c) (ml b c) := by rw [mul_comm, mul_add, mul_comm c a, mul_comm c b]
theorem mul_one (a : F8) : ml a f1 = a := F8.ext (Gf.mul_one _ a.h)
theorem one_mul (a : F8) : ml f1 a = a := by rw [mul_comm, mul_one]
theorem mul_zero (a : F8) : ml a f0 = f0 := F8.ext (Gf.mul_zero _ a.h)
theorem zero_mul (a : F8) : ml f0 a = f0 := by rw [mul_comm, mul_zero]
theorem add_left_comm (a b c : F8) : ad a (ad b c) = ad b (ad a c) := by rw [← add_assoc, add_comm a b, add_assoc]
theorem add_self_left (a b : F8) : ad a (ad a b) = b := by rw [← add_assoc, add_self, zero_add]

/-- a sum of n numbers -/
def sum : Nat → (Nat → F8) → F8
  | 0, _ => f0
  | n + 1, f => ad (sum n f) (f n)

theorem sum_congr {n : Nat} {f g : Nat → F8} (h : ∀ i, i < n → f i = g i) : sum n f = sum n g := by
  induction n with
  | zero => rfl
  | succ n ih => show ad (sum n f) (f n) = ad (sum n g) (g n); rw [ih (fun i hi => h i (by omega)), h n (by omega)]

theorem sum_zero (n : Nat) : sum n (fun _ => f0) = f0 := by
  induction n with
  | zero => rfl
  | succ n ih => show ad (sum n _) f0 = f0; rw [ih, add_zero]

theorem sum_add (n : Nat) (f g : Nat → F8) : sum n (fun i => ad (f i) (g i)) = ad (sum n f) (sum n g) := by
  induction n with
  | zero => exact (add_zero f0).symm
  | succ n ih =>
    show ad (sum n _) (ad (f n) (g n)) = ad (ad (sum n f) (f n)) (ad (sum n g) (g n))
    rw [ih, add_assoc, add_assoc, add_left_comm (sum n g) (f n)]

theorem sum_mul_left (n : Nat) (c : F8) (f : Nat → F8) : sum n (fun i => ml c (f i)) = ml c (sum n f) := by
  induction n with
  | zero => exact (mul_zero c).symm
  | succ n ih => show ad (sum n _) (ml c (f n)) = ml c (ad (sum n f) (f n)); rw [ih, mul_add]

theorem sum_mul_right (n : Nat) (c : F8) (f : Nat → F8) : sum n (fun i => ml (f i) c) = ml (sum n f) c := by
  rw [mul_comm, ← sum_mul_left]; exact sum_congr fun i _ => mul_comm _ _

theorem sum_swap (n m : Nat) (f : Nat → Nat → F8) : sum n (fun i => sum m (fun j => f i j)) = sum m (fun j => sum n (fun i => f i j)) := by
  induction n with
  | zero => exact (sum_zero m).symm
  | succ n ih =>
    show ad (sum n _) (sum m _) = sum m (fun j => ad (sum n (fun i => f i j)) (f n j))
    rw [ih, sum_add]

/-- 1 where two places are one -/
def one (i j : Nat) : F8 := if i = j then f1 else f0

theorem sum_one_left (n k : Nat) (hk : k < n) (f : Nat → F8) : sum n (fun i => ml (one k i) (f i)) = f k := by
  induction n with
  | zero => omega
  | succ n ih =>
    show ad (sum n _) (ml (one k n) (f n)) = f k
    by_cases e : k = n
    · subst e
      rw [sum_congr (g := fun _ => f0) (fun i hi => by unfold one; rw [if_neg (by omega), zero_mul]), sum_zero, zero_add]
      unfold one; rw [if_pos rfl, one_mul]
    · rw [ih (by omega)]
      unfold one; rw [if_neg e, zero_mul, add_zero]

theorem one_symm (i j : Nat) : one i j = one j i := by
  unfold one; by_cases h : i = j
  · rw [if_pos h, if_pos h.symm]
  · rw [if_neg h, if_neg (Ne.symm h)]

theorem sum_one_right (n k : Nat) (hk : k < n) (f : Nat → F8) : sum n (fun i => ml (f i) (one i k)) = f k := by
  rw [← sum_one_left n k hk f]
  exact sum_congr fun i _ => by rw [mul_comm, one_symm]

/-- a row times a matrix of q rows -/
def vm (q : Nat) (x : Nat → F8) (Y : Nat → Nat → F8) (j : Nat) : F8 := sum q fun t => ml (x t) (Y t j)
/-- the product of two matrices, q numbers a row of the first -/
def mm (q : Nat) (X Y : Nat → Nat → F8) (i j : Nat) : F8 := sum q fun t => ml (X i t) (Y t j)

theorem vm_mm (p q : Nat) (x : Nat → F8) (X Y : Nat → Nat → F8) (j : Nat) : vm q (vm p x X) Y j = vm p x (mm q X Y) j := by
  unfold vm mm
  rw [sum_congr (g := fun t => sum p fun s => ml (ml (x s) (X s t)) (Y t j)) (fun t _ => (sum_mul_right p _ _).symm), sum_swap]
  refine sum_congr fun s _ => ?_
  rw [← sum_mul_left]
  exact sum_congr fun t _ => mul_assoc _ _ _

theorem mm_assoc (p q : Nat) (X Y Z : Nat → Nat → F8) (i j : Nat) : mm q (mm p X Y) Z i j = mm p X (mm q Y Z) i j := vm_mm p q (X i) Y Z j

theorem mm_congr {q : Nat} {X X' Y Y' : Nat → Nat → F8} {i j : Nat} (h : ∀ t, t < q → X i t = X' i t) (k : ∀ t, t < q → Y t j = Y' t j) : mm q X Y i j = mm q X' Y' i j :=
  sum_congr fun t ht => by rw [h t ht, k t ht]

theorem mm_one_left (q : Nat) (X : Nat → Nat → F8) (i j : Nat) (hi : i < q) : mm q one X i j = X i j := sum_one_left q i hi (fun t => X t j)
theorem mm_one_right (q : Nat) (X : Nat → Nat → F8) (i j : Nat) (hj : j < q) : mm q X one i j = X i j := sum_one_right q j hj (fun t => X i t)

/-! counting -/
theorem pigeon (M : Nat) : ∀ (N : Nat) (f : Nat → Nat), (∀ i, i < N → f i < M) → (∀ i j, i < N → j < N → f i = f j → i = j) → N ≤ M := by
  induction M with
  | zero => intro N f h _; rcases Nat.eq_zero_or_pos N with h0 | h0
            · omega
            · have := h 0 h0; omega
  | succ M ih =>
    intro N f h inj
    by_cases hN : N = 0
    · omega
    obtain ⟨n, rfl⟩ : ∃ n, N = n + 1 := ⟨N - 1, by omega⟩
    -- the last one's image is put away
    have hl := h n (by omega)
    have := ih n (fun i => if f i < f n then f i else f i - 1) (fun i hi => by
      have h1 := h i (by omega)
      have h2 : f i ≠ f n := fun e => by have := inj i n (by omega) (by omega) e; omega
      show (if f i < f n then f i else f i - 1) < M
      split <;> omega) (fun i j hi hj e => by
      have h2 : f i ≠ f n := fun e => by have := inj i n (by omega) (by omega) e; omega
      have h3 : f j ≠ f n := fun e => by have := inj j n (by omega) (by omega) e; omega
      refine inj i j (by omega) (by omega) ?_
      have e' : (if f i < f n then f i else f i - 1) = (if f j < f n then f j else f j - 1) := e
      split at e' <;> split at e' <;> omega)
    omega

/-- who takes N into N, no two to one, leaves none out -/
theorem onto (N : Nat) (f : Nat → Nat) (h : ∀ i, i < N → f i < N) (inj : ∀ i j, i < N → j < N → f i = f j → i = j) (y : Nat) (hy : y < N) : ∃ i, i < N ∧ f i = y := by
  apply Classical.byContradiction
  intro hno
  have hne : ∀ i, i < N → f i ≠ y := fun i hi e => hno ⟨i, hi, e⟩
  obtain ⟨m, rfl⟩ : ∃ m, N = m + 1 := ⟨N - 1, by omega⟩
  have := pigeon m (m + 1) (fun i => if f i < y then f i else f i - 1) (fun i hi => by
    have := h i hi; have := hne i hi
    show (if f i < y then f i else f i - 1) < m
    split <;> omega) (fun i j hi hj e => by
    have := hne i hi; have := hne j hj
    refine inj i j hi hj ?_
    have e' : (if f i < y then f i else f i - 1) = (if f j < y then f j else f j - 1) := e
    split at e' <;> split at e' <;> omega)
  omega

/-- a row of p numbers as one number, and back -/
def enc (x : Nat → F8) : Nat → Nat
  | 0 => 0
  | p + 1 => enc x p + (x p).v * 256 ^ p
def dec (n i : Nat) : F8 := ⟨n / 256 ^ i % 256, Nat.mod_lt _ (by decide)⟩

theorem enc_lt (x : Nat → F8) : ∀ p, enc x p < 256 ^ p
  | 0 => by show 0 < 1; decide
  | p + 1 => by
    have h := enc_lt x p
    have hx : (x p).v ≤ 255 := by have := (x p).h; omega
    have hm : (x p).v * 256 ^ p ≤ 255 * 256 ^ p := Nat.mul_le_mul_right _ hx
    show enc x p + (x p).v * 256 ^ p < 256 ^ (p + 1)
    rw [Nat.pow_succ]; omega

theorem dec_enc (x : Nat → F8) : ∀ p i, i < p → dec (enc x p) i = x i
  | 0, i, h => by omega
  | p + 1, i, h => by
    have hlt := enc_lt x p
    have hp : 0 < 256 ^ p := Nat.pow_pos (by decide)
    apply F8.ext
    show (enc x p + (x p).v * 256 ^ p) / 256 ^ i % 256 = (x i).v
    by_cases e : i = p
    · subst e
      rw [Nat.add_mul_div_right _ _ hp, Nat.div_eq_of_lt hlt, Nat.zero_add, Nat.mod_eq_of_lt (x i).h]
    · have hi : 0 < 256 ^ i := Nat.pow_pos (by decide)
      obtain ⟨d, hd⟩ : ∃ d, p = i + 1 + d := ⟨p - i - 1, by omega⟩
      have e2 : (x p).v * 256 ^ p = ((x p).v * 256 ^ d * 256) * 256 ^ i := by
        have hpow : (256 : Nat) ^ p = 256 ^ d * 256 * 256 ^ i := by rw [hd, Nat.pow_add, Nat.pow_add, Nat.pow_one, Nat.mul_comm (256 ^ i) 256, Nat.mul_comm (256 * 256 ^ i), Nat.mul_assoc]
        rw [hpow, Nat.mul_assoc, Nat.mul_assoc, Nat.mul_assoc]
      have ih := dec_enc x p i (by omega)
      have ih' : enc x p / 256 ^ i % 256 = (x i).v := congrArg F8.v ih
      rw [e2, Nat.add_mul_div_right _ _ hi, Nat.add_mul_mod_self_right]
      exact ih'

theorem enc_congr {x y : Nat → F8} : ∀ {p : Nat}, (∀ i, i < p → x i = y i) → enc x p = enc y p
  | 0, _ => rfl
  | p + 1, h => by show enc x p + _ = enc y p + _; rw [enc_congr (fun i hi => h i (by omega)), h p (by omega)]

theorem enc_dec : ∀ (p n : Nat), n < 256 ^ p → enc (dec n) p = n
  | 0, n, h => by have : n = 0 := by simpa using h
                  subst this; rfl
  | p + 1, n, h => by
    have hp : 0 < 256 ^ p := Nat.pow_pos (by decide)
    have h1 := enc_dec p (n % 256 ^ p) (Nat.mod_lt _ hp)
    have h2 : enc (dec n) p = enc (dec (n % 256 ^ p)) p := enc_congr fun i hi => by
      apply F8.ext
      show n / 256 ^ i % 256 = (n % 256 ^ p) / 256 ^ i % 256
      obtain ⟨d, hd⟩ : ∃ d, p = i + (1 + d) := ⟨p - i - 1, by omega⟩
      rw [hd, Nat.pow_add, Nat.mod_mul_right_div_self, Nat.pow_add, Nat.pow_one, Nat.mod_mul_right_mod]
    show enc (dec n) p + (n / 256 ^ p % 256) * 256 ^ p = n
    have h3 : n / 256 ^ p < 256 := Nat.div_lt_of_lt_mul (by rw [Nat.pow_succ] at h; exact h)
    rw [h2, h1, Nat.mod_eq_of_lt h3, Nat.mul_comm]
    exact Nat.mod_add_div n (256 ^ p)

/-- rows of p numbers that are taken to rows of q numbers, and back: p is not above q -/
theorem dim_le (p q : Nat) (X Y : Nat → Nat → F8) (h : ∀ i j, i < p → j < p → mm q X Y i j = one i j) : p ≤ q := by
  have key := pigeon (256 ^ q) (256 ^ p) (fun n => enc (vm p (dec n) X) q) (fun n _ => enc_lt _ q) (fun n m hn hm e => by
    have e1 : ∀ t, t < q → vm p (dec n) X t = vm p (dec m) X t := fun t ht => by
      rw [← dec_enc (vm p (dec n) X) q t ht, ← dec_enc (vm p (dec m) X) q t ht, e]
    have back : ∀ k j, j < p → vm q (vm p (dec k) X) Y j = dec k j := fun k j hj => by
      rw [vm_mm]
      have : vm p (dec k) (mm q X Y) j = vm p (dec k) one j := sum_congr fun t ht => by rw [h t j ht hj]
      rw [this]
      exact sum_one_right p j hj (dec k)
    have e2 : ∀ j, j < p → dec n j = dec m j := fun j hj => by
      rw [← back n j hj, ← back m j hj]
      exact sum_congr fun t ht => by rw [e1 t ht]
    rw [← enc_dec p n hn, ← enc_dec p m hm]
    exact enc_congr e2)
  exact (Nat.pow_le_pow_iff_right (by decide)).1 key

/-- what is taken back from one side is taken back from the other -/
theorem both (n : Nat) (A B : Nat → Nat → F8) (h : ∀ i j, i < n → j < n → mm n A B i j = one i j) : ∀ i j, i < n → j < n → mm n B A i j = one i j := by
  intro i j hi hj
  have back : ∀ (x : Nat → F8) j, j < n → vm n (vm n x A) B j = x j := fun x j hj => by
    rw [vm_mm]
    have : vm n x (mm n A B) j = vm n x one j := sum_congr fun t ht => by rw [h t j ht hj]
    rw [this]
    exact sum_one_right n j hj x
  obtain ⟨k, hk, hk2⟩ := onto (256 ^ n) (fun m => enc (vm n (dec m) A) n) (fun m _ => enc_lt _ n) (fun a b ha hb e => by
    have e1 : ∀ t, t < n → vm n (dec a) A t = vm n (dec b) A t := fun t ht => by
      rw [← dec_enc (vm n (dec a) A) n t ht, ← dec_enc (vm n (dec b) A) n t ht, e]
    rw [← enc_dec n a ha, ← enc_dec n b hb]
    refine enc_congr fun j hj => ?_
    rw [← back (dec a) j hj, ← back (dec b) j hj]
    exact sum_congr fun t ht => by rw [e1 t ht]) (enc (one i) n) (enc_lt _ n)
  have e1 : ∀ t, t < n → vm n (dec k) A t = one i t := fun t ht => by
    rw [← dec_enc (vm n (dec k) A) n t ht, ← dec_enc (one i) n t ht, hk2]
  have e2 : ∀ t, t < n → dec k t = B i t := fun t ht => by
    rw [← back (dec k) t ht]
    have : vm n (vm n (dec k) A) B t = vm n (one i) B t := sum_congr fun s hs => by rw [e1 s hs]
    rw [this]
    exact sum_one_left n i hi (fun s => B s t)
  rw [← e1 j hj]
  exact sum_congr fun t ht => by rw [e2 t ht]

/-- there is but one matrix that takes A back -/
theorem inv_unique (n : Nat) (A B C : Nat → Nat → F8) (hB : ∀ i j, i < n → j < n → mm n A B i j = one i j) (hC : ∀ i j, i < n → j < n → mm n A C i j = one i j) : ∀ i j, i < n → j < n → B i j = C i j := by
  intro i j hi hj
  have hB' := both n A B hB
  have h1 : mm n (mm n B A) C i j = C i j := by
    rw [mm_congr (X' := one) (Y' := C) (fun t ht => hB' i t hi ht) (fun _ _ => rfl)]
    exact mm_one_left n C i j hi
  have h2 : mm n (mm n B A) C i j = B i j := by
    rw [mm_assoc, mm_congr (X' := B) (Y' := one) (fun _ _ => rfl) (fun t ht => hC t j ht hj)]
    exact mm_one_right n B i j hj
  rw [← h2, h1]

/-- A of n rows and m columns goes through r numbers, and no fewer -/
def IsRank (n m : Nat) (A : Nat → Nat → F8) (r : Nat) : Prop :=
  ∃ P Q U V : Nat → Nat → F8, (∀ i j, i < n → j < m → A i j = mm r P Q i j) ∧ (∀ i j, i < r → j < r → mm m (mm n U A) V i j = one i j)

theorem rank_le {n m : Nat} {A : Nat → Nat → F8} {r s : Nat} (h : IsRank n m A r) (k : IsRank n m A s) : s ≤ r := by
  obtain ⟨P, Q, _, _, hA, _⟩ := h
  obtain ⟨_, _, U, V, _, hk⟩ := k
  refine dim_le s r (mm n U P) (mm m Q V) (fun i j hi hj => ?_)
  rw [← hk i j hi hj]
  have e1 : mm r (mm n U P) (mm m Q V) i j = mm m (mm r (mm n U P) Q) V i j := (mm_assoc r m _ _ _ _ _).symm
  rw [e1]
  refine mm_congr (fun t ht => ?_) (fun _ _ => rfl)
  rw [mm_assoc]
  exact mm_congr (fun _ _ => rfl) (fun s hs => (hA s t hs ht).symm)

theorem rank_unique {n m : Nat} {A : Nat → Nat → F8} {r s : Nat} (h : IsRank n m A r) (k : IsRank n m A s) : r = s := Nat.le_antisymm (rank_le k h) (rank_le h k)

theorem mm_turned (q : Nat) (X Y : Nat → Nat → F8) (i j : Nat) : mm q X Y i j = mm q (fun a b => Y b a) (fun a b => X b a) j i := sum_congr fun _ _ => mul_comm _ _

theorem rank_turned {n m : Nat} {A : Nat → Nat → F8} {r : Nat} (h : IsRank n m A r) : IsRank m n (fun i j => A j i) r := by
  obtain ⟨P, Q, U, V, hA, hk⟩ := h
  refine ⟨fun a b => Q b a, fun a b => P b a, fun a b => V b a, fun a b => U b a, fun i j hi hj => ?_, fun i j hi hj => ?_⟩
  · rw [← mm_turned]; exact hA j i hj hi
  · have e : mm n (mm m (fun a b => V b a) fun i j => A j i) (fun a b => U b a) i j = mm n U (mm m A V) j i := by
      rw [mm_turned n U]
      refine mm_congr (fun t _ => ?_) (fun _ _ => rfl)
      exact (mm_turned m A V t i).symm
    rw [e, ← mm_assoc, hk j i hj hi, one_symm]

theorem rank_le_rows {n m : Nat} {A : Nat → Nat → F8} {r : Nat} (h : IsRank n m A r) : r ≤ n := by
  obtain ⟨_, _, U, V, _, hk⟩ := h
  exact dim_le r n U (mm m A V) (fun i j hi hj => by rw [← mm_assoc]; exact hk i j hi hj)

/-- a square matrix can be taken back just if its rank is its side -/
theorem inv_of_rank {n : Nat} {A : Nat → Nat → F8} (h : IsRank n n A n) : ∃ B, ∀ i j, i < n → j < n → mm n A B i j = one i j := by
  obtain ⟨_, _, U, V, _, hk⟩ := h
  -- (U A) V = 1, so V (U A) = 1, so (V U) A = 1, so A (V U) = 1
  have h1 := both n (mm n U A) V hk
  refine ⟨mm n V U, both n (mm n V U) A (fun i j hi hj => ?_)⟩
  rw [mm_assoc]; exact h1 i j hi hj

theorem rank_of_inv {n : Nat} {A B : Nat → Nat → F8} (h : ∀ i j, i < n → j < n → mm n A B i j = one i j) : IsRank n n A n := by
  refine ⟨A, one, one, B, fun i j _ hj => (mm_one_right n A i j hj).symm, fun i j hi hj => ?_⟩
  rw [mm_congr (X' := A) (Y' := B) (fun t _ => mm_one_left n A i t hi) (fun _ _ => rfl)]
  exact h i j hi hj

end Go.Proofs.Ytbhbdhkifkmkbaa.La

/- Plain linear algebra: rows brought to steps, what is kept by it, and what the steps tell of the rank and of the matrix that takes one back; nothing of the program is named here. -/
namespace Go.Proofs.Ytbhbdhkifkmkbaa.La

/-- the rows of each are sums of multiples of the other's -/
def RowEq (n m : Nat) (A W : Nat → Nat → F8) : Prop :=
  ∃ E E' : Nat → Nat → F8, (∀ i j, i < n → j < m → W i j = mm n E A i j) ∧ (∀ i j, i < n → j < m → A i j = mm n E' W i j)

theorem RowEq.refl (n m : Nat) (A : Nat → Nat → F8) : RowEq n m A A :=
  ⟨one, one, fun i j hi _ => (mm_one_left n A i j hi).symm, fun i j hi _ => (mm_one_left n A i j hi).symm⟩

theorem RowEq.symm {n m : Nat} {A W : Nat → Nat → F8} (h : RowEq n m A W) : RowEq n m W A := by
  obtain ⟨E, E', h1, h2⟩ := h
  exact ⟨E', E, h2, h1⟩

theorem RowEq.trans {n m : Nat} {A B C : Nat → Nat → F8} (h : RowEq n m A B) (k : RowEq n m B C) : RowEq n m A C := by
  obtain ⟨E, E', h1, h2⟩ := h
  obtain ⟨G, G', k1, k2⟩ := k
  refine ⟨mm n G E, mm n E' G', fun i j hi hj => ?_, fun i j hi hj => ?_⟩
  · rw [k1 i j hi hj, mm_assoc]; exact mm_congr (fun _ _ => rfl) (fun t ht => h1 t j ht hj)
  · rw [h2 i j hi hj, mm_assoc]; exact mm_congr (fun _ _ => rfl) (fun t ht => k2 t j ht hj)

theorem RowEq.less {n m c : Nat} {A W : Nat → Nat → F8} (h : RowEq n m A W) (hc : c ≤ m) : RowEq n c A W := by
  obtain ⟨E, E', h1, h2⟩ := h
  exact ⟨E, E', fun i j hi hj => h1 i j hi (by omega), fun i j hi hj => h2 i j hi (by omega)⟩

theorem RowEq.of_eq {n m : Nat} {A W : Nat → Nat → F8} (h : ∀ i j, i < n → j < m → W i j = A i j) : RowEq n m A W :=
  ⟨one, one, fun i j hi hj => by rw [mm_one_left n A i j hi, h i j hi hj], fun i j hi hj => by rw [mm_one_left n W i j hi, h i j hi hj]⟩

/-- every row is a multiple of one row and a multiple of another one -/
theorem two_rows {n : Nat} (E : Nat → Nat → F8) (A : Nat → Nat → F8) {i a b : Nat} {x y : F8} (ha : a < n) (hb : b < n) (h : ∀ t, E i t = ad (ml x (one a t)) (ml y (one b t))) (j : Nat) : mm n E A i j = ad (ml x (A a j)) (ml y (A b j)) := by
  unfold mm
  rw [sum_congr (g := fun t => ad (ml x (ml (one a t) (A t j))) (ml y (ml (one b t) (A t j)))) (fun t _ => by rw [h t, add_mul, mul_assoc, mul_assoc]), sum_add, sum_mul_left, sum_mul_left, sum_one_left n a ha (fun t => A t j), sum_one_left n b hb (fun t => A t j)]

/-- one row scaled and another one put in its place -/
theorem swap_scale {n m r p : Nat} {W : Nat → Nat → F8} {c d : F8} (hr : r < n) (hp : p < n) (hc : ml d c = f1) :
    RowEq n m W (fun i j => if i = r then ml c (W p j) else if i = p then W r j else W i j) := by
  refine ⟨fun i t => if i = r then ad (ml c (one p t)) (ml f0 (one p t)) else if i = p then ad (ml f1 (one r t)) (ml f0 (one r t)) else ad (ml f1 (one i t)) (ml f0 (one i t)),
    fun i t => if i = p then ad (ml d (one r t)) (ml f0 (one r t)) else if i = r then ad (ml f1 (one p t)) (ml f0 (one p t)) else ad (ml f1 (one i t)) (ml f0 (one i t)), fun i j hi _ => ?_, fun i j hi _ => ?_⟩
  · by_cases h1 : i = r
    · rw [two_rows _ W (x := c) (y := f0) hp hp (fun t => by rw [if_pos h1])]; dsimp only; rw [if_pos h1, zero_mul, add_zero]
    · by_cases h2 : i = p
      · rw [two_rows _ W (x := f1) (y := f0) hr hr (fun t => by rw [if_neg h1, if_pos h2])]; dsimp only; rw [if_neg h1, if_pos h2, zero_mul, add_zero, one_mul]
      · rw [two_rows _ W (x := f1) (y := f0) hi hi (fun t => by rw [if_neg h1, if_neg h2])]; dsimp only; rw [if_neg h1, if_neg h2, zero_mul, add_zero, one_mul]
  · by_cases h2 : i = p
    · rw [two_rows _ _ (x := d) (y := f0) hr hr (fun t => by rw [if_pos h2]), if_pos rfl, zero_mul, add_zero, ← mul_assoc, hc, one_mul, h2]
    · by_cases h1 : i = r
      · rw [two_rows _ _ (x := f1) (y := f0) hp hp (fun t => by rw [if_neg h2, if_pos h1]), zero_mul, add_zero, one_mul]
        have hpr : ¬ p = r := fun e => h2 (h1.trans e.symm)
        show W i j = if p = r then ml c (W p j) else if p = p then W r j else W p j
        rw [if_neg hpr, if_pos rfl, h1]
      · rw [two_rows _ _ (x := f1) (y := f0) hi hi (fun t => by rw [if_neg h2, if_neg h1]), zero_mul, add_zero, one_mul]
        show W i j = if i = r then ml c (W p j) else if i = p then W r j else W i j
        rw [if_neg h1, if_neg h2]

/-- multiples of one row added to the others -/
theorem add_rows {n m r : Nat} {W : Nat → Nat → F8} (f : Nat → F8) (hr : r < n) :
    RowEq n m W (fun i j => if i = r then W r j else ad (W i j) (ml (f i) (W r j))) := by
  refine ⟨fun i t => if i = r then ad (ml f1 (one r t)) (ml f0 (one r t)) else ad (ml f1 (one i t)) (ml (f i) (one r t)), fun i t => if i = r then ad (ml f1 (one r t)) (ml f0 (one r t)) else ad (ml f1 (one i t)) (ml (f i) (one r t)), fun i j hi _ => ?_, fun i j hi _ => ?_⟩
  · by_cases h1 : i = r
    · rw [two_rows _ W (x := f1) (y := f0) hr hr (fun t => by rw [if_pos h1])]; dsimp only; rw [if_pos h1, zero_mul, add_zero, one_mul]
    · rw [two_rows _ W (x := f1) (y := f i) hi hr (fun t => by rw [if_neg h1])]; dsimp only; rw [if_neg h1, one_mul]
  · by_cases h1 : i = r
    · rw [two_rows _ _ (x := f1) (y := f0) hr hr (fun t => by rw [if_pos h1]), if_pos rfl, zero_mul, add_zero, one_mul, h1]
    · rw [two_rows _ _ (x := f1) (y := f i) hi hr (fun t => by rw [if_neg h1]), if_pos rfl, one_mul]
      show W i j = ad (if i = r then W r j else ad (W i j) (ml (f i) (W r j))) (ml (f i) (W r j))
      rw [if_neg h1, add_assoc, add_self, add_zero]

/-- the rows stand in steps as far as column c: r of them, step i in column p i, each 1 and alone in its column -/
structure Stepped (n c : Nat) (W : Nat → Nat → F8) (r : Nat) (p : Nat → Nat) : Prop where
  le : r ≤ n
  lt : ∀ i, i < r → p i < c
  rise : ∀ i k, i < k → k < r → p i < p k
  at_ : ∀ k i, k < n → i < r → W k (p i) = one k i
  none : ∀ k j, r ≤ k → k < n → j < c → W k j = f0

/-- what one turn of the reckoning makes of the rows -/
def turn (W : Nat → Nat → F8) (r p j : Nat) (c : F8) : Nat → Nat → F8 := fun i k =>
  if i = r then ml c (W p k) else ad (if i = p then W r k else W i k) (ml (if i = p then W r j else W i j) (ml c (W p k)))

theorem turn_eq {n m : Nat} {W : Nat → Nat → F8} {r p j : Nat} {c : F8} (hr : r < n) (hp : p < n) (hc : ml (W p j) c = f1) : RowEq n m W (turn W r p j c) := by
  refine (swap_scale (m := m) hr hp hc).trans ?_
  refine RowEq.trans (add_rows (fun i => if i = p then W r j else W i j) hr) (RowEq.of_eq fun i k _ _ => ?_)
  show turn W r p j c i k = if i = r then (if r = r then ml c (W p k) else if r = p then W r k else W r k) else ad (if i = r then ml c (W p k) else if i = p then W r k else W i k) (ml (if i = p then W r j else W i j) (if r = r then ml c (W p k) else if r = p then W r k else W r k))
  unfold turn
  by_cases h1 : i = r
  · rw [if_pos h1, if_pos h1, if_pos rfl]
  · rw [if_neg h1, if_neg h1, if_neg h1, if_pos rfl]

theorem Stepped.skip {n c : Nat} {W : Nat → Nat → F8} {r : Nat} {p : Nat → Nat} (h : Stepped n c W r p) (hz : ∀ k, r ≤ k → k < n → W k c = f0) : Stepped n (c + 1) W r p :=
  ⟨h.le, fun i hi => by have := h.lt i hi; omega, h.rise, h.at_, fun k j h1 h2 h3 => by
    by_cases e : j = c
    · subst e; exact hz k h1 h2
    · exact h.none k j h1 h2 (by omega)⟩

theorem Stepped.next {n j : Nat} {W : Nat → Nat → F8} {r q : Nat} {p : Nat → Nat} {c : F8} (h : Stepped n j W r p) (hr : r < n) (hq : r ≤ q) (hqn : q < n) (hc : ml (W q j) c = f1) :
    Stepped n (j + 1) (turn W r q j c) (r + 1) (fun i => if i = r then j else p i) := by
  have hqz : ∀ k, k < j → W q k = f0 := fun k hk => h.none q k hq hqn hk
  have hrz : ∀ k, k < j → W r k = f0 := fun k hk => h.none r k (Nat.le_refl _) hr hk
  have hcj : ml c (W q j) = f1 := by rw [mul_comm]; exact hc
  refine ⟨hr, fun i hi => ?_, fun i k hik hk => ?_, fun k i hk hi => ?_, fun k l h1 h2 h3 => ?_⟩
  · show (if i = r then j else p i) < j + 1
    split
    · omega
    · have := h.lt i (by omega); omega
  · show (if i = r then j else p i) < (if k = r then j else p k)
    rw [if_neg (by omega)]
    by_cases e : k = r
    · rw [if_pos e]; exact h.lt i (by omega)
    · rw [if_neg e]; exact h.rise i k hik (by omega)
  · show turn W r q j c k (if i = r then j else p i) = one k i
    by_cases e : i = r
    · rw [if_pos e]
      unfold turn
      by_cases e2 : k = r
      · rw [if_pos e2, hcj]; unfold one; rw [if_pos (by omega)]
      · rw [if_neg e2, hcj, mul_one, add_self]; unfold one; rw [if_neg (by omega)]
    · have hi' : i < r := by omega
      have hpj := h.lt i hi'
      rw [if_neg e]
      unfold turn
      rw [hqz _ hpj, mul_zero, mul_zero, add_zero]
      by_cases e2 : k = r
      · rw [if_pos e2]; unfold one; rw [if_neg (by omega)]
      · rw [if_neg e2]
        by_cases e3 : k = q
        · rw [if_pos e3, hrz _ hpj]; unfold one; rw [if_neg (by omega)]
        · rw [if_neg e3]; exact h.at_ k i hk hi'
  · unfold turn
    rw [if_neg (by omega)]
    by_cases e : l = j
    · subst e; rw [hcj, mul_one, add_self]
    · rw [hqz l (by omega), mul_zero, mul_zero, add_zero]
      by_cases e3 : k = q
      · rw [if_pos e3]; exact hrz l (by omega)
      · rw [if_neg e3]; exact h.none k l (by omega) h2 (by omega)

/-- what the steps tell of the rank -/
theorem Stepped.rank {n m : Nat} {A W : Nat → Nat → F8} {r : Nat} {p : Nat → Nat} (e : RowEq n m A W) (h : Stepped n m W r p) : IsRank n m A r := by
  obtain ⟨E, E', h1, h2⟩ := e
  refine ⟨E', W, E, fun t i => one t (p i), fun i j hi hj => ?_, fun i j hi hj => ?_⟩
  · rw [h2 i j hi hj]
    -- rows behind the steps are noughts
    have cut : ∀ d, r + d ≤ n → mm (r + d) E' W i j = mm r E' W i j := by
      intro d
      induction d with
      | zero => intro _; rfl
      | succ d ih =>
        intro hd
        show ad (sum (r + d) _) (ml (E' i (r + d)) (W (r + d) j)) = _
        rw [h.none (r + d) j (by omega) (by omega) hj, mul_zero, add_zero]
        exact ih (by omega)
    have hle := h.le
    have := cut (n - r) (by omega)
    rw [show r + (n - r) = n by omega] at this
    exact this
  · have hin : i < n := by have := h.le; omega
    have e1 : mm m (mm n E A) (fun t i => one t (p i)) i j = mm m W (fun t i => one t (p i)) i j :=
      mm_congr (fun t ht => (h1 i t hin ht).symm) (fun _ _ => rfl)
    rw [e1]
    show sum m (fun t => ml (W i t) (one t (p j))) = one i j
    rw [sum_one_right m (p j) (h.lt j hj) (fun t => W i t)]
    exact h.at_ i j hin hj

/-- n steps in n columns: step i is in column i -/
theorem Stepped.own {n : Nat} {W : Nat → Nat → F8} {p : Nat → Nat} (h : Stepped n n W n p) : ∀ i, i < n → p i = i := by
  have lo : ∀ i, i < n → i ≤ p i := by
    intro i
    induction i with
    | zero => intro _; exact Nat.zero_le _
    | succ i ih => intro hi; have := ih (by omega); have := h.rise i (i + 1) (by omega) hi; omega
  have hi : ∀ d i, i + d + 1 = n → p i ≤ i := by
    intro d
    induction d with
    | zero => intro i e; have := h.lt i (by omega); omega
    | succ d ih => intro i e; have := ih (i + 1) (by omega); have := h.rise i (i + 1) (by omega) (by omega); omega
  intro i hin
  have := lo i hin
  have := hi (n - 1 - i) i (by omega)
  omega

/-- n steps in n columns beside the one that changes nothing: what stands there takes the matrix back -/
theorem Stepped.inverse {n : Nat} {A W : Nat → Nat → F8} {p : Nat → Nat} (e : RowEq n (n + n) (fun i j => if j < n then A i j else one i (j - n)) W) (h : Stepped n n W n p) :
    ∀ i j, i < n → j < n → mm n A (fun i j => W i (n + j)) i j = one i j := by
  have hp := h.own
  obtain ⟨E, _, h1, _⟩ := e
  apply both
  intro i j hi hj
  have hE : ∀ t, t < n → W i (n + t) = E i t := fun t ht => by
    rw [h1 i (n + t) hi (by omega)]
    have : mm n E (fun i j => if j < n then A i j else one i (j - n)) i (n + t) = sum n (fun s => ml (E i s) (one s t)) :=
      sum_congr fun s _ => by dsimp only; rw [if_neg (by omega), show n + t - n = t by omega]
    rw [this]
    exact sum_one_right n t ht (fun s => E i s)
  have hL : W i j = mm n E A i j := by
    rw [h1 i j hi (by omega)]
    exact mm_congr (fun _ _ => rfl) (fun _ _ => by rw [if_pos hj])
  have := h.at_ i j hi hj
  rw [hp j hj] at this
  rw [← this, hL]
  exact mm_congr (fun t ht => hE t ht) (fun _ _ => rfl)

end Go.Proofs.Ytbhbdhkifkmkbaa.La
