/-
  The refusals: a map; leave.
-/
import Derived.Test.YtcbnmoppnoiggaaApt
import Derived.Maps.Views
import Derived.Maps.OwnOps
import Derived.Carry
import Derived.Laws.Cover3
namespace Go.Proofs.Ytcbnmoppnoiggaa
open Go.RowKit
set_option linter.unusedVariables false
set_option linter.unusedSimpArgs false
/-- A map in memory that says so many of each name. -/
def MapIs (w : World) (base : Nat) (mv : Value) (f : ByteArray → Int) (bound : Nat) : Prop :=
  (mv = .map none ∧ ∀ nm, f nm = 0) ∨ ∃ m D, mv = .map (some m) ∧ base ≤ m ∧ w.ownsMap Try.prog 9 (plainElem (H := Unit) Try.prog 3) m bound D ∧ Go.Maps.IsMap D ∧ ∀ nm, D.atKey (.string nm.data.toList) (.lit (.int .i64 0)) = .lit (.int .i64 (f nm))
def mblk : Value → List Nat
  | .map (some m) => [m]
  | _ => []
theorem MapIs.look {w : World} {base : Nat} {mv : Value} {f : ByteArray → Int} {bound : Nat} (h : MapIs w base mv f bound) (nm : ByteArray) (hs : nm.size ≤ maxLen) : (Instr.lookup 53 mv (.string nm) false).run Try.prog w = .ok (.int .i64 (f nm)) w := by
  rcases h with ⟨rfl, h0⟩ | ⟨m, D, rfl, _, hown, _, hat⟩
  · rw [h0]; exact look_none nm hs w
  · obtain ⟨c, hrun, hc, _⟩ := hown.lookup_int (Go.Maps.string_keyed Try.underlying9) Try.underlying53 Try.underlying3 (zero3 w) (Go.WideMaps.keyOf_string_mk Try.underlying9 hs)
    rw [hat] at hc
    injection hc with hc
    injection hc with _ hc
    rw [hc]; exact hrun
theorem MapIs.shape {w : World} {base : Nat} {mv : Value} {f : ByteArray → Int} {bound : Nat} (h : MapIs w base mv f bound) : ∃ m, mv = .map m := by
  rcases h with ⟨rfl, _⟩ | ⟨m, D, rfl, _⟩ <;> exact ⟨_, rfl⟩
theorem map_out {w : World} {base b : Nat} {row mv : Value} {cs : List Cn} (N : Net w base b row mv cs) {m : Nat} {es : Array MapEntry} {clock : Nat} (hm : w.heap[m]? = some (.map es clock)) : m ∉ blocks b row cs := by
  intro hk
  simp only [blocks, List.mem_cons, List.mem_append, List.mem_flatMap, Option.mem_toList, Option.mem_def] at hk
  rcases hk with rfl | hk | ⟨c, hc, hk⟩
  · rw [N.net] at hm; cases hm
  · rcases N.rw.2 with ⟨e, _⟩ | ⟨g, cap, cur, rfl, hb, hg, _⟩
    · rw [e] at hk; cases hk
    · cases hk; rw [hg] at hm; cases hm
  · have C := N.con c hc
    have tb : ∀ {v : Value} {zs : List Int}, Buf w base v zs → v.ownBlock = some m → False := fun {v zs} hB e => by
      obtain ⟨cur, hg⟩ := hB.typ e
      rw [hg] at hm; cases hm
    simp only [Cn.blocks, Sd.blocks, List.mem_cons, List.mem_append, Option.mem_toList, Option.mem_def] at hk
    rcases hk with rfl | (h | h) | (h | h)
    · rw [C.blk] at hm; cases hm
    · exact tb C.u0 h
    · exact tb C.a0 h
    · exact tb C.u1 h
    · exact tb C.a1 h
def fupd (f : ByteArray → Int) (nm : ByteArray) (t : Int) : ByteArray → Int := fun x => if x = nm then t else f x
theorem key_ne {a b : ByteArray} (h : ¬ a = b) : Lit.string a.data.toList ≠ Lit.string b.data.toList := fun e => by
  injection e with e
  obtain ⟨x⟩ := a
  obtain ⟨y⟩ := b
  exact h (congrArg ByteArray.mk (Array.toList_inj.1 e))
structure Left (w w' : World) (base b : Nat) (row mv : Value) (cs : List Cn) (mv' : Value) (f' : ByteArray → Int) (bound : Nat) : Prop where
  net : Net w' base b row mv' cs
  map : MapIs w' base mv' f' bound
  turn : Turn w w' (blocks b row cs ++ mblk mv)
  sub : ∀ k ∈ mblk mv', k ∈ mblk mv ∨ w.heap.size ≤ k
set_option maxHeartbeats 1000000 in
theorem leave_any (base b : Nat) (row mv : Value) (cs : List Cn) (f : ByteArray → Int) (bound : Nat) (nm : ByteArray) (t : Int) (w : World) (h : Net w base b row mv cs) (hm : MapIs w base mv f bound) (hs : nm.size ≤ maxLen) (hb : bound < 1000000000) (ht : 0 ≤ t) (htw : (Lit.int .i64 t).wf = true) :
    Calls Try.prog 33 #[.pointer (some ⟨b, 0, none⟩), .string nm, .int .i64 t] w fun e w' => e = .returned (.tuple #[]) ∧ ∃ mv', Left w w' base b row mv cs mv' (fupd f nm t) (bound + 1) := by
  have hkey := Go.WideMaps.keyOf_string_mk Try.underlying9 hs
  have hbase : base ≤ w.heap.size := Nat.le_trans h.low (Nat.le_of_lt (lt_of_block h.net))
  rcases hm with ⟨rfl, h0⟩ | ⟨m, D, rfl, hbm, hown, hD, hat⟩
  · have c1 : w.cell? ⟨b, 1, none⟩ = some (.map none) := by rw [cell_block h.net]; rfl
    have z1 : w.frozen? ⟨b, 1, none⟩ = false := by simp [World.frozen?, h.net]
    by_cases ht0 : t = 0
    · subst ht0
      have FI : Hid (Left w w base b row (.map none) cs (.map none) (fupd f nm 0) (bound + 1)) := ⟨h, .inl ⟨rfl, fun x => by unfold fupd; split <;> simp [h0]⟩, Turn.refl _ _, fun _ h => .inl h⟩
      have hdel := fun ty => Go.Maps.drop_nil (w := w) (Go.Maps.string_keyed Try.underlying9) Try.underlying53 hkey ty
      clear h
      go_enter Try.func33, Try.ntmps33
      go_wp2_with fail
      first | (refine bodyPost_ret (results_none rfl _ _ _) rfl ?_) | (refine bodyPost_end (results_none rfl _ _ _) rfl ?_)
      exact ⟨rfl, _, FI.out⟩
    · have hmk := @run_makeMap Try.prog
      have htb : (t == 0) = false := beq_eq_false_iff_ne.2 ht0
      have hlb := lt_of_block h.net
      have h2 : Hid (∀ w2 : World, ((w.setCell ⟨b, 1, none⟩ (.map (some w.heap.size))).alloc (.map #[] 0)).grownBy w2 (some w.heap.size) → w2.ownsMap Try.prog 9 (plainElem (H := Unit) Try.prog 3) w.heap.size (0 + 1) ((DataW.map []).put (.string nm.data.toList) (.lit (.int .i64 t))) → Left w w2 base b row (.map none) cs (.map (some w.heap.size)) (fupd f nm t) (bound + 1)) := fun w2 hg hown => by
        have hs2 : ((w.setCell ⟨b, 1, none⟩ (.map (some w.heap.size))).alloc (.map #[] 0)).heap.size = w.heap.size + 1 := by simp
        have hz := hg.size
        have old : ∀ k, k < w.heap.size → k ≠ b → w2.heap[k]? = w.heap[k]? := fun k hk hkb =>
          (hg.block k (by omega) (fun e => by injection e with e; omega)).trans ((Below.heap_alloc _ _ _ (by simp; omega)).trans (Below.heap_setCell _ _ _ k hkb))
        have hb0 : w2.heap[b]? = some (.cells #[row, .map (some w.heap.size)] 55 (0, 0)) :=
          (hg.block b (by omega) (fun e => by injection e with e; omega)).trans ((Below.heap_alloc _ _ _ (by simp; omega)).trans ((block_setCell h.net 1 _).trans rfl))
        have nb := h.nod
        simp only [blocks, List.nodup_cons, List.mem_append, Option.mem_toList, Option.mem_def] at nb
        refine ⟨⟨hb0, h.low, own_block h.rw (fun k e => old k (h.lt k (by simp [blocks, e])).2 (fun e' => nb.1 (.inl (e' ▸ e)))), fun c hc => (h.con c hc).keep fun k hk => ?_, h.nod, h.few⟩, .inr ⟨_, _, rfl, hbase, hown.mono (by omega), Go.Maps.isMap_empty.put _ _, fun x => ?_⟩, ?_, fun k hk => .inr (by simp [mblk] at hk; omega)⟩
        · have hkF : k ∈ cs.flatMap Cn.blocks := List.mem_flatMap.2 ⟨c, hc, hk⟩
          exact old k (h.lt k (by simp only [blocks, List.mem_cons, List.mem_append]; exact .inr (.inr hkF))).2 (fun e' => nb.1 (.inr (e' ▸ hkF)))
        · unfold fupd
          by_cases e : x = nm
          · subst e; rw [if_pos rfl, Go.Maps.atKey_put_same Go.Maps.isMap_empty (by trivial)]
          · rw [if_neg e, Go.Maps.atKey_put_other (key_ne e), h0]; rfl
        · exact ⟨hg.os, hg.tape, hg.output, by omega, fun k hk hn => old k hk (fun e => hn (by simp [blocks, e]))⟩
      have hom : Hid (((w.setCell ⟨b, 1, none⟩ (.map (some w.heap.size))).alloc (.map #[] 0)).ownsMap Try.prog 9 (plainElem (H := Unit) Try.prog 3) w.heap.size 0 (.map [])) := by
        have hz : (w.setCell ⟨b, 1, none⟩ (.map (some w.heap.size))).heap.size = w.heap.size := by simp
        have := World.ownsMap_made (H := Unit) (w.setCell ⟨b, 1, none⟩ (.map (some w.heap.size))) Try.prog 9 (plainElem (H := Unit) Try.prog 3)
        rw [hz] at this
        exact this
      have e1 : (w.alloc (.map #[] 0)).cell? ⟨b, 1, none⟩ = some (.map none) := Lib.cell?_alloc_marked _ c1
      have ez : (w.alloc (.map #[] 0)).frozen? ⟨b, 1, none⟩ = false := by rw [World.frozen?_of_block (Below.heap_alloc _ _ _ hlb)]; exact z1
      have hmeq : ∀ w : World, (binOp .eql 53 (.map none) (.map none)).run Try.prog w = .ok (.bool true) w := fun w => by
        have := run_equal_map_nil (P := Try.prog) (w := w) 53 9 3 none Try.underlying53
        simp [binOp, this, Result.andThen]
      clear h
      go_enter Try.func33, Try.ntmps33
      go_wp2_with (at_mapUpdate; refine wpList_mapUpdate_own _ rfl _ _ _ 53 rfl 9 3 (Go.Maps.string_keyed Try.underlying9) Try.underlying53 _ w.heap.size 0 (.map []) rfl hom.out (by decide) _ _ _ rfl rfl hkey _ [] (plainElem_int Try.underlying3 htw) ?_; intro w2 hown2 hgrow2; have FI := h2.out w2 hgrow2 hown2; clear hown2 hgrow2)
      first | (refine bodyPost_ret (results_none rfl _ _ _) rfl ?_) | (refine bodyPost_end (results_none rfl _ _ _) rfl ?_)
      exact ⟨rfl, _, FI⟩
  · have c1 : w.cell? ⟨b, 1, none⟩ = some (.map (some m)) := by rw [cell_block h.net]; rfl
    have hme : ∃ es clock, w.heap[m]? = some (.map es clock) := by obtain ⟨es, clock, hb1, _⟩ := hown; exact ⟨es, clock, hb1⟩
    obtain ⟨es, clock, hmb⟩ := hme
    have hout := map_out h hmb
    have FI : ∀ (w2 : World) (D' : DataW Unit) (n' : Nat) (t' : Int), w.grownBy w2 (some m) → w2.ownsMap Try.prog 9 (plainElem (H := Unit) Try.prog 3) m n' D' → n' ≤ bound + 1 → Go.Maps.IsMap D' → (∀ x, D'.atKey (.string x.data.toList) (.lit (.int .i64 0)) = .lit (.int .i64 (fupd f nm t' x))) → Left w w2 base b row (.map (some m)) cs (.map (some m)) (fupd f nm t') (bound + 1) := fun w2 D' n' t' hg hown' hn' hD' hat' =>
      ⟨h.grown hg (fun g e => by injection e with e; exact e ▸ hout), .inr ⟨m, D', rfl, hbm, hown'.mono hn', hD', hat'⟩, (Turn.grown hg).mono (fun k hk => .inl (by simp at hk; simp [mblk, hk])), fun _ h => .inl h⟩
    have HF : Hid (∀ (w2 : World) (D' : DataW Unit) (n' : Nat) (t' : Int), w.grownBy w2 (some m) → w2.ownsMap Try.prog 9 (plainElem (H := Unit) Try.prog 3) m n' D' → n' ≤ bound + 1 → Go.Maps.IsMap D' → (∀ x, D'.atKey (.string x.data.toList) (.lit (.int .i64 0)) = .lit (.int .i64 (fupd f nm t' x))) → Left w w2 base b row (.map (some m)) cs (.map (some m)) (fupd f nm t') (bound + 1)) := FI
    have HOW : Hid (w.ownsMap Try.prog 9 (plainElem (H := Unit) Try.prog 3) m bound D) := hown
    have hbm' : bound < maxLen := by have : (1000000000 : Nat) ≤ maxLen := by decide
                                     omega
    clear h FI hmb hown
    by_cases ht0 : t = 0
    · subst ht0
      go_enter Try.func33, Try.ntmps33
      go_wp2_with (at_delete; refine wpList_delete_own _ rfl _ _ 53 9 rfl 3 (Go.Maps.string_keyed Try.underlying9) Try.underlying53 _ m bound D rfl HOW.out _ _ rfl hkey ?_; intro w2 hown2 hturn2; have FI := HF.out w2 _ bound 0 hturn2.grown hown2 (by omega) (hD.del _) (fun x => by unfold fupd; by_cases e : x = nm; (subst e; rw [if_pos rfl, Go.Maps.atKey_del_same]); rw [if_neg e, Go.Maps.atKey_del_other (key_ne e), hat]); clear hown2 hturn2)
      first | (refine bodyPost_ret (results_none rfl _ _ _) rfl ?_) | (refine bodyPost_end (results_none rfl _ _ _) rfl ?_)
      exact ⟨rfl, _, FI⟩
    · have htb : (t == 0) = false := beq_eq_false_iff_ne.2 ht0
      have hmeq : ∀ w : World, (binOp .eql 53 (.map (some m)) (.map none)).run Try.prog w = .ok (.bool false) w := fun w => by
        have := run_equal_map_nil (P := Try.prog) (w := w) 53 9 3 (some m) Try.underlying53
        simp [binOp, this, Result.andThen]
      go_enter Try.func33, Try.ntmps33
      go_wp2_with (at_mapUpdate; refine wpList_mapUpdate_own _ rfl _ _ _ 53 rfl 9 3 (Go.Maps.string_keyed Try.underlying9) Try.underlying53 _ m bound D rfl HOW.out hbm' _ _ _ rfl rfl hkey _ [] (plainElem_int Try.underlying3 htw) ?_; intro w2 hown2 hgrow2; have FI := HF.out w2 _ (bound + 1) t hgrow2 hown2 (Nat.le_refl _) (hD.put _ _) (fun x => by unfold fupd; by_cases e : x = nm; (subst e; rw [if_pos rfl, Go.Maps.atKey_put_same hD (by trivial)]); rw [if_neg e, Go.Maps.atKey_put_other (key_ne e), hat]); clear hown2 hgrow2)
      first | (refine bodyPost_ret (results_none rfl _ _ _) rfl ?_) | (refine bodyPost_end (results_none rfl _ _ _) rfl ?_)
      exact ⟨rfl, _, FI⟩
end Go.Proofs.Ytcbnmoppnoiggaa
