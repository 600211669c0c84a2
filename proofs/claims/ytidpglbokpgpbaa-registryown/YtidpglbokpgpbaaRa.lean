/- Services and views in memory: names, and lists of texts of one's own; copies of texts. -/
import Derived.Test.YtidpglbokpgpbaaAp
import Derived.Test.YtidpglbokpgpbaaHd
import Derived.Test.YtidpglbokpgpbaaShf
import Derived.BigQuiet
namespace Go.Proofs.Ytidpglbokpgpbaa
open Go.RowKit
set_option linter.unusedVariables false
set_option linter.unusedSimpArgs false
set_option maxRecDepth 100000
theorem own_stay {w w' : World} {base : Nat} {e : TypeId} {sz : Nat} {v : Value} {n : Nat} {xs : List Value} (h : w.ownsRow base e sz v n xs) (hb : Below w.heap.size w w') : w'.ownsRow base e sz v n xs := own_blk' h (fun k hk => hb.block k (h.lt k hk).2)
/-- a name with a list of texts, and where that lies -/
structure Hx where
  sv : ByteArray
  eps : List ByteArray
  ea : Option Addr
  ec : Nat
def Hx.row (t : Hx) : List Value := [.string t.sv, .slice t.ea t.eps.length t.ec]
def Hx.val (t : Hx) : Value := .agg #[.string t.sv, .slice t.ea t.eps.length t.ec]
def Hx.says (t : Hx) : ByteArray × List ByteArray := (t.sv, t.eps)
theorem hx_len (x : Hx) : x.row.length = 2 := rfl
theorem hx_one (x : Hx) : ∀ u ∈ x.row, u.oneCell' = true := by
  intro u hu; simp [Hx.row] at hu; rcases hu with rfl | rfl <;> rfl
/-- the list is one's own -/
structure Oh (W : World) (base : Nat) (o : Hx) : Prop where
  own : W.ownsRow base 9 1 (.slice o.ea o.eps.length o.ec) o.eps.length (rowsOf strR o.eps)
  le : o.eps.length ≤ 1048576
  ok : ∀ s ∈ o.eps, okS s
  sz : okS o.sv
theorem Oh.keep {W W' : World} {base : Nat} {o : Hx} (h : Oh W base o) (hk : ∀ k cs, base ≤ k → W.heap[k]? = some (.cells cs 9 (0, 0)) → W'.heap[k]? = W.heap[k]?) : Oh W' base o :=
  ⟨own_blk' h.own (fun k e => by obtain ⟨cs, hc⟩ := own_cells h.own k e; exact hk k cs (h.own.lt k e).1 hc), h.le, h.ok, h.sz⟩
theorem Oh.below {W W' : World} {base : Nat} {o : Hx} (h : Oh W base o) (hb : Below W.heap.size W W') : Oh W' base o := h.keep (fun k cs _ hc => hb.block k (lt_of_block hc))
theorem Oh.low {W : World} {base b' : Nat} {o : Hx} (h : Oh W base o) (hb : b' ≤ base) : Oh W b' o := ⟨own_low' h.own hb, h.le, h.ok, h.sz⟩
theorem Oh.cel {W : World} {base : Nat} {o : Hx} (h : Oh W base o) : Cel W o.ea 1 (o.eps.map strR) := own_cel strR 1 strR_len (by decide) h.own
/-- a list of such, one's own -/
structure Ov (W : World) (base : Nat) (e : TypeId) (v : Value) (os : List Hx) : Prop where
  row : W.ownsRow base e 2 v os.length (rowsOf Hx.row os)
  each : ∀ o ∈ os, Oh W base o
  le : os.length ≤ 1048576
theorem Ov.keep {W W' : World} {base : Nat} {e : TypeId} {v : Value} {os : List Hx} (h : Ov W base e v os) (hk : ∀ k cs t, base ≤ k → W.heap[k]? = some (.cells cs t (0, 0)) → t = 9 ∨ t = e → W'.heap[k]? = W.heap[k]?) : Ov W' base e v os :=
  ⟨own_blk' h.row (fun k e' => by obtain ⟨cs, hc⟩ := own_cells h.row k e'; exact hk k cs _ (h.row.lt k e').1 hc (.inr rfl)), fun o ho => (h.each o ho).keep (fun k cs hb hc => hk k cs 9 hb hc (.inl rfl)), h.le⟩
theorem Ov.below {W W' : World} {base : Nat} {e : TypeId} {v : Value} {os : List Hx} (h : Ov W base e v os) (hb : Below W.heap.size W W') : Ov W' base e v os := h.keep (fun k cs t _ hc _ => hb.block k (lt_of_block hc))
theorem Ov.low {W : World} {base b' : Nat} {e : TypeId} {v : Value} {os : List Hx} (h : Ov W base e v os) (hb : b' ≤ base) : Ov W b' e v os := ⟨own_low' h.row hb, fun o ho => (h.each o ho).low hb, h.le⟩
theorem Ov.nil (W : World) (base : Nat) (e : TypeId) : Ov W base e (.slice none 0 0) [] := ⟨⟨by simp [rowsOf], .inl ⟨rfl, rfl⟩⟩, fun o ho => (by cases ho), by simp⟩
theorem Ov.cel {W : World} {base : Nat} {e : TypeId} {a : Option Addr} {n c : Nat} {os : List Hx} (h : Ov W base e (.slice a n c) os) : Cel W a 2 (os.map Hx.row) := by
  obtain ⟨a', c', e', _⟩ := own_form h.row
  cases e'
  exact own_cel Hx.row 2 hx_len (by decide) h.row
theorem Ov.form {W : World} {base : Nat} {e : TypeId} {v : Value} {os : List Hx} (h : Ov W base e v os) : ∃ a c, v = .slice a os.length c := by
  obtain ⟨a', c', e', _⟩ := own_form h.row
  exact ⟨a', c', e'⟩
theorem app_keep {w w3 : World} {base m mm : Nat} {e : TypeId} {sz : Nat} {v : Value} {xs : List Value} {ob : Obj} (h : w.ownsRow base e sz v m xs) (hg : ((w.alloc ob).drewN mm).grownBy w3 v.ownBlock) {k : Nat} {cs : Array Value} {t : TypeId} {fr : Nat × Nat} (hb : w.heap[k]? = some (.cells cs t fr)) (ht : t ≠ e) : w3.heap[k]? = some (.cells cs t fr) := by
  have hk : k < w.heap.size := lt_of_block hb
  refine Eq.trans (hg.block k (by simp; omega) (fun e' => ?_)) ((Below.heap_alloc w ob k hk).trans hb)
  obtain ⟨c1, hc1⟩ := own_cells h k e'.symm
  rw [hc1] at hb
  injection hb with hb
  injection hb with _ h3
  exact ht h3.symm
theorem own_app {w w3 : World} {base m mm : Nat} {e : TypeId} {sz : Nat} {v : Value} {xs : List Value} {ob : Obj} (h : w.ownsRow base e sz v m xs) (hg : ((w.alloc ob).drewN mm).grownBy w3 v.ownBlock) {b2 : Nat} {e2 : TypeId} {s2 : Nat} {v2 : Value} {n2 : Nat} {x2 : List Value} (h2 : w.ownsRow b2 e2 s2 v2 n2 x2) (ht : e2 ≠ e) : w3.ownsRow b2 e2 s2 v2 n2 x2 :=
  own_blk' h2 (fun k hk => by
    obtain ⟨c1, hc1⟩ := own_cells h2 k hk
    rw [hc1]
    exact app_keep h hg hc1 ht)
theorem Oh.app {w w3 : World} {base m mm : Nat} {e : TypeId} {sz : Nat} {v : Value} {xs : List Value} {ob : Obj} (h : w.ownsRow base e sz v m xs) (he : (9 : TypeId) ≠ e) (hg : ((w.alloc ob).drewN mm).grownBy w3 v.ownBlock) {b2 : Nat} {o : Hx} (ho : Oh w b2 o) : Oh w3 b2 o :=
  ⟨own_app h hg ho.own he, ho.le, ho.ok, ho.sz⟩
/-- one more -/
theorem Ov.more {w w3 : World} {base mm : Nat} {e : TypeId} {v v3 : Value} {os : List Hx} {p : Hx} {ob : Obj} (h : Ov w base e v os) (he : (9 : TypeId) ≠ e) (hr : w3.ownsRow base e 2 v3 (os.length + 1) (rowsOf Hx.row os ++ p.row)) (hg : ((w.alloc ob).drewN mm).grownBy w3 v.ownBlock) (hp : Oh w base p) (hl : os.length + 1 ≤ 1048576) : Ov w3 base e v3 (os ++ [p]) := by
  refine ⟨by rw [List.length_append, rowsOf_append, rowsOf_one]; exact hr, fun o ho => ?_, by simpa using hl⟩
  rcases List.mem_append.1 ho with ho | ho
  · exact Oh.app h.row he hg (h.each o ho)
  · simp at ho; subst ho; exact Oh.app h.row he hg hp
theorem clone_any (s : ByteArray) (w : World) (h : okS s) : Calls Try.prog 29 #[.string s] w fun e w' => e = .returned (.string s) ∧ Below w.heap.size w w' := by
  have hc := Try.stringslite_Clone s w (by unfold okS at h; omega)
  go_enter Try.func29, Try.ntmps29
  go_wp2_with (go_at_call 43; refine hc.mono ?_; rintro e w1 ⟨rfl, hb⟩)
  go_ret
  exact ⟨rfl, hb⟩
theorem made_row {w w1 : World} {v : Value} {e : TypeId} {sz : Nat} (hown : w1.ownsRow w.heap.size e sz v 0 []) (hg : w.grownBy w1 none) : Below w.heap.size w w1 := (Below.refl _ w).grown hg (Nat.le_refl _) (fun k h => by cases h)
set_option maxHeartbeats 8000000 in
theorem copies_any (w : World) (a : Option Addr) (n c : Nat) (L : List ByteArray) (hn : L.length = n) (hl : n ≤ 4398046511104) (hS : Cel w a 1 (L.map strR)) (hok : ∀ s ∈ L, okS s) :
    Calls Try.prog 25 #[.slice a n c] w fun e w' => ∃ v, e = .returned v ∧ w'.ownsRow w.heap.size 9 1 v n (rowsOf strR L) ∧ Below w.heap.size w w' := by
  have HS := hideL hS
  have HN := hideL hn
  have HK := hideL hok
  clear hS hn hok
  obtain ⟨i9, hi9, hx0, hx1, hx2⟩ := info_parts Try.info9
  go_enter Try.func25, Try.ntmps25
  go_wp2_with (at_make; refine wpList_make_own _ rfl (.const (.int .i64 0)) (.tmp 7) 40 rfl w.heap.size 9 i9 _ 1 Try.underlying40 hi9 hx0 hx1 .i64 .i64 (n : Int) n rfl rfl (by omega) (by rw [hx2]; omega) (by unfold maxLen; omega) (Nat.le_refl _) ?_; intro w1 hown1 hgrow1; have HO1 := hideL hown1; have HB1 := hideL (made_row hown1 hgrow1); clear hown1 hgrow1)
  go_loopw [3, 11] (fun v t wr => ∃ (i : Nat), t = .int .i64 i ∧ i ≤ n ∧ wr.ownsRow w.heap.size 9 1 v i (rowsOf strR (L.take i)) ∧ Below w.heap.size w wr) (fun _ t _ => n - (intOf t).toNat)
  case atStart => exact ⟨0, rfl, by omega, by simpa [rowsOf] using HO1.out, HB1.out⟩
  case round =>
    obtain ⟨i, rfl, hi, hown, hbel⟩ := hrel
    have i0 : (0 : Int) ≤ i := by omega
    obtain ⟨va, vc, rfl, _, hvc, hvm⟩ := own_form hown
    have HOW := hideL hown
    have HB := hideL hbel
    have hlm : i + 1 ≤ maxLen := by unfold maxLen; omega
    have hlb : (i + 1) * 16 ≤ 140737488355328 := by omega
    clear hown hbel HO1 HB1
    by_cases h3 : i < n
    · have h3' : (i : Int) < n := by omega
      rcases hki : L[i]? with _ | o
      · have := List.getElem?_eq_none_iff.1 hki; have := HN.out; omega
      obtain ⟨g, off, rfl, hc⟩ := (HS.out.below HB.out).at_ hki
      have c0 := hc 0 _ rfl
      rw [Nat.add_zero, Nat.mul_one] at c0
      have HTR := hideL (take_rows strR hki)
      have hoko := HK.out o (List.mem_of_getElem? hki)
      clear hc hki
      go_wp2_with fail
      refine (clone_any o _ hoko).mono ?_
      rintro e w2 ⟨rfl, hb2⟩
      have HB2 := hideL (HB.out.trans (hb2.mono HB.out.size))
      have HO2 := hideL (own_blk' HOW.out (fun k hk => hb2.block k (HOW.out.lt k hk).2))
      clear hb2 c0
      have HOD : Hid ((w2.alloc (Obj.cells #[.string o] 9)).ownsRow w.heap.size 9 1 (.slice va i vc) i (rowsOf strR (L.take i))) := HO2.out.alloc _
      have HND : Hid (∀ j u, (strR o)[j]? = some u → (w2.alloc (Obj.cells #[.string o] 9)).cell? ((⟨w2.heap.size, 0, none⟩ : Addr).add j) = some u) := World.news_of_block (w := (w2.alloc (Obj.cells #[.string o] 9))) (Go.heap_alloc_new w2 _)
      have hszD : w.heap.size ≤ (w2.alloc (Obj.cells #[.string o] 9)).heap.size := Nat.le_trans HB2.out.size (by simp)
      go_wp2_with (at_builtin; refine wpList_append_at _ rfl (.tmp 15) (.tmp 18) 40 rfl w.heap.size 9 i9 _ 1 16 Try.underlying40 hi9 hx0 hx1 hx2 rfl (by decide) (.slice va i vc) i (rowsOf strR (L.take i)) rfl HOD.out ⟨w2.heap.size, 0, none⟩ 1 1 (strR o) rfl rfl HND.out (strR_one _) hlm hlb hszD ?_; intro v3 w3 hown3 hgrow3 hat3; have HB3 := hideL (below_app (mm := 0) HO2.out HB2.out.size hgrow3); have HO3 := hideL hown3; clear hown3 hgrow3 hat3)
      have HF : Hid (w3.ownsRow w.heap.size 9 1 v3 (i + 1) (rowsOf strR (L.take (i + 1)))) := by rw [HTR.out]; exact HO3.out
      go_roundw
      case rel => exact ⟨i + 1, by go_num, by omega, HF.out, HB2.out.trans HB3.out⟩
      case measure => simp [intOf]; omega
    · have h3' : ¬ (i : Int) < n := by omega
      obtain rfl : i = n := by omega
      have HF : Hid (wr.ownsRow w.heap.size 9 1 (.slice va i vc) i (rowsOf strR L)) := by
        have h1 := HOW.out
        rwa [List.take_of_length_le (by have := HN.out; omega)] at h1
      go_wp2
      go_ret
      exact ⟨_, rfl, HF.out, HB.out⟩
end Go.Proofs.Ytidpglbokpgpbaa
