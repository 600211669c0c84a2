/-
  What the rows' frames share: bytes and texts opened, the world's shape.
-/
import Derived.Test.YtjmgngocpokpgaaDoorAwk
import Derived.Test.YtjmgngocpokpgaaDoorRows
import Derived.ProofKit
import Derived.OpenShut
import Derived.ChangeOld
import Derived.Stop.Joined
import Derived.SizedLaws
import Derived.ChangeMaps5
import Derived.Shelf.Vars
namespace Go.Proofs.YtjmgngocpokpgaaDoor
open Go.ChangeShapes Go.WideShapes Go.ChangeAt Go.RowKit
set_option linter.unusedVariables false
set_option linter.unusedSimpArgs false
theorem own : ownKnob Tryd.prog.godebug = none := by kernel_rfl
theorem laidOut : laidOutB Tryd.prog = true := by kernel_rfl
theorem bytes5 : Tryd.prog.bytesOf 5 = 1 := by kernel_rfl
theorem hasM_of {W : World} (hsh : W.ShapedOpen Tryd.prog) : HasM W :=
  cell_of_shapedOpen_int (P := Tryd.prog) (g := 0) (t := 3) (zero := #[.int .i64 0]) hsh (of_decide_eq_true (by kernel_rfl)) (by kernel_rfl) rfl (by kernel_rfl) (by kernel_rfl) Tryd.underlying3
theorem octets_of_wf {zs : List Int} (h : ∀ n ∈ zs, (Lit.int .u8 n).wf = true) : Octets zs := fun i => by
  by_cases hi : i < zs.length
  · have := bounds_u8 (h zs[i] (List.getElem_mem hi))
    simp [hi]; omega
  · simp [Nat.le_of_not_lt hi]

/-- A slice of bytes that came in. -/
theorem open_bytes {H : Type} {enc : TypeId × Value → H} {W : World} {a : Option Addr} {len cap : Nat} {d : DataW H} {p : List MemPlace} {ts : List TypeId} {ds : List (DataW H)} {j : Nat}
    (h : DataW.Trod enc Tryd.prog W 0 (fun _ => true) true 22 (.slice a len cap) d p) (hsz : (DataW.weightsEach Tryd.prog ts ds).all (· ≤ reachBytes) = true) (ht : ts[j]? = some 22) (hd : ds[j]? = some d) :
    ∃ zs, Bs W a len cap zs ∧ cap ≤ 140737488351232 := by
  obtain ⟨fuel, hf⟩ := h
  rcases open_ints Tryd.underlying22 Tryd.underlying5 (by kernel_rfl) hf with ⟨hcs, _⟩ | ⟨x, l, c, zs, hcs, _, hl, hm, hz, hx, hcell, hwz⟩
  · simp [Value.cells] at hcs
    obtain ⟨rfl, rfl, rfl⟩ := hcs
    exact ⟨[], Bs.nil W, by decide⟩
  · simp [Value.cells] at hcs
    obtain ⟨rfl, rfl, rfl⟩ := hcs
    simp only [Prod.mk.injEq] at hx
    obtain ⟨rfl, _⟩ := hx
    have hs := sized_slice hsz (j := j) (t := 22) (e := 5) ht hd Tryd.underlying22
    rw [bytes5] at hs
    simp only [lits, List.length_map, List.length_take, List.length_drop, reachBytes] at hs
    have hzl : zs.length = cap := by simpa using hz
    refine ⟨zs.take len, ⟨by simp; omega, ?_, (octets_of_wf hwz).take len, (fun h => by cases h), hl, hm, by omega⟩, by omega⟩
    refine .inr ⟨x, rfl, fun j hj => ?_⟩
    have hj' : j < len := by simp at hj; omega
    rw [hcell j (by omega)]; simp [List.getD, hj']
theorem bulk_one {H : Type} (d : DataW H) : 1 ≤ Rows.uptoBulk d := by
  cases d with
  | lit l => cases l <;> simp [Rows.uptoBulk]
  | nil => simp [Rows.uptoBulk]
  | ptr d => simp [Rows.uptoBulk]
  | slice elems spare => simp [Rows.uptoBulk]
  | agg parts => simp [Rows.uptoBulk]
  | iface t d => simp [Rows.uptoBulk]
  | map entries => simp [Rows.uptoBulk]
  | held h => simp [Rows.uptoBulk]
theorem bulk_part {H : Type} {d : DataW H} {l : List (DataW H)} (h : d ∈ l) : Rows.uptoBulk d ≤ Rows.uptoBulkAll l := by
  induction l with
  | nil => cases h
  | cons x r ih =>
    simp only [Rows.uptoBulkAll]
    cases List.mem_cons.1 h with
    | inl e => subst e; omega
    | inr e => have := ih e; omega
theorem bulk_length {H : Type} (l : List (DataW H)) : l.length ≤ Rows.uptoBulkAll l := by
  induction l with
  | nil => simp [Rows.uptoBulkAll]
  | cons x r ih => have := bulk_one x; simp only [Rows.uptoBulkAll, List.length_cons]; omega

theorem open_bytes_upto {H : Type} {enc : TypeId × Value → H} {W : World} {a : Option Addr} {len cap : Nat} {d : DataW H} {p : List MemPlace} {ts : List TypeId} {ds : List (DataW H)} {j : Nat}
    (h : DataW.Trod enc Tryd.prog W 0 (fun _ => true) true 22 (.slice a len cap) d p) (hsz : (DataW.weightsEach Tryd.prog ts ds).all (· ≤ reachBytes) = true) (ht : ts[j]? = some 22) (hd : ds[j]? = some d) (hb : Rows.uptoBulkAll ds ≤ 1048576) :
    ∃ zs, Bs W a len cap zs ∧ cap ≤ 140737488351232 ∧ cap ≤ 1048576 := by
  obtain ⟨zs, hB, hc⟩ := open_bytes h hsz ht hd
  refine ⟨zs, hB, hc, ?_⟩
  have hm : d ∈ ds := List.mem_of_getElem? hd
  have h1 := bulk_part hm
  obtain ⟨fuel, hf⟩ := h
  rcases open_ints Tryd.underlying22 Tryd.underlying5 (by kernel_rfl) hf with ⟨hcs, _⟩ | ⟨x, l, c, ys, hcs, _, hl, hm, hz, hx, hcell, hwz⟩
  · simp [Value.cells] at hcs
    obtain ⟨rfl, rfl, rfl⟩ := hcs
    decide
  · simp [Value.cells] at hcs
    obtain ⟨rfl, rfl, rfl⟩ := hcs
    simp only [Prod.mk.injEq] at hx
    obtain ⟨rfl, _⟩ := hx
    have hzl : ys.length = cap := by simpa using hz
    simp only [Rows.uptoBulk] at h1
    have l1 := bulk_length (lits (H := H) .u8 (ys.take len))
    have l2 := bulk_length (lits (H := H) .u8 (ys.drop len))
    simp only [lits, List.length_map, List.length_take, List.length_drop] at l1 l2
    simp only [lits] at h1
    omega

/-- Bytes as a list. -/
theorem list_of (zs : List Int) (h : Octets zs) : ∃ l : List UInt8, zL l = zs := by
  refine ⟨zs.map fun z => UInt8.ofNat z.toNat, ?_⟩
  unfold zL
  rw [List.map_map]
  refine List.ext_getElem (by simp) (fun i h1 h2 => ?_)
  have := h i
  simp [h2] at this
  simp
  omega
theorem open_list {H : Type} {enc : TypeId × Value → H} {W : World} {a : Option Addr} {len cap : Nat} {d : DataW H} {p : List MemPlace} {ts : List TypeId} {ds : List (DataW H)} {j : Nat}
    (h : DataW.Trod enc Tryd.prog W 0 (fun _ => true) true 22 (.slice a len cap) d p) (hsz : (DataW.weightsEach Tryd.prog ts ds).all (· ≤ reachBytes) = true) (ht : ts[j]? = some 22) (hd : ds[j]? = some d) :
    ∃ l : List UInt8, l.length = len ∧ Has W a (zL l) ∧ (a = none → cap = 0) ∧ len ≤ 140737488351232 := by
  obtain ⟨zs, hB, hc⟩ := open_bytes h hsz ht hd
  obtain ⟨l, rfl⟩ := list_of zs hB.oct
  have hl := hB.len
  rw [zL_length] at hl
  exact ⟨l, hl, hB.has, hB.bare, Nat.le_trans hB.fits hc⟩
theorem str_upto {H : Type} {s : ByteArray} {ds : List (DataW H)} {j : Nat} (hd : ds[j]? = some (.lit (.string s.data.toList))) (hb : Rows.uptoBulkAll ds ≤ 1048576) : s.size ≤ 1048576 := by
  have h1 := bulk_part (List.mem_of_getElem? hd)
  have h2 : Rows.uptoBulk (H := H) (.lit (.string s.data.toList)) = s.data.toList.length + 1 := by simp [Rows.uptoBulk]
  rw [h2] at h1
  have : s.size = s.data.toList.length := size_list s
  omega
end Go.Proofs.YtjmgngocpokpgaaDoor
