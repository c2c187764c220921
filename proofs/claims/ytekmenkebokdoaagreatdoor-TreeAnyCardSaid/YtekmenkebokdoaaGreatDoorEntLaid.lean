/-
  From what a row lists of the package-level variables, and the world's shape, to what the walks of entity ask of the world.
-/
import Derived.Test.YtekmenkebokdoaaGreatDoorEntNum
import Derived.Lib.LaidU8
namespace Go.Proofs.YtekmenkebokdoaaGreatDoor
open Go.RowKit
set_option maxRecDepth 100000

def basesData : DataW Unit := Lib.tabData .i64 [10, 16]
def namedData (l : List UInt8) (c : Int) (b : Bool) : DataW Unit := .agg [.lit (.string l), .lit (.int .u8 c), .lit (.bool b)]
def namesData : DataW Unit := .agg [namedData [97, 109, 112] 38 true, namedData [108, 116] 60 true, namedData [103, 116] 62 true, namedData [113, 117, 111, 116] 34 true, namedData [97, 112, 111, 115] 39 false]
def synData : DataW Unit := .iface "*errors.errorString" (.ptr (.agg [.lit (.string [105, 110, 118, 97, 108, 105, 100, 32, 115, 121, 110, 116, 97, 120])]))

theorem ent_bases {W : World} (h : Lib.VarReads Tryz.prog W "galliard/entity.bases" basesData) : Lib.TabIs Tryz.prog W "galliard/entity.bases" .i64 [10, 16] := by
  obtain ⟨g, t, cs, fuel, p, hg, ht, hv, hd⟩ := h
  have hg' : Tryz.prog.globalNamed "galliard/entity.bases" = some 4 := by kernel_rfl
  obtain rfl := Option.some.inj (hg'.symm.trans hg)
  have ht' : (Tryz.prog.globals[4]?).map (·.type) = some 45 := by kernel_rfl
  obtain rfl := Option.some.inj (ht'.symm.trans ht)
  have hc := Lib.cells_of_tab Tryz.underlying45 Tryz.underlying3 (by kernel_rfl) (by kernel_rfl) hd
  unfold Lib.TabIs
  rw [hv, ← hc]
/-- A struct of a name, a letter and a mark, that reads so. -/
theorem ent_named {W : World} {fuel : Nat} {cs : List Value} {p : List MemPlace} {l : List UInt8} {c : Int} {b : Bool}
    (h : DataW.trod (fun _ => ()) Tryz.prog W 0 (fun _ => true) false fuel 152 cs = some (namedData l c b, p)) : cs = [.string ⟨l.toArray⟩, .int .u8 c, .bool b] := by
  obtain ⟨xs, n, rfl, hx, hcl, hxl, hall⟩ := DataW.trod_struct Tryz.underlying152 h
  have hc3 : Tryz.prog.cellsOf 152 = 3 := by kernel_rfl
  have hcs : Tryz.prog.cellsOf 9 = 1 := by kernel_rfl
  have hcb : Tryz.prog.cellsOf 5 = 1 := by kernel_rfl
  have hcd : Tryz.prog.cellsOf 4 = 1 := by kernel_rfl
  rw [hc3] at hcl
  have f0 : DataW.trod (fun _ => ()) Tryz.prog W 0 (fun _ => true) false n 9 ((cs.drop 0).take (Tryz.prog.cellsOf 9)) = xs[0]? := hall 0 _ rfl
  have f1 : DataW.trod (fun _ => ()) Tryz.prog W 0 (fun _ => true) false n 5 ((cs.drop 1).take (Tryz.prog.cellsOf 5)) = xs[1]? := hall 1 _ rfl
  have f2 : DataW.trod (fun _ => ()) Tryz.prog W 0 (fun _ => true) false n 4 ((cs.drop 2).take (Tryz.prog.cellsOf 4)) = xs[2]? := hall 2 _ rfl
  rw [hcs] at f0
  rw [hcb] at f1
  rw [hcd] at f2
  have hxl' : xs.length = 3 := by simpa using hxl
  match xs, hxl', cs, hcl with
  | [x0, x1, x2], _, [c0, c1, c2], _ =>
    simp at f0 f1 f2
    obtain ⟨s0, e0, d0, _⟩ := DataW.trod_string Tryz.underlying9 f0
    obtain ⟨n1, e1, d1, _⟩ := DataW.trod_int Tryz.underlying5 f1
    obtain ⟨b2, e2, d2⟩ := DataW.trod_bool Tryz.underlying4 f2
    simp at e0 e1 e2
    subst e0 e1 e2 d0 d1 d2
    unfold namedData at hx
    simp at hx
    obtain ⟨⟨h0, h1, h2⟩, _⟩ := hx
    subst h0 h1 h2
    simp
theorem ent_names {W : World} (h : Lib.VarReads Tryz.prog W "galliard/entity.names" namesData) : ∃ t fr, W.heap[3]? = some (.cells nameCells t fr) := by
  obtain ⟨g, t, cs, fuel, p, hg, ht, hv, hd⟩ := h
  have hg' : Tryz.prog.globalNamed "galliard/entity.names" = some 3 := by kernel_rfl
  obtain rfl := Option.some.inj (hg'.symm.trans hg)
  have ht' : (Tryz.prog.globals[3]?).map (·.type) = some 153 := by kernel_rfl
  obtain rfl := Option.some.inj (ht'.symm.trans ht)
  have hc3 : Tryz.prog.cellsOf 152 = 3 := by kernel_rfl
  have k0 : (cs.toList.drop 0).take 3 = [.string ⟨#[97, 109, 112]⟩, .int .u8 38, .bool true] := by
    obtain ⟨f', d, q, h1, h2⟩ := Lib.array_elem Tryz.underlying153 hd 0 (by omega)
    rw [hc3] at h2
    obtain rfl : namedData [97, 109, 112] 38 true = d := Option.some.inj h1
    exact ent_named h2
  have k1 : (cs.toList.drop 3).take 3 = [.string ⟨#[108, 116]⟩, .int .u8 60, .bool true] := by
    obtain ⟨f', d, q, h1, h2⟩ := Lib.array_elem Tryz.underlying153 hd 1 (by omega)
    rw [hc3] at h2
    obtain rfl : namedData [108, 116] 60 true = d := Option.some.inj h1
    exact ent_named h2
  have k2 : (cs.toList.drop 6).take 3 = [.string ⟨#[103, 116]⟩, .int .u8 62, .bool true] := by
    obtain ⟨f', d, q, h1, h2⟩ := Lib.array_elem Tryz.underlying153 hd 2 (by omega)
    rw [hc3] at h2
    obtain rfl : namedData [103, 116] 62 true = d := Option.some.inj h1
    exact ent_named h2
  have k3 : (cs.toList.drop 9).take 3 = [.string ⟨#[113, 117, 111, 116]⟩, .int .u8 34, .bool true] := by
    obtain ⟨f', d, q, h1, h2⟩ := Lib.array_elem Tryz.underlying153 hd 3 (by omega)
    rw [hc3] at h2
    obtain rfl : namedData [113, 117, 111, 116] 34 true = d := Option.some.inj h1
    exact ent_named h2
  have k4 : (cs.toList.drop 12).take 3 = [.string ⟨#[97, 112, 111, 115]⟩, .int .u8 39, .bool false] := by
    obtain ⟨f', d, q, h1, h2⟩ := Lib.array_elem Tryz.underlying153 hd 4 (by omega)
    rw [hc3] at h2
    obtain rfl : namedData [97, 112, 111, 115] 39 false = d := Option.some.inj h1
    exact ent_named h2
  have hlen : cs.toList.length = 15 := by
    cases fuel with
    | zero => simp [DataW.trod] at hd
    | succ fuel =>
      unfold DataW.trod at hd
      simp only [Tryz.underlying153] at hd
      split at hd
      · rename_i hl
        exact hl.trans (by kernel_rfl)
      · cases hd
  have hcs : cs = nameCells := by
    obtain ⟨L⟩ := cs
    simp only at hlen k0 k1 k2 k3 k4
    match L, hlen with
    | [a0, a1, a2, a3, a4, a5, a6, a7, a8, a9, a10, a11, a12, a13, a14], _ =>
      simp at k0 k1 k2 k3 k4
      obtain ⟨rfl, rfl, rfl⟩ := k0
      obtain ⟨rfl, rfl, rfl⟩ := k1
      obtain ⟨rfl, rfl, rfl⟩ := k2
      obtain ⟨rfl, rfl, rfl⟩ := k3
      obtain ⟨rfl, rfl, rfl⟩ := k4
      rfl
  subst hcs
  unfold World.var? at hv
  rw [hg'] at hv
  simp only [Option.bind_some] at hv
  split at hv
  · rename_i cs' t fr heq
    obtain rfl := Option.some.inj hv
    exact ⟨t, fr, heq⟩
  · cases hv
theorem ent_syn {W : World} (h : Lib.VarReads Tryz.prog W "strconv.ErrSyntax" synData) : ∃ te pe, W.cell? ⟨5, 0, none⟩ = some (.iface te pe) := by
  obtain ⟨g, t, cs, fuel, p, hg, ht, hv, hd⟩ := h
  have hg' : Tryz.prog.globalNamed "strconv.ErrSyntax" = some 5 := by kernel_rfl
  obtain rfl := Option.some.inj (hg'.symm.trans hg)
  have ht' : (Tryz.prog.globals[5]?).map (·.type) = some 94 := by kernel_rfl
  obtain rfl := Option.some.inj (ht'.symm.trans ht)
  obtain ⟨f', u, v, hc, _, _⟩ := iface_of_trod Tryz.underlying94 hd
  refine ⟨u, v, ?_⟩
  have := World.var?_cell hg' hv 0
  rw [this, ← Array.getElem?_toList, hc]; rfl
/-- What the walks of entity ask. -/
theorem entV_of {W : World} (hsh : W.ShapedOpen Tryz.prog) (h1 : Lib.VarReads Tryz.prog W "galliard/entity.names" namesData) (h2 : Lib.VarReads Tryz.prog W "galliard/entity.bases" basesData) (h3 : Lib.VarReads Tryz.prog W "strconv.ErrSyntax" synData) : EntV W := by
  have hb := ent_bases h2
  have hg : Tryz.prog.globalNamed "galliard/entity.bases" = some 4 := by kernel_rfl
  exact ⟨ent_names h1, hb.cell hg 0 (by decide), hb.cell hg 1 (by decide), ent_syn h3, Tryz.laysM145.s1_3 W hsh⟩

end Go.Proofs.YtekmenkebokdoaaGreatDoor
