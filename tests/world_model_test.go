package tests

import (
	"fmt"
	"regexp"
	"slices"
	"strconv"
	"strings"

	"loop.example/headrace/impl"
)

// The model of worlds: a world is its parts as they are handed out, and what is wrong in them is told by names; whether an act is refused by asking for all refusals that hold; what is done by the model of nodes. Texts of the head are read by a regular expression a line.

func wrongInWorld(w impl.World) []string {
	var f faults
	f.unless(modelRegOk(w.Reg), "reg")
	f.unless(len(w.Mills) > 1, "few mills")
	f.unless(len(w.Mills) < 6, "many mills")
	for i, m := range w.Mills {
		f.unless(modelMillOk(m), "mill")
		f.unless(m.Home == i, "place")
	}
	f.unless(len(w.Way) < 301, "way")
	for _, b := range w.Way {
		f.unless(len(b) < 261, "bytes")
	}
	return f
}

func modelWorldOk(w impl.World) bool { return len(wrongInWorld(w)) == 0 }

func modelNew(nodes int) (impl.World, bool) {
	var w impl.World
	for home := range max(0, min(nodes, 10)) {
		w.Mills = append(w.Mills, impl.Mill{Home: home, Disk: impl.Disk{Fuse: -1}})
	}
	if !modelWorldOk(w) {
		return impl.World{}, false
	}
	return w, true
}

// copyOfWorld has lists of its own.
func copyOfWorld(w impl.World) impl.World {
	then := impl.World{Reg: impl.Reg{Sigs: slices.Clone(w.Reg.Sigs), Gone: slices.Clone(w.Reg.Gone)}}
	for _, m := range w.Mills {
		then.Mills = append(then.Mills, copyOfMill(m))
	}
	for _, b := range w.Way {
		then.Way = append(then.Way, slices.Clone(b))
	}
	return then
}

func sameWay(a, b [][]byte) bool {
	return slices.EqualFunc(a, b, func(a, b []byte) bool { return string(a) == string(b) })
}

func sameMills(a, b []impl.Mill) bool { return slices.EqualFunc(a, b, sameMill) }

func sameWorld(a, b impl.World) bool {
	return sameReg(a.Reg, b.Reg) && sameMills(a.Mills, b.Mills) && sameWay(a.Way, b.Way)
}

func worldText(w impl.World) string {
	text := fmt.Sprintf("%+v\n", w.Reg)
	for _, m := range w.Mills {
		text += millText(m) + "\n"
	}
	return text + modelWay(w)
}

// modelWay is what is under way, as the head tells it.
func modelWay(w impl.World) string {
	if len(w.Way) == 0 {
		return "-"
	}
	text := ""
	for i, b := range w.Way {
		if i > 0 {
			text += "; "
		}
		if s, ok := modelSayRead(string(b)); ok {
			text += modelLine(s)
		}
	}
	return text
}

func sigOfName(r impl.Reg, name string) (impl.Sig, bool) {
	if at := slices.Index(sigNames(r), name); at >= 0 {
		return r.Sigs[at], true
	}
	return impl.Sig{}, false
}

// nodeRefusals names what of a node refuses an act.
func nodeRefusals(w impl.World, home int) []string {
	if home < 0 || home > len(w.Mills)-1 {
		return []string{"node"}
	}
	if w.Mills[home].Disk.Down {
		return []string{"down"}
	}
	return nil
}

func placeRefusals(w impl.World, at int) []string {
	if at < 0 || at > len(w.Way)-1 {
		return []string{"place"}
	}
	return nil
}

func roomRefusals(w impl.World) []string {
	if len(w.Way) > 299 {
		return []string{"room"}
	}
	return nil
}

// millRefusals asks the node, if there is one that can be asked.
func millRefusals(w impl.World, home int, asked func(m impl.Mill) int, taken ...int) []string {
	if away := nodeRefusals(w, home); away != nil {
		return away
	}
	if !slices.Contains(taken, asked(w.Mills[home])) {
		return []string{"mill"}
	}
	return nil
}

func diskRefusals(w impl.World, home int, does func(m impl.Mill) bool) []string {
	if home < 0 || home > len(w.Mills)-1 {
		return []string{"node"}
	}
	if !does(w.Mills[home]) {
		return []string{"disk"}
	}
	return nil
}

func modelRiseAt(m impl.Mill, fuse int) answer {
	return millCall{kind: callRise, num: fuse}.model(m)
}

// refusals names all that refuse an act.
func refusals(w impl.World, a impl.Act) []string {
	var why []string
	switch a.Kind {
	case impl.ActDefine:
		if _, code := modelAdd(w.Reg, impl.Sig{Name: a.Name, Home: a.Node, Body: a.Text}); code != impl.RegDone {
			why = append(why, "reg")
		}
		return append(why, millRefusals(w, a.Node, func(m impl.Mill) int { return modelDefine(m, a.Name, a.Text).code }, impl.MillDone, impl.MillDown)...)
	case impl.ActRemove:
		if _, code := modelDrop(w.Reg, a.Name); code != impl.RegDone {
			why = append(why, "reg")
		}
		if s, there := sigOfName(w.Reg, a.Name); there {
			why = append(why, millRefusals(w, s.Home, func(m impl.Mill) int { return modelRemove(m, a.Name).code }, impl.MillDone, impl.MillDown, impl.MillNone)...)
		}
		return why
	case impl.ActSet:
		s, there := sigOfName(w.Reg, a.Name)
		if !there {
			return []string{"reg"}
		}
		return nodeRefusals(w, s.Home)
	case impl.ActTick:
		return nodeRefusals(w, a.Node)
	case impl.ActGive, impl.ActLose:
		return placeRefusals(w, a.N)
	case impl.ActCopy:
		return append(placeRefusals(w, a.N), roomRefusals(w)...)
	case impl.ActJunk:
		if len(a.Raw) > 260 {
			why = append(why, "bytes")
		}
		return append(why, roomRefusals(w)...)
	case impl.ActFuse:
		why = nodeRefusals(w, a.Node)
		if a.N < -1 || a.N > 400 {
			why = append(why, "fuse")
		}
		return why
	case impl.ActFall:
		return diskRefusals(w, a.Node, func(m impl.Mill) bool {
			_, ok := modelFall(shelfOf(m.Disk), a.N)
			return ok
		})
	case impl.ActRise:
		return diskRefusals(w, a.Node, func(m impl.Mill) bool { return modelRiseAt(m, a.N).code != impl.MillBad })
	}
	return []string{"kind"}
}

func modelDo(w impl.World, a impl.Act) (impl.World, int) {
	if a.Kind < 1 || a.Kind > 11 || !modelWorldOk(w) {
		return impl.World{}, impl.WorldBad
	}
	return modelDeed(w, a)
}

// modelDeed is an act of a kind that there is, on a world that may be.
func modelDeed(w impl.World, a impl.Act) (impl.World, int) {
	if len(refusals(w, a)) > 0 {
		return w, impl.WorldNot
	}
	then := copyOfWorld(w)
	code := impl.WorldDone
	switch a.Kind {
	case impl.ActDefine:
		then.Reg.Sigs = append(then.Reg.Sigs, impl.Sig{Name: a.Name, Home: a.Node, Body: a.Text})
		code = modelAnswered(&then, a.Node, modelDefine(w.Mills[a.Node], a.Name, a.Text))
	case impl.ActRemove:
		s, _ := sigOfName(w.Reg, a.Name)
		then.Reg, _ = modelDrop(w.Reg, a.Name)
		if code = modelAnswered(&then, s.Home, modelRemove(w.Mills[s.Home], a.Name)); code == impl.WorldNot {
			code = impl.WorldDone
		}
	case impl.ActSet:
		s, _ := sigOfName(w.Reg, a.Name)
		code = modelAnswered(&then, s.Home, modelSet(w.Mills[s.Home], a.Name, a.Val))
	case impl.ActTick:
		code = modelAnswered(&then, a.Node, modelTick(w.Mills[a.Node], w.Reg))
	case impl.ActGive:
		then.Way = append(then.Way[:a.N], then.Way[a.N+1:]...)
		s, ok := modelSayRead(string(w.Way[a.N]))
		if !ok || s.From >= len(w.Mills) || nodeRefusals(w, s.To) != nil {
			return then, impl.WorldNot
		}
		code = modelAnswered(&then, s.To, modelTake(w.Mills[s.To], s))
	case impl.ActLose:
		then.Way = append(then.Way[:a.N], then.Way[a.N+1:]...)
	case impl.ActCopy:
		then.Way = append(then.Way, slices.Clone(w.Way[a.N]))
	case impl.ActJunk:
		then.Way = append(then.Way, slices.Clone(a.Raw))
	case impl.ActFuse:
		then.Mills[a.Node].Disk.Fuse = a.N
	case impl.ActFall:
		s, _ := modelFall(shelfOf(w.Mills[a.Node].Disk), a.N)
		then.Mills[a.Node] = impl.Mill{Home: a.Node, Disk: s.disk()}
	case impl.ActRise:
		code = modelAnswered(&then, a.Node, modelRiseAt(w.Mills[a.Node], a.N))
	}
	return then, code
}

// modelAnswered puts what a node answered into the world.
func modelAnswered(w *impl.World, home int, a answer) int {
	w.Mills[home] = copyOfMill(a.m)
	for _, s := range a.says {
		w.Way = append(w.Way, []byte(modelSayBytes(s)))
	}
	w.Way = w.Way[:min(len(w.Way), 300)]
	switch a.code {
	case impl.MillDone:
		return impl.WorldDone
	case impl.MillDown:
		return impl.WorldFell
	}
	return impl.WorldNot
}

func modelWorldRead(w impl.World, name string) (impl.Item, bool) {
	s, there := sigOfName(w.Reg, name)
	if !modelWorldOk(w) || !there || s.Home > len(w.Mills)-1 {
		return impl.Item{}, false
	}
	return modelRead(w.Mills[s.Home], name)
}

func modelUp(w impl.World) (impl.World, bool) {
	if !modelWorldOk(w) {
		return impl.World{}, false
	}
	then := copyOfWorld(w)
	for i, m := range w.Mills {
		if m.Disk.Down {
			a := modelRiseAt(m, -1)
			if a.code != impl.MillDone {
				return impl.World{}, false
			}
			then.Mills[i] = a.m
		}
		then.Mills[i].Disk.Fuse = -1
	}
	return then, true
}

func modelEmpty(w impl.World) impl.World {
	for len(w.Way) > 0 {
		w, _ = modelDeed(w, impl.Act{Kind: impl.ActGive})
	}
	return w
}

func modelFair(w impl.World) (impl.World, bool) {
	if !modelWorldOk(w) {
		return impl.World{}, false
	}
	w = modelEmpty(w)
	for home := range w.Mills {
		w, _ = modelDeed(w, impl.Act{Kind: impl.ActTick, Node: home})
	}
	return modelEmpty(w), true
}

// modelLast goes through all names that there could be, in order, and asks for each.
func modelLast(w impl.World) []impl.Mark {
	var last []impl.Mark
	names := sigNames(w.Reg)
	slices.Sort(names)
	for _, name := range names {
		s, _ := sigOfName(w.Reg, name)
		it, shows := modelWorldRead(w, name)
		if v, has := versionsOf(it.Stamp)[name]; s.Body == "" && shows && has {
			last = append(last, impl.Mark{Src: name, Ver: v})
		}
	}
	return last
}

func modelCalm(w impl.World) bool {
	if !modelWorldOk(w) {
		return false
	}
	var b []impl.Bind
	for _, s := range w.Reg.Sigs {
		if it, shows := modelWorldRead(w, s.Name); shows && s.Body == "" {
			b = append(b, impl.Bind{Name: s.Name, Val: it.Val})
		}
	}
	last := versionsOf(modelLast(w))
	for name, val := range modelMeanings(w.Reg, b) {
		want := versions{}
		for _, src := range modelSources(w.Reg, name) {
			if v, has := last[src]; has {
				want[src] = v
			}
		}
		if it, shows := modelWorldRead(w, name); !shows || it.Val != val || !sameMarks(it.Stamp, want.marks()) {
			return false
		}
	}
	return true
}

func modelCount(w impl.World) [4]int {
	var n [4]int
	if !modelWorldOk(w) {
		return n
	}
	for _, m := range w.Mills {
		n[1] += len(m.Subs)
		for _, c := range m.Cells {
			n[0] += len(slices.Concat(c.Wins...))
			n[2] += oneIf(c.Has)
		}
	}
	n[3] = len(w.Way)
	return n
}

func countOf(w impl.World) [4]int {
	items, wishes, shown, way := impl.WorldCount(w)
	return [4]int{items, wishes, shown, way}
}

// Lines of the head.

const numberForm = `(0|-?[1-9][0-9]*)`

var lineForms = []struct {
	form *regexp.Regexp
	act  func(w []string) impl.Act
}{
	{headForm(`source N W`), func(w []string) impl.Act {
		return impl.Act{Kind: impl.ActDefine, Node: modelInt(w[0]), Name: w[1]}
	}},
	{headForm(`define N W (.*)`), func(w []string) impl.Act {
		return impl.Act{Kind: impl.ActDefine, Node: modelInt(w[0]), Name: w[1], Text: w[2]}
	}},
	{headForm(`remove W`), func(w []string) impl.Act { return impl.Act{Kind: impl.ActRemove, Name: w[0]} }},
	{headForm(`set W N`), func(w []string) impl.Act {
		return impl.Act{Kind: impl.ActSet, Name: w[0], Val: modelInt(w[1])}
	}},
	{headForm(`tick N`), func(w []string) impl.Act { return impl.Act{Kind: impl.ActTick, Node: modelInt(w[0])} }},
	{headForm(`give N`), func(w []string) impl.Act { return impl.Act{Kind: impl.ActGive, N: modelInt(w[0])} }},
	{headForm(`lose N`), func(w []string) impl.Act { return impl.Act{Kind: impl.ActLose, N: modelInt(w[0])} }},
	{headForm(`copy N`), func(w []string) impl.Act { return impl.Act{Kind: impl.ActCopy, N: modelInt(w[0])} }},
	{headForm(`fuse N N`), func(w []string) impl.Act {
		return impl.Act{Kind: impl.ActFuse, Node: modelInt(w[0]), N: modelInt(w[1])}
	}},
	{headForm(`fall N N`), func(w []string) impl.Act {
		return impl.Act{Kind: impl.ActFall, Node: modelInt(w[0]), N: modelInt(w[1])}
	}},
	{headForm(`rise N N`), func(w []string) impl.Act {
		return impl.Act{Kind: impl.ActRise, Node: modelInt(w[0]), N: modelInt(w[1])}
	}},
}

var (
	readForm  = headForm(`read W`)
	readsForm = headForm(`reads N (.*)`)
)

func headForm(text string) *regexp.Regexp {
	text = strings.ReplaceAll(strings.ReplaceAll(text, "W", `([^ ]*)`), "N", numberForm)
	return regexp.MustCompile(`(?s)^` + text + `$`)
}

// fits tells whether a number that has the form is one of 64 bits.
func fits(text string) bool {
	_, err := strconv.ParseInt(text, 10, 64)
	return err == nil
}

func modelInt(text string) int {
	n, _ := strconv.ParseInt(text, 10, 64)
	return int(n)
}

// lineParts are the words of a line of some form; none where it is of another one, or a number is too great.
func lineParts(form *regexp.Regexp, line string) []string {
	parts := form.FindStringSubmatch(line)
	if parts == nil {
		return nil
	}
	places := strings.Split(strings.ReplaceAll(form.String(), numberForm, "(N)"), "(")
	for i, part := range parts[1:] {
		if strings.HasPrefix(places[i+2], "N)") && !fits(part) {
			return nil
		}
	}
	return parts[1:]
}

// modelTold is what a line tells, and the world behind it.
func modelTold(w impl.World, line string) (impl.World, string) {
	for _, f := range lineForms {
		if words := lineParts(f.form, line); words != nil {
			then, code := modelDeed(w, f.act(words))
			return then, map[int]string{impl.WorldDone: "ok", impl.WorldFell: "fell", impl.WorldNot: "no"}[code]
		}
	}
	shown := "no"
	if words := lineParts(readForm, line); words != nil {
		if it, ok := modelWorldRead(w, words[0]); ok {
			shown = fmt.Sprintf("%d @ %s", it.Val, modelStampText(it.Stamp))
		}
		return w, shown
	}
	if words := lineParts(readsForm, line); words != nil {
		if home := modelInt(words[0]); home >= 0 && home < 3 {
			if vals, s, ok := modelReads(w.Mills[home], strings.Split(words[1], " ")); ok {
				shown = strings.Trim(fmt.Sprint(vals), "[]") + " @ " + modelStampText(s)
			}
		}
		return w, shown
	}
	switch line {
	case "fair":
		w, _ = modelFair(w)
		return w, "ok"
	case "way":
		return w, modelWay(w)
	case "calm":
		return w, []string{"no", "yes"}[oneIf(modelCalm(w))]
	}
	return w, "?"
}

func modelHead(text string) string {
	lines := strings.Split(text, "\n")
	if len(lines) > 120 || len(text) > 6000 {
		return "long\n"
	}
	w, _ := modelNew(3)
	all := ""
	for _, line := range lines {
		if line == "" {
			continue
		}
		then, told := modelTold(w, line)
		w = then
		all += told + "\n"
	}
	return all
}
